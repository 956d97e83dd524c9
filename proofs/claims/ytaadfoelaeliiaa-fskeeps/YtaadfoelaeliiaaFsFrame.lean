/-
  Arguments that came in: a swap, a slice of calls (Deed), a slice of texts; each cell by cell.
-/
import Derived.Test.YtaadfoelaeliiaaFsCutsW
import Derived.ProofKit
import Derived.Deep.Slices
import Derived.SizedLaws
namespace Go.Proofs.Ytaadfoelaeliiaa
open Go.RowKit Go.Deep Go.ChangeShapes Go.WideShapes Go.ChangeAt

theorem mapM_get {α β : Type} (f : α → Option β) : ∀ (l : List α) (ys : List β), l.mapM f = some ys → ∀ (i : Nat) (x : α), l[i]? = some x → f x = ys[i]?
  | [], ys, _, i, x, hx => by simp at hx
  | a :: l, ys, h, i, x, hx => by
    simp only [List.mapM_cons, Option.bind_eq_bind, Option.bind_eq_some_iff, Option.pure_def, Option.some.injEq] at h
    obtain ⟨b, hb, zs, hz, rfl⟩ := h
    cases i with
    | zero => simp at hx; subst hx; simpa using hb
    | succ i => simp at hx; simpa using mapM_get f l zs hz i x hx
theorem cells_get {w : World} {base : Nat} {a : Addr} {n : Nat} {cs : List Value} (h : w.cells? base a n = some cs) (i : Nat) (hi : i < n) : w.cell? (a.add i) = cs[i]? := by
  unfold World.cells? at h
  split at h
  · exact mapM_get _ _ _ h i i (by simp [hi])
  · cases h
theorem add_spot {a : Addr} {n : Nat} (h : a.spot = none) : a.add n = ⟨a.block, a.off + n, none⟩ := by
  obtain ⟨b, o, s⟩ := a
  simp at h; subst h
  unfold Addr.add; split
  · rename_i e; subst e; rfl
  · rfl
theorem spot_none {w : World} {a : Addr} {v : Value} (h : w.cell? a = some v) : a.spot = none := by
  unfold World.cell? at h
  split at h
  · split at h
    · cases h
    · rename_i h1; simpa using h1
  · cases h
/-- A slice of ints within some other datum. -/
theorem open_rowI {H : Type} {enc : TypeId × Value → H} {W : World} {base : Nat} {held : Bool} {fuel : Nat} {v : Value} {d : DataW H} {ps : List MemPlace}
    (h : DataW.trod enc Try.prog W base (fun _ => true) held fuel 37 [v] = some (d, ps)) (hsz : ∀ n ∈ d.weights Try.prog 37, n ≤ reachBytes) : ∃ ad len cap zs, v = .slice ad len cap ∧ IsRowI W ad len cap zs := by
  rcases open_ints Try.underlying37 Try.underlying3 (by kernel_rfl) h with ⟨hcs, _⟩ | ⟨x, l, c, zs, hcs, _, hl, hm, hz, hdt, hcell, hwz⟩
  · simp at hcs
    subst hcs
    exact ⟨none, 0, 0, [], rfl, .inl ⟨rfl, rfl, rfl, rfl⟩, by omega⟩
  · simp at hcs
    subst hcs
    have hb : (List.length (lits (H := H) .i64 (zs.take l)) + List.length (lits (H := H) .i64 (zs.drop l))) * Try.prog.bytesOf 3 ≤ reachBytes := by
      refine hsz _ ?_
      rw [(Prod.mk.inj hdt).1]
      simp [DataW.weights, Try.underlying37]
    have hby : Try.prog.bytesOf 3 = 8 := by kernel_rfl
    rw [hby] at hb
    simp only [lits, List.length_map, List.length_take, List.length_drop, reachBytes] at hb
    have hz' : zs.length = c := by simpa using hz
    exact ⟨some x, l, c, zs, rfl, .inr ⟨_, rfl, hl, hm, hz', hcell, hwz⟩, by omega⟩
set_option maxRecDepth 100000 in
theorem open_swap {H : Type} {enc : TypeId × Value → H} {W : World} {r : Reach} {b0 base : Nat} {held : Bool} {v : Value} {dt : DataW H} {ps : List MemPlace} (hval : Value.okWide Try.prog W r b0 58 v) (hd : DataW.Trod enc Try.prog W base (fun _ => true) held 58 v dt ps) (hsz : ∀ n ∈ dt.weights Try.prog 58, n ≤ reachBytes) :
    ∃ a0 a1 k ad len cap zs, v = .agg #[.string a0, .string a1, .int .i64 k, .slice ad len cap] ∧ IsRowI W ad len cap zs := by
  have hc : Try.prog.cellsOf 58 = 4 := by kernel_rfl
  simp only [Value.okWide, Try.underlying58] at hval
  obtain ⟨cs, rfl, _, _⟩ := hval
  obtain ⟨fuel, hf⟩ := hd
  obtain ⟨xs, k, _, hdt, hlen, hxl, hf2⟩ := DataW.trod_struct Try.underlying58 hf
  rw [hc] at hlen
  obtain ⟨l⟩ := cs
  simp only [Value.cells] at hlen hf2
  match l, hlen with
  | [v0, v1, v2, v3], _ =>
    match xs, hxl with
    | [y0, y1, y2, y3], _ =>
      have e3 : Try.prog.cellsOf 3 = 1 := by kernel_rfl
      have e9 : Try.prog.cellsOf 9 = 1 := by kernel_rfl
      have es : Try.prog.cellsOf 37 = 1 := by kernel_rfl
      have g0 := hf2 0 _ rfl
      have g1 := hf2 1 _ rfl
      have g2 := hf2 2 _ rfl
      have g3 := hf2 3 _ rfl
      simp [e9] at g0 g1
      simp [e3] at g2
      simp [es] at g3
      obtain ⟨q0, p0, _, r0⟩ := DataW.trod_string Try.underlying9 g0
      obtain ⟨q1, p1, _, r1⟩ := DataW.trod_string Try.underlying9 g1
      obtain ⟨q2, p2, _, r2⟩ := DataW.trod_int Try.underlying3 g2
      simp at p0 p1 p2
      subst p0 p1 p2
      obtain ⟨d3, ps3⟩ := y3
      obtain ⟨ad, len, cap, zs, rfl, hr⟩ := open_rowI g3 (fun n hn => hsz n (by
        rw [(Prod.mk.inj hdt).1]
        simp only [DataW.weights, Try.underlying58]
        exact DataW.weights_mem_each (j := 3) (t := 37) (d := d3) rfl rfl n hn))
      exact ⟨_, _, _, _, _, _, _, rfl, hr⟩
/-- One call. -/
structure DeedV where
  call : Int
  name : ByteArray
  to : ByteArray
  a : Int
  b : Int
  data : ByteArray
  pad : Option Addr
  plen : Nat
  pcap : Nat
  pz : List Int
structure DeedAt (w : World) (b o : Nat) (d : DeedV) : Prop where
  c0 : w.cell? ⟨b, o, none⟩ = some (.int .i64 d.call)
  c1 : w.cell? ⟨b, o + 1, none⟩ = some (.string d.name)
  c2 : w.cell? ⟨b, o + 2, none⟩ = some (.string d.to)
  c3 : w.cell? ⟨b, o + 3, none⟩ = some (.int .i64 d.a)
  c4 : w.cell? ⟨b, o + 4, none⟩ = some (.int .i64 d.b)
  c5 : w.cell? ⟨b, o + 5, none⟩ = some (.string d.data)
  c6 : w.cell? ⟨b, o + 6, none⟩ = some (.slice d.pad d.plen d.pcap)
  f0 : (Lit.int .i64 d.call).wf = true
  f3 : (Lit.int .i64 d.a).wf = true
  f4 : (Lit.int .i64 d.b).wf = true
  n1 : d.name.size ≤ maxLen
  n2 : d.to.size ≤ maxLen
  n5 : d.data.size ≤ maxLen
  r : IsRowI w d.pad d.plen d.pcap d.pz
def IsDeeds (w : World) (a : Option Addr) (len cap : Nat) : Prop :=
  len ≤ cap ∧ cap ≤ maxLen ∧ ∀ i, i < len → ∃ b off, a = some ⟨b, off, none⟩ ∧ b < w.heap.size ∧ ∃ d, DeedAt w b (off + i * 7) d
theorem Try.cells39 : Try.prog.cellsOf 39 = 7 := by kernel_rfl
theorem mem_weightsAll {H : Type} {P : Program} {e : TypeId} : ∀ {l : List (DataW H)} {d : DataW H}, d ∈ l → ∀ n ∈ d.weights P e, n ∈ DataW.weightsAll P e l
  | [], d, h, _, _ => by cases h
  | x :: r, d, h, n, hn => by
    simp only [DataW.weightsAll, List.mem_append]
    rcases List.mem_cons.1 h with rfl | h
    · exact .inl hn
    · exact .inr (mem_weightsAll h n hn)
set_option maxRecDepth 100000 in
theorem open_deeds {H : Type} {enc : TypeId × Value → H} {w : World} {base : Nat} {held : Bool} {fuel : Nat} {a : Option Addr} {len cap : Nat} {d : DataW H} {ps : List MemPlace}
    (h : DataW.trod enc Try.prog w base (fun _ => true) held fuel 22 [.slice a len cap] = some (d, ps)) (hsz : ∀ n ∈ d.weights Try.prog 22, n ≤ reachBytes) : IsDeeds w a len cap := by
  rcases open_slice Try.underlying22 h with ⟨hcs, _⟩ | ⟨ad, l, c, m, n, D, Pl, hcs, hb, hl, hm, hmm, hx, hel⟩
  · simp at hcs
    obtain ⟨rfl, rfl, rfl⟩ := hcs
    exact ⟨Nat.le_refl _, Nat.zero_le _, fun i hi => by omega⟩
  · simp at hcs
    obtain ⟨rfl, rfl, rfl⟩ := hcs
    refine ⟨hl, hm, fun i hi => ?_⟩
    have him : i < m := by rw [hmm]; split <;> omega
    have hsp : ad.spot = none := by
      obtain ⟨cs0, hc0, ht0⟩ := hel 0 (by omega)
      obtain ⟨_, _, _, _, hlen0, _⟩ := DataW.trod_struct Try.underlying39 ht0
      rw [Try.cells39] at hc0 hlen0
      have h2 := cells_get hc0 0 (by omega)
      match cs0, hlen0 with
      | v :: _, _ => exact spot_none (v := v) (by simpa [Addr.add] using h2)
    obtain ⟨cs', hc, ht⟩ := hel i him
    rw [Try.cells39] at hc
    have hszD : ∀ n ∈ (D i).weights Try.prog 39, n ≤ reachBytes := fun n hn => hsz n (by
      rw [(Prod.mk.inj hx).1]
      simp only [DataW.weights, Try.underlying22]
      refine List.mem_cons_of_mem _ (List.mem_append.2 (.inl (mem_weightsAll (d := D i) ?_ n hn)))
      exact List.mem_map.2 ⟨i, List.mem_range.2 hi, rfl⟩)
    obtain ⟨xs, k, _, hdt, hlen, hxl, hf⟩ := DataW.trod_struct Try.underlying39 ht
    rw [Try.cells39] at hlen
    match cs', hlen with
    | [v0, v1, v2, v3, v4, v5, v6], _ =>
      match xs, hxl with
      | [y0, y1, y2, y3, y4, y5, y6], _ =>
        have e3 : Try.prog.cellsOf 3 = 1 := by kernel_rfl
        have e9 : Try.prog.cellsOf 9 = 1 := by kernel_rfl
        have es : Try.prog.cellsOf 37 = 1 := by kernel_rfl
        have g0 := hf 0 _ rfl
        have g1 := hf 1 _ rfl
        have g2 := hf 2 _ rfl
        have g3 := hf 3 _ rfl
        have g4 := hf 4 _ rfl
        have g5 := hf 5 _ rfl
        have g6 := hf 6 _ rfl
        simp [e3] at g0 g3 g4
        simp [e9] at g1 g2 g5
        simp [es] at g6
        obtain ⟨q0, p0, _, r0⟩ := DataW.trod_int Try.underlying3 g0
        obtain ⟨q1, p1, _, r1⟩ := DataW.trod_string Try.underlying9 g1
        obtain ⟨q2, p2, _, r2⟩ := DataW.trod_string Try.underlying9 g2
        obtain ⟨q3, p3, _, r3⟩ := DataW.trod_int Try.underlying3 g3
        obtain ⟨q4, p4, _, r4⟩ := DataW.trod_int Try.underlying3 g4
        obtain ⟨q5, p5, _, r5⟩ := DataW.trod_string Try.underlying9 g5
        simp at p0 p1 p2 p3 p4 p5
        subst p0 p1 p2 p3 p4 p5
        obtain ⟨d6, ps6⟩ := y6
        obtain ⟨pad, plen, pcap, pz, rfl, hr⟩ := open_rowI g6 (fun n hn => hszD n (by
          rw [(Prod.mk.inj hdt).1]
          simp only [DataW.weights, Try.underlying39]
          exact DataW.weights_mem_each (j := 6) (t := 37) (d := d6) rfl rfl n hn))
        have k0 := cells_get hc 0 (by omega)
        have k1 := cells_get hc 1 (by omega)
        have k2 := cells_get hc 2 (by omega)
        have k3 := cells_get hc 3 (by omega)
        have k4 := cells_get hc 4 (by omega)
        have k5 := cells_get hc 5 (by omega)
        have k6 := cells_get hc 6 (by omega)
        have hadd : ∀ c, (ad.add (i * 7)).add c = ⟨ad.block, ad.off + i * 7 + c, none⟩ := fun c => by
          rw [add_spot hsp, add_spot rfl]
        rw [Try.cells39] at *
        rw [hadd] at k0 k1 k2 k3 k4 k5 k6
        refine ⟨ad.block, ad.off, ?_, World.block_lt_of_cell? w ⟨ad.block, ad.off + i * 7 + 0, none⟩ (u := .int .i64 q0) (k0.trans rfl), ⟨q0, q1, q2, q3, q4, q5, pad, plen, pcap, pz⟩, ⟨k0.trans rfl, k1.trans rfl, k2.trans rfl, k3.trans rfl, k4.trans rfl, k5.trans rfl, k6.trans rfl, r0, r3, r4, r1, r2, r5, hr⟩⟩
        cases ad; simp at hsp; subst hsp; rfl
theorem DeedAt.keep {w w' : World} {b o : Nat} {d : DeedV} (h : DeedAt w b o d) (hb : Below w.heap.size w w') (hlt : b < w.heap.size) : DeedAt w' b o d :=
  ⟨(hb.cell (p := ⟨b, o, none⟩) hlt).trans h.c0, (hb.cell (p := ⟨b, o + 1, none⟩) hlt).trans h.c1, (hb.cell (p := ⟨b, o + 2, none⟩) hlt).trans h.c2, (hb.cell (p := ⟨b, o + 3, none⟩) hlt).trans h.c3, (hb.cell (p := ⟨b, o + 4, none⟩) hlt).trans h.c4, (hb.cell (p := ⟨b, o + 5, none⟩) hlt).trans h.c5, (hb.cell (p := ⟨b, o + 6, none⟩) hlt).trans h.c6, h.f0, h.f3, h.f4, h.n1, h.n2, h.n5, h.r.1.keep hb, h.r.2⟩
end Go.Proofs.Ytaadfoelaeliiaa
