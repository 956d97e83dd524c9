/-
  Arguments that came in: a row of turns, of texts, of bools; each cell by cell.
-/
import Derived.Test.YtadnecgcoceklaaGreatDoorWalW1
import Derived.ProofKit
import Derived.Deep.Slices
import Derived.Deep.Grids
import Derived.SizedLaws
import Derived.SliceStrings
namespace Go.Proofs.YtadnecgcoceklaaGreatDoor
open Go.RowKit Go.Deep Go.ChangeShapes Go.WideShapes Go.ChangeAt

/-- A slice of ints that came in, with the bound on its bytes. -/
def IsRowI (w : World) (a : Option Addr) (len cap : Nat) (zs : List Int) : Prop := IsRow .i64 w a len cap zs ∧ cap * 8 ≤ 140737488351232
theorem IsRow.keep {k : IntKind} {w w' : World} {a : Option Addr} {len cap : Nat} {zs : List Int} (h : IsRow k w a len cap zs) (hb : Below w.heap.size w w') : IsRow k w' a len cap zs := by
  rcases h with h | ⟨x, h1, h2, h3, h4, h5, h6⟩
  · exact .inl h
  · refine .inr ⟨x, h1, h2, h3, h4, fun i hi => ?_, h6⟩
    have hc := h5 i hi
    exact (hb.cell (p := x.add i) (World.block_lt_of_cell? w _ hc)).trans hc
theorem modU (x n : Int) (h0 : 0 < n) (h1 : n < 4611686018427387904) : ∃ R : Nat, (R : Int) < n ∧ wrap64 ((IntKind.u64.wrap x).tmod n) = (R : Int) ∧ IntKind.i64.wrap ((IntKind.u64.wrap x).tmod n) = (R : Int) ∧ (R : Int) = (x % 18446744073709551616) % n := by
  have e : (IntKind.u64.wrap x).tmod n = (x % 18446744073709551616) % n := by
    rw [u64_val, Int.tmod_eq_emod_of_nonneg (by omega)]
  have hr0 := Int.emod_nonneg (x % 18446744073709551616) (show n ≠ 0 by omega)
  have hr1 := Int.emod_lt_of_pos (x % 18446744073709551616) h0
  refine ⟨((x % 18446744073709551616) % n).toNat, by omega, ?_, ?_, by omega⟩
  · rw [e]; unfold wrap64; omega
  · rw [e, IntWalk.i64_in _ (by omega)]; omega
theorem mapM_get {α β : Type} (f : α → Option β) : ∀ (l : List α) (ys : List β), l.mapM f = some ys → ∀ (i : Nat) (x : α), l[i]? = some x → f x = ys[i]?
  | [], ys, _, i, x, hx => by simp at hx
  | a :: l, ys, h, i, x, hx => by
    simp only [List.mapM_cons, Option.bind_eq_bind, Option.bind_eq_some_iff, Option.pure_def, Option.some.injEq] at h
    obtain ⟨b, hb, zs, hz, rfl⟩ := h
    cases i with
    | zero => simp at hx; subst hx; simpa using hb
    | succ i => simp at hx; simpa using mapM_get f l zs hz i x hx
theorem cells_get {w : World} {base : Nat} {a : Addr} {n : Nat} {cs : List Value} (h : w.cells? base a n = some cs) (i : Nat) (hi : i < n) : w.cell? (a.add i) = cs[i]? := by
  unfold World.cells? at h
  split at h
  · exact mapM_get _ _ _ h i i (by simp [hi])
  · cases h
theorem add_spot {a : Addr} {n : Nat} (h : a.spot = none) : a.add n = ⟨a.block, a.off + n, none⟩ := by
  obtain ⟨b, o, s⟩ := a
  simp at h; subst h
  unfold Addr.add; split
  · rename_i e; subst e; rfl
  · rfl
theorem spot_none {w : World} {a : Addr} {v : Value} (h : w.cell? a = some v) : a.spot = none := by
  unfold World.cell? at h
  split at h
  · split at h
    · cases h
    · rename_i h1; simpa using h1
  · cases h
/-- A slice of ints within some other datum. -/
theorem open_rowI {H : Type} {enc : TypeId × Value → H} {W : World} {base : Nat} {held : Bool} {fuel : Nat} {v : Value} {d : DataW H} {ps : List MemPlace}
    (h : DataW.trod enc Tryz.prog W base (fun _ => true) held fuel 44 [v] = some (d, ps)) (hsz : ∀ n ∈ d.weights Tryz.prog 44, n ≤ reachBytes) : ∃ ad len cap zs, v = .slice ad len cap ∧ IsRowI W ad len cap zs := by
  rcases open_ints Tryz.underlying44 Tryz.underlying3 (by kernel_rfl) h with ⟨hcs, _⟩ | ⟨x, l, c, zs, hcs, _, hl, hm, hz, hdt, hcell, hwz⟩
  · simp at hcs
    subst hcs
    exact ⟨none, 0, 0, [], rfl, .inl ⟨rfl, rfl, rfl, rfl⟩, by omega⟩
  · simp at hcs
    subst hcs
    have hb : (List.length (lits (H := H) .i64 (zs.take l)) + List.length (lits (H := H) .i64 (zs.drop l))) * Tryz.prog.bytesOf 3 ≤ reachBytes := by
      refine hsz _ ?_
      rw [(Prod.mk.inj hdt).1]
      simp [DataW.weights, Tryz.underlying44]
    have hby : Tryz.prog.bytesOf 3 = 8 := by kernel_rfl
    rw [hby] at hb
    simp only [lits, List.length_map, List.length_take, List.length_drop, reachBytes] at hb
    have hz' : zs.length = c := by simpa using hz
    exact ⟨some x, l, c, zs, rfl, .inr ⟨_, rfl, hl, hm, hz', hcell, hwz⟩, by omega⟩
/-- One turn. -/
structure TurnV where
  call : Int
  n : Int
  lim : Int
  sync : Bool
  txt : ByteArray
  pad : Option Addr
  plen : Nat
  pcap : Nat
  pz : List Int
structure TurnAt (w : World) (b o : Nat) (d : TurnV) : Prop where
  c0 : w.cell? ⟨b, o, none⟩ = some (.int .i64 d.call)
  c1 : w.cell? ⟨b, o + 1, none⟩ = some (.int .i64 d.n)
  c2 : w.cell? ⟨b, o + 2, none⟩ = some (.int .i64 d.lim)
  c3 : w.cell? ⟨b, o + 3, none⟩ = some (.bool d.sync)
  c4 : w.cell? ⟨b, o + 4, none⟩ = some (.string d.txt)
  c5 : w.cell? ⟨b, o + 5, none⟩ = some (.slice d.pad d.plen d.pcap)
  f0 : (Lit.int .i64 d.call).wf = true
  f1 : (Lit.int .i64 d.n).wf = true
  f2 : (Lit.int .i64 d.lim).wf = true
  n4 : d.txt.size ≤ maxLen
  r : IsRowI w d.pad d.plen d.pcap d.pz
def IsTurns (w : World) (a : Option Addr) (len cap : Nat) : Prop :=
  len ≤ cap ∧ cap ≤ maxLen ∧ ∀ i, i < len → ∃ b off, a = some ⟨b, off, none⟩ ∧ b < w.heap.size ∧ ∃ d, TurnAt w b (off + i * 6) d
theorem Tryz.cells46 : Tryz.prog.cellsOf 46 = 6 := by kernel_rfl
theorem mem_weightsAll {H : Type} {P : Program} {e : TypeId} : ∀ {l : List (DataW H)} {d : DataW H}, d ∈ l → ∀ n ∈ d.weights P e, n ∈ DataW.weightsAll P e l
  | [], d, h, _, _ => by cases h
  | x :: r, d, h, n, hn => by
    simp only [DataW.weightsAll, List.mem_append]
    rcases List.mem_cons.1 h with rfl | h
    · exact .inl hn
    · exact .inr (mem_weightsAll h n hn)
set_option maxRecDepth 100000 in
theorem open_turns {H : Type} {enc : TypeId × Value → H} {w : World} {base : Nat} {held : Bool} {fuel : Nat} {a : Option Addr} {len cap : Nat} {d : DataW H} {ps : List MemPlace}
    (h : DataW.trod enc Tryz.prog w base (fun _ => true) held fuel 22 [.slice a len cap] = some (d, ps)) (hsz : ∀ n ∈ d.weights Tryz.prog 22, n ≤ reachBytes) : IsTurns w a len cap := by
  rcases open_slice Tryz.underlying22 h with ⟨hcs, _⟩ | ⟨ad, l, c, m, n, D, Pl, hcs, hb, hl, hm, hmm, hx, hel⟩
  · simp at hcs
    obtain ⟨rfl, rfl, rfl⟩ := hcs
    exact ⟨Nat.le_refl _, Nat.zero_le _, fun i hi => by omega⟩
  · simp at hcs
    obtain ⟨rfl, rfl, rfl⟩ := hcs
    refine ⟨hl, hm, fun i hi => ?_⟩
    have him : i < m := by rw [hmm]; split <;> omega
    have hsp : ad.spot = none := by
      obtain ⟨cs0, hc0, ht0⟩ := hel 0 (by omega)
      obtain ⟨_, _, _, _, hlen0, _⟩ := DataW.trod_struct Tryz.underlying46 ht0
      rw [Tryz.cells46] at hc0 hlen0
      have h2 := cells_get hc0 0 (by omega)
      match cs0, hlen0 with
      | v :: _, _ => exact spot_none (v := v) (by simpa [Addr.add] using h2)
    obtain ⟨cs', hc, ht⟩ := hel i him
    rw [Tryz.cells46] at hc
    have hszD : ∀ n ∈ (D i).weights Tryz.prog 46, n ≤ reachBytes := fun n hn => hsz n (by
      rw [(Prod.mk.inj hx).1]
      simp only [DataW.weights, Tryz.underlying22]
      refine List.mem_cons_of_mem _ (List.mem_append.2 (.inl (mem_weightsAll (d := D i) ?_ n hn)))
      exact List.mem_map.2 ⟨i, List.mem_range.2 hi, rfl⟩)
    obtain ⟨xs, k, _, hdt, hlen, hxl, hf⟩ := DataW.trod_struct Tryz.underlying46 ht
    rw [Tryz.cells46] at hlen
    match cs', hlen with
    | [v0, v1, v2, v3, v4, v5], _ =>
      match xs, hxl with
      | [y0, y1, y2, y3, y4, y5], _ =>
        have e3 : Tryz.prog.cellsOf 3 = 1 := by kernel_rfl
        have e4 : Tryz.prog.cellsOf 4 = 1 := by kernel_rfl
        have e9 : Tryz.prog.cellsOf 9 = 1 := by kernel_rfl
        have es : Tryz.prog.cellsOf 44 = 1 := by kernel_rfl
        have g0 := hf 0 _ rfl
        have g1 := hf 1 _ rfl
        have g2 := hf 2 _ rfl
        have g3 := hf 3 _ rfl
        have g4 := hf 4 _ rfl
        have g5 := hf 5 _ rfl
        simp [e3] at g0 g1 g2
        simp [e4] at g3
        simp [e9] at g4
        simp [es] at g5
        obtain ⟨q0, p0, _, r0⟩ := DataW.trod_int Tryz.underlying3 g0
        obtain ⟨q1, p1, _, r1⟩ := DataW.trod_int Tryz.underlying3 g1
        obtain ⟨q2, p2, _, r2⟩ := DataW.trod_int Tryz.underlying3 g2
        obtain ⟨q3, p3, _⟩ := DataW.trod_bool Tryz.underlying4 g3
        obtain ⟨q4, p4, _, r4⟩ := DataW.trod_string Tryz.underlying9 g4
        simp at p0 p1 p2 p3 p4
        subst p0 p1 p2 p3 p4
        obtain ⟨d5, ps5⟩ := y5
        obtain ⟨pad, plen, pcap, pz, rfl, hr⟩ := open_rowI g5 (fun n hn => hszD n (by
          rw [(Prod.mk.inj hdt).1]
          simp only [DataW.weights, Tryz.underlying46]
          exact DataW.weights_mem_each (j := 5) (t := 44) (d := d5) rfl rfl n hn))
        have k0 := cells_get hc 0 (by omega)
        have k1 := cells_get hc 1 (by omega)
        have k2 := cells_get hc 2 (by omega)
        have k3 := cells_get hc 3 (by omega)
        have k4 := cells_get hc 4 (by omega)
        have k5 := cells_get hc 5 (by omega)
        have hadd : ∀ c, (ad.add (i * 6)).add c = ⟨ad.block, ad.off + i * 6 + c, none⟩ := fun c => by
          rw [add_spot hsp, add_spot rfl]
        rw [Tryz.cells46] at *
        rw [hadd] at k0 k1 k2 k3 k4 k5
        refine ⟨ad.block, ad.off, ?_, World.block_lt_of_cell? w ⟨ad.block, ad.off + i * 6 + 0, none⟩ (u := .int .i64 q0) (k0.trans rfl), ⟨q0, q1, q2, q3, q4, pad, plen, pcap, pz⟩, ⟨k0.trans rfl, k1.trans rfl, k2.trans rfl, k3.trans rfl, k4.trans rfl, k5.trans rfl, r0, r1, r2, r4, hr⟩⟩
        cases ad; simp at hsp; subst hsp; rfl
theorem TurnAt.keep {w w' : World} {b o : Nat} {d : TurnV} (h : TurnAt w b o d) (hb : Below w.heap.size w w') (hlt : b < w.heap.size) : TurnAt w' b o d :=
  ⟨(hb.cell (p := ⟨b, o, none⟩) hlt).trans h.c0, (hb.cell (p := ⟨b, o + 1, none⟩) hlt).trans h.c1, (hb.cell (p := ⟨b, o + 2, none⟩) hlt).trans h.c2, (hb.cell (p := ⟨b, o + 3, none⟩) hlt).trans h.c3, (hb.cell (p := ⟨b, o + 4, none⟩) hlt).trans h.c4, (hb.cell (p := ⟨b, o + 5, none⟩) hlt).trans h.c5, h.f0, h.f1, h.f2, h.n4, h.r.1.keep hb, h.r.2⟩
def IsStrs (w : World) (a : Option Addr) (len cap : Nat) (zs : List ByteArray) : Prop :=
  zs.length = len ∧ StrsAt w a zs ∧ len ≤ cap ∧ ∀ s ∈ zs, s.size ≤ 9223372036854775807
theorem open_strs {H : Type} {enc : TypeId × Value → H} {W : World} {base : Nat} {sp : Nat → Bool} {held : Bool} {fuel : Nat} {a : Option Addr} {len cap : Nat} {x : DataW H × List MemPlace}
    (h : DataW.trod enc Tryz.prog W base sp held fuel 23 (Value.cells (.slice a len cap)).toList = some x) : ∃ zs, IsStrs W a len cap zs := by
  rcases ChangeShapes.open_strings Tryz.underlying23 Tryz.underlying9 (by kernel_rfl) h with ⟨hcs, _⟩ | ⟨y, l, c, ss, hcs, _, hl, hm, hz, _, hcell, hsz⟩
  · simp [Value.cells] at hcs
    obtain ⟨rfl, rfl, rfl⟩ := hcs
    exact ⟨[], rfl, .inl rfl, Nat.le_refl _, by simp⟩
  · simp [Value.cells] at hcs
    obtain ⟨rfl, rfl, rfl⟩ := hcs
    have hle : len ≤ ss.length := by rw [hz]; split <;> omega
    refine ⟨ss.take len, by simp; omega, ?_, hl, fun s hs => ?_⟩
    · by_cases h0 : len = 0
      · left; simp [h0]
      · right
        have hc0 := hcell 0 (by omega)
        have hx : y.add 0 = y := by simp [Addr.add]
        rw [hx] at hc0
        obtain ⟨b, off, spot⟩ := y
        have hsp : spot = none := by
          cases spot with
          | none => rfl
          | some s => simp [World.cell?] at hc0; split at hc0 <;> simp at hc0
        subst hsp
        refine ⟨b, off, rfl, World.block_lt_of_cell? W _ hc0, fun i hi => ?_⟩
        simp at hi
        have := hcell i (by omega)
        rw [addr_add] at this
        rw [this]
        have hg : ss.getD i ByteArray.empty = ss[i]'(by omega) := by rw [List.getD_eq_getElem?_getD, List.getElem?_eq_getElem (by omega)]; rfl
        rw [hg, List.getElem_take]
    · have := hsz s (List.mem_of_mem_take hs)
      unfold maxLen at this; omega
/-- Bools that came in. -/
def IsBools (w : World) (a : Option Addr) (len cap : Nat) (B : Nat → Bool) : Prop :=
  len ≤ cap ∧ cap ≤ maxLen ∧ ∀ i, i < cap → ∃ b off, a = some ⟨b, off, none⟩ ∧ b < w.heap.size ∧ w.cell? ⟨b, off + i, none⟩ = some (.bool (B i))
theorem open_boolrow {H : Type} {enc : TypeId × Value → H} {W : World} {base : Nat} {held : Bool} {fuel : Nat} {a : Option Addr} {len cap : Nat} {x : DataW H × List MemPlace}
    (h : DataW.trod enc Tryz.prog W base (fun _ => true) held fuel 80 (Value.cells (.slice a len cap)).toList = some x) : ∃ B, IsBools W a len cap B := by
  rcases Deep.open_bools Tryz.underlying80 Tryz.underlying4 (by kernel_rfl) h with ⟨hcs, _⟩ | ⟨y, l, c, f, hcs, _, hl, hm, _, hx⟩
  · simp [Value.cells] at hcs
    obtain ⟨rfl, rfl, rfl⟩ := hcs
    exact ⟨fun _ => false, Nat.le_refl _, Nat.zero_le _, fun i hi => by omega⟩
  · simp [Value.cells] at hcs
    obtain ⟨rfl, rfl, rfl⟩ := hcs
    refine ⟨f, hl, hm, fun i hi => ?_⟩
    have h0 := hx 0 (by omega)
    have hsp : y.spot = none := by
      obtain ⟨b, o, s⟩ := y
      exact spot_none (w := W) (a := ⟨b, o, s⟩) (v := .bool (f 0)) (by simpa [Addr.add] using h0)
    have hc := hx i hi
    rw [add_spot hsp] at hc
    exact ⟨y.block, y.off, by cases y; simp at hsp; subst hsp; rfl, World.block_lt_of_cell? W ⟨y.block, y.off + i, none⟩ hc, hc⟩
theorem run_minS {P : Program} {w : World} (ts : Array TypeId) (t : TypeId) (x y r : Int) (hr : r = min x y) :
    (Builtin.min_ ts t #[.int .i64 x, .int .i64 y]).run P w = .ok (.int .i64 r) w := by
  subst hr
  simp only [Builtin.min_, List.foldlM_cons, List.foldlM_nil, Sem.run_bind, Sem.run_pure, Builtin.min2, Result.andThen]
  repeat' split
  all_goals simp_all
  all_goals omega
/-- short: the first 900 bytes. -/
def shortT (s : ByteArray) : ByteArray := s.extract 0 (min s.size 900)
theorem shortT_size (s : ByteArray) : (shortT s).size ≤ 900 := by unfold shortT; rw [ByteArray.size_extract]; omega
set_option maxRecDepth 100000 in
theorem short_any (s : ByteArray) (hs : s.size ≤ 9223372036854775807) (w : World) : Calls Tryz.prog 18 #[.string s] w fun e w' => e = .returned (.string (shortT s)) ∧ ∃ n, w' = w.drewN n := by
  obtain ⟨k, hk⟩ : ∃ k, min s.size 900 = k := ⟨_, rfl⟩
  have hm := fun ts t wx => run_minS (P := Tryz.prog) (w := wx) ts t (s.size : Int) 900 (k : Int) (by omega)
  have hS := Lib.hid (show shortT s = s.extract 0 k by unfold shortT; rw [hk])
  have l0 : k ≤ s.size := by omega
  clear hk
  go_enter Tryz.func18, Tryz.ntmps18
  go_wp2
  go_ret
  exact ⟨by rw [hS.out]; rfl, 0, rfl⟩
end Go.Proofs.YtadnecgcoceklaaGreatDoor
