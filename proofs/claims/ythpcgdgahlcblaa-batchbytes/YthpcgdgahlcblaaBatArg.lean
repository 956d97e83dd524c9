/-
  Arguments that came in: a change, a slice of changes.
-/
import Derived.Test.YthpcgdgahlcblaaBatPure
import Derived.ProofKit
import Derived.Deep.Slices
import Derived.OpenShut
import Derived.ChangeOld
namespace Go.Proofs.Ythpcgdgahlcblaa
open Go.RowKit Go.Deep Go.ChangeShapes Go.WideShapes Go.ChangeAt

theorem mapM_get {α β : Type} (f : α → Option β) : ∀ (l : List α) (ys : List β), l.mapM f = some ys → ∀ (i : Nat) (x : α), l[i]? = some x → f x = ys[i]?
  | [], ys, _, i, x, hx => by simp at hx
  | a :: l, ys, h, i, x, hx => by
    simp only [List.mapM_cons, Option.bind_eq_bind, Option.bind_eq_some_iff, Option.pure_def, Option.some.injEq] at h
    obtain ⟨b, hb, zs, hz, rfl⟩ := h
    cases i with
    | zero => simp at hx; subst hx; simpa using hb
    | succ i => simp at hx; simpa using mapM_get f l zs hz i x hx
theorem cells_get {w : World} {base : Nat} {a : Addr} {n : Nat} {cs : List Value} (h : w.cells? base a n = some cs) (i : Nat) (hi : i < n) : w.cell? (a.add i) = cs[i]? := by
  unfold World.cells? at h
  split at h
  · exact mapM_get _ _ _ h i i (by simp [hi])
  · cases h
theorem add_spot {a : Addr} {n : Nat} (h : a.spot = none) : a.add n = ⟨a.block, a.off + n, none⟩ := by
  obtain ⟨b, o, s⟩ := a
  simp at h; subst h
  unfold Addr.add; split
  · rename_i e; subst e; rfl
  · rfl
theorem spot_none {w : World} {a : Addr} {v : Value} (h : w.cell? a = some v) : a.spot = none := by
  unfold World.cell? at h
  split at h
  · split at h
    · cases h
    · rename_i h1; simpa using h1
  · cases h
theorem Try.cells48 : Try.prog.cellsOf 48 = 3 := by kernel_rfl
theorem str_le {x : Nat} (h : x ≤ maxLen) : x ≤ 9223372036854775807 := by unfold maxLen at h; omega
set_option maxRecDepth 100000 in
theorem open_op {H : Type} {enc : TypeId × Value → H} {W : World} {r : Reach} {b0 base : Nat} {held : Bool} {v : Value} {dt : DataW H} {ps : List MemPlace} (hval : Value.okWide Try.prog W r b0 48 v) (hd : DataW.Trod enc Try.prog W base (fun _ => true) held 48 v dt ps) :
    ∃ kd ky vl, v = .agg #[.int .i64 kd, .string ky, .string vl] ∧ (⟨kd, ky, vl⟩ : OpV).fit := by
  simp only [Value.okWide, Try.underlying48] at hval
  obtain ⟨cs, rfl, _, _⟩ := hval
  obtain ⟨fuel, hf⟩ := hd
  obtain ⟨xs, k, _, hdt, hlen, hxl, hf2⟩ := DataW.trod_struct Try.underlying48 hf
  rw [Try.cells48] at hlen
  obtain ⟨l⟩ := cs
  simp only [Value.cells] at hlen hf2
  match l, hlen with
  | [v0, v1, v2], _ =>
    match xs, hxl with
    | [y0, y1, y2], _ =>
      have e3 : Try.prog.cellsOf 3 = 1 := by kernel_rfl
      have e9 : Try.prog.cellsOf 9 = 1 := by kernel_rfl
      have g0 := hf2 0 _ rfl
      have g1 := hf2 1 _ rfl
      have g2 := hf2 2 _ rfl
      simp [e3] at g0
      simp [e9] at g1 g2
      obtain ⟨q0, p0, _, r0⟩ := DataW.trod_int Try.underlying3 g0
      obtain ⟨q1, p1, _, r1⟩ := DataW.trod_string Try.underlying9 g1
      obtain ⟨q2, p2, _, r2⟩ := DataW.trod_string Try.underlying9 g2
      simp at p0 p1 p2
      subst p0 p1 p2
      have hw := wf_i64 r0
      exact ⟨_, _, _, rfl, hw.1, hw.2, str_le r1, str_le r2⟩
/-- Changes that came in. -/
def IsOps (w : World) (a : Option Addr) (len cap : Nat) (l : List OpV) : Prop :=
  l.length = len ∧ OpsAt w a l ∧ len ≤ cap ∧ cap ≤ maxLen ∧ (a = none → len = 0 ∧ cap = 0) ∧ ∀ o ∈ l, o.fit
set_option maxRecDepth 100000 in
theorem open_ops {H : Type} {enc : TypeId × Value → H} {w : World} {base : Nat} {held : Bool} {fuel : Nat} {a : Option Addr} {len cap : Nat} {x : DataW H × List MemPlace}
    (h : DataW.trod enc Try.prog w base (fun _ => true) held fuel 22 (Value.cells (.slice a len cap)).toList = some x) : ∃ l, IsOps w a len cap l := by
  obtain ⟨d, ps⟩ := x
  rcases open_slice Try.underlying22 h with ⟨hcs, _⟩ | ⟨ad, l, c, m, n, D, Pl, hcs, hb, hl, hm, hmm, hx, hel⟩
  · simp [Value.cells] at hcs
    obtain ⟨rfl, rfl, rfl⟩ := hcs
    exact ⟨[], rfl, .inl rfl, Nat.le_refl _, Nat.zero_le _, fun _ => ⟨rfl, rfl⟩, fun o ho => by cases ho⟩
  · simp [Value.cells] at hcs
    obtain ⟨rfl, rfl, rfl⟩ := hcs
    by_cases h0 : len = 0
    · subst h0
      exact ⟨[], rfl, .inl rfl, Nat.zero_le _, hm, (fun h => by cases h), fun o ho => by cases ho⟩
    · have hsp : ad.spot = none := by
        obtain ⟨cs0, hc0, ht0⟩ := hel 0 (by rw [hmm]; split <;> omega)
        obtain ⟨_, _, _, _, hlen0, _⟩ := DataW.trod_struct Try.underlying48 ht0
        rw [Try.cells48] at hc0 hlen0
        have h2 := cells_get hc0 0 (by omega)
        match cs0, hlen0 with
        | v :: _, _ => exact spot_none (v := v) (by simpa [Addr.add] using h2)
      have key : ∀ i, i < len → ∃ o : OpV, w.cell? ⟨ad.block, ad.off + i * 3, none⟩ = some (.int .i64 o.kind) ∧ w.cell? ⟨ad.block, ad.off + i * 3 + 1, none⟩ = some (.string o.key) ∧ w.cell? ⟨ad.block, ad.off + i * 3 + 2, none⟩ = some (.string o.val) ∧ o.fit := by
        intro i hi
        obtain ⟨cs', hc, ht⟩ := hel i (by rw [hmm]; split <;> omega)
        rw [Try.cells48] at hc
        obtain ⟨xs, k, _, hdt, hlen, hxl, hf⟩ := DataW.trod_struct Try.underlying48 ht
        rw [Try.cells48] at hlen
        match cs', hlen with
        | [v0, v1, v2], _ =>
          match xs, hxl with
          | [y0, y1, y2], _ =>
            have e3 : Try.prog.cellsOf 3 = 1 := by kernel_rfl
            have e9 : Try.prog.cellsOf 9 = 1 := by kernel_rfl
            have g0 := hf 0 _ rfl
            have g1 := hf 1 _ rfl
            have g2 := hf 2 _ rfl
            simp [e3] at g0
            simp [e9] at g1 g2
            obtain ⟨q0, p0, _, r0⟩ := DataW.trod_int Try.underlying3 g0
            obtain ⟨q1, p1, _, r1⟩ := DataW.trod_string Try.underlying9 g1
            obtain ⟨q2, p2, _, r2⟩ := DataW.trod_string Try.underlying9 g2
            simp at p0 p1 p2
            subst p0 p1 p2
            have k0 := cells_get hc 0 (by omega)
            have k1 := cells_get hc 1 (by omega)
            have k2 := cells_get hc 2 (by omega)
            have hadd : ∀ c, (ad.add (i * 3)).add c = ⟨ad.block, ad.off + i * 3 + c, none⟩ := fun c => by
              rw [add_spot hsp, add_spot rfl]
            rw [Try.cells48] at *
            rw [hadd] at k0 k1 k2
            have hw := wf_i64 r0
            exact ⟨⟨q0, q1, q2⟩, k0.trans rfl, k1.trans rfl, k2.trans rfl, hw.1, hw.2, str_le r1, str_le r2⟩
      have hch : ∃ f : Nat → OpV, ∀ i, i < len → w.cell? ⟨ad.block, ad.off + i * 3, none⟩ = some (.int .i64 (f i).kind) ∧ w.cell? ⟨ad.block, ad.off + i * 3 + 1, none⟩ = some (.string (f i).key) ∧ w.cell? ⟨ad.block, ad.off + i * 3 + 2, none⟩ = some (.string (f i).val) ∧ (f i).fit :=
        ⟨fun i => if h : i < len then Classical.choose (key i h) else ⟨0, ⟨#[]⟩, ⟨#[]⟩⟩, fun i hi => by dsimp only; rw [dif_pos hi]; exact Classical.choose_spec (key i hi)⟩
      obtain ⟨f, hfs⟩ := hch
      refine ⟨(List.range len).map f, by simp, .inr ⟨ad.block, ad.off, ?_, World.block_lt_of_cell? w ⟨ad.block, ad.off + 0 * 3, none⟩ (hfs 0 (by omega)).1, fun i hi => ?_⟩, hl, hm, (fun h => by cases h), fun o ho => ?_⟩
      · obtain ⟨bb, oo, ss⟩ := ad
        simp at hsp; subst hsp; rfl
      · have hi' : i < len := by simpa using hi
        have := hfs i hi'
        simp only [List.getElem_map, List.getElem_range]
        exact ⟨this.1, this.2.1, this.2.2.1⟩
      · simp only [List.mem_map, List.mem_range] at ho
        obtain ⟨i, hi, rfl⟩ := ho
        exact (hfs i hi).2.2.2
end Go.Proofs.Ythpcgdgahlcblaa
