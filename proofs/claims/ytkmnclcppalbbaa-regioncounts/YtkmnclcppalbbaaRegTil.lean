/-
  A slice of calls (Tilth) that came in, cell by cell.
-/
import Derived.Test.YtkmnclcppalbbaaRegRow
import Derived.ProofKit
import Derived.Deep.Slices
namespace Go.Proofs.Ytkmnclcppalbbaa
open Go.RowKit Go.Deep

theorem mapM_get {α β : Type} (f : α → Option β) : ∀ (l : List α) (ys : List β), l.mapM f = some ys → ∀ (i : Nat) (x : α), l[i]? = some x → f x = ys[i]?
  | [], ys, _, i, x, hx => by simp at hx
  | a :: l, ys, h, i, x, hx => by
    simp only [List.mapM_cons, Option.bind_eq_bind, Option.bind_eq_some_iff, Option.pure_def, Option.some.injEq] at h
    obtain ⟨b, hb, zs, hz, rfl⟩ := h
    cases i with
    | zero => simp at hx; subst hx; simpa using hb
    | succ i => simp at hx; simpa using mapM_get f l zs hz i x hx
theorem cells_get {w : World} {base : Nat} {a : Addr} {n : Nat} {cs : List Value} (h : w.cells? base a n = some cs) (i : Nat) (hi : i < n) : w.cell? (a.add i) = cs[i]? := by
  unfold World.cells? at h
  split at h
  · exact mapM_get _ _ _ h i i (by simp [hi])
  · cases h

/-- Row i of a slice of calls: its five numbers and its text. -/
structure TilAt (w : World) (b o : Nat) (c x y z t : Int) (s : ByteArray) : Prop where
  c0 : w.cell? ⟨b, o, none⟩ = some (.int .i64 c)
  c1 : w.cell? ⟨b, o + 1, none⟩ = some (.int .i64 x)
  c2 : w.cell? ⟨b, o + 2, none⟩ = some (.int .i64 y)
  c3 : w.cell? ⟨b, o + 3, none⟩ = some (.int .i64 z)
  c4 : w.cell? ⟨b, o + 4, none⟩ = some (.int .i64 t)
  c5 : w.cell? ⟨b, o + 5, none⟩ = some (.string s)
  f0 : (Lit.int .i64 c).wf = true
  f1 : (Lit.int .i64 x).wf = true
  f2 : (Lit.int .i64 y).wf = true
  f3 : (Lit.int .i64 z).wf = true
  f4 : (Lit.int .i64 t).wf = true
  f5 : s.size ≤ maxLen
def IsTil (w : World) (a : Option Addr) (len cap : Nat) : Prop :=
  len ≤ cap ∧ cap ≤ maxLen ∧ ∀ i, i < len → ∃ b off, a = some ⟨b, off, none⟩ ∧ b < w.heap.size ∧ ∃ c x y z t s, TilAt w b (off + i * 6) c x y z t s

theorem Try.cells39 : Try.prog.cellsOf 39 = 6 := by kernel_rfl
theorem add_spot {a : Addr} {n : Nat} (h : a.spot = none) : a.add n = ⟨a.block, a.off + n, none⟩ := by
  obtain ⟨b, o, s⟩ := a
  simp at h; subst h
  unfold Addr.add; split
  · rename_i e; subst e; rfl
  · rfl

theorem spot_none {w : World} {a : Addr} {v : Value} (h : w.cell? a = some v) : a.spot = none := by
  unfold World.cell? at h
  split at h
  · split at h
    · cases h
    · rename_i h1; simpa using h1
  · cases h

theorem open_til {H : Type} {enc : TypeId × Value → H} {w : World} {base : Nat} {spare : Nat → Bool} {held : Bool} {fuel : Nat} {a : Option Addr} {len cap : Nat} {x : DataW H × List MemPlace}
    (h : DataW.trod enc Try.prog w base spare held fuel 22 [.slice a len cap] = some x) : IsTil w a len cap := by
  rcases open_slice Try.underlying22 h with ⟨hcs, _⟩ | ⟨ad, l, c, m, n, D, Pl, hcs, hb, hl, hm, hmm, _, hel⟩
  · simp at hcs
    obtain ⟨rfl, rfl, rfl⟩ := hcs
    exact ⟨Nat.le_refl _, Nat.zero_le _, fun i hi => by omega⟩
  · simp at hcs
    obtain ⟨rfl, rfl, rfl⟩ := hcs
    refine ⟨hl, hm, fun i hi => ?_⟩
    have him : i < m := by rw [hmm]; split <;> omega
    have hsp : ad.spot = none := by
      obtain ⟨cs0, hc0, ht0⟩ := hel 0 (by omega)
      obtain ⟨_, _, _, _, hlen0, _⟩ := DataW.trod_struct Try.underlying39 ht0
      rw [Try.cells39] at hc0 hlen0
      have h2 := cells_get hc0 0 (by omega)
      match cs0, hlen0 with
      | v :: _, _ => exact spot_none (v := v) (by simpa [Addr.add] using h2)
    obtain ⟨cs', hc, ht⟩ := hel i him
    rw [Try.cells39] at hc
    obtain ⟨xs, k, _, _, hlen, hxl, hf⟩ := DataW.trod_struct Try.underlying39 ht
    rw [Try.cells39] at hlen
    match cs', hlen with
    | [v0, v1, v2, v3, v4, v5], _ =>
      match xs, hxl with
      | [y0, y1, y2, y3, y4, y5], _ =>
        have e3 : Try.prog.cellsOf 3 = 1 := by kernel_rfl
        have e9 : Try.prog.cellsOf 9 = 1 := by kernel_rfl
        have g0 := hf 0 _ rfl
        have g1 := hf 1 _ rfl
        have g2 := hf 2 _ rfl
        have g3 := hf 3 _ rfl
        have g4 := hf 4 _ rfl
        have g5 := hf 5 _ rfl
        simp [e3] at g0 g1 g2 g3 g4
        simp [e9] at g5
        obtain ⟨q0, p0, _, r0⟩ := DataW.trod_int Try.underlying3 g0
        obtain ⟨q1, p1, _, r1⟩ := DataW.trod_int Try.underlying3 g1
        obtain ⟨q2, p2, _, r2⟩ := DataW.trod_int Try.underlying3 g2
        obtain ⟨q3, p3, _, r3⟩ := DataW.trod_int Try.underlying3 g3
        obtain ⟨q4, p4, _, r4⟩ := DataW.trod_int Try.underlying3 g4
        obtain ⟨q5, p5, _, r5⟩ := DataW.trod_string Try.underlying9 g5
        simp at p0 p1 p2 p3 p4 p5
        subst p0 p1 p2 p3 p4 p5
        have k0 := cells_get hc 0 (by omega)
        have k1 := cells_get hc 1 (by omega)
        have k2 := cells_get hc 2 (by omega)
        have k3 := cells_get hc 3 (by omega)
        have k4 := cells_get hc 4 (by omega)
        have k5 := cells_get hc 5 (by omega)
        have hadd : ∀ c, (ad.add (i * 6)).add c = ⟨ad.block, ad.off + i * 6 + c, none⟩ := fun c => by
          rw [add_spot hsp, add_spot rfl]
        rw [Try.cells39] at *
        rw [hadd] at k0 k1 k2 k3 k4 k5
        refine ⟨ad.block, ad.off, ?_, World.block_lt_of_cell? w ⟨ad.block, ad.off + i * 6 + 0, none⟩ (u := .int .i64 q0) (k0.trans rfl), q0, q1, q2, q3, q4, _, ⟨k0.trans rfl, k1.trans rfl, k2.trans rfl, k3.trans rfl, k4.trans rfl, k5.trans rfl, r0, r1, r2, r3, r4, r5⟩⟩
        cases ad; simp at hsp; subst hsp; rfl
end Go.Proofs.Ytkmnclcppalbbaa
