/-
  Decode and Encode at bytes and changes in any world behind; a batch's bytes are bytes.
-/
import Derived.Test.YthpcgdgahlcblaaBatO1
namespace Go.Proofs.Ythpcgdgahlcblaa
open Go.RowKit

theorem Rw.up {B B' : Nat} {w w' : World} {v : Value} {l : List Nat} (h : Rw B w v l) (hb : Below B w w') (hB : B ≤ B') : Rw B' w' v l := by
  obtain ⟨a, cap, rfl, h1, h2, h3⟩ := h
  exact ⟨a, cap, rfl, (h1.keep hb).mono hB, h2, h3⟩
theorem Rw.of {w : World} {a : Option Addr} {n cap : Nat} {l : List Nat} (hn : l.length = n) (h1 : Byt w a l) (h2 : n ≤ cap) (h3 : a = none → l = []) : Rw w.heap.size w (.slice a n cap) l := by
  subst hn
  exact ⟨a, cap, rfl, h1.low, h2, h3⟩
def DecS (w : World) (n : Int) (L : List OpV) (e : Ending) (w' : World) : Prop :=
  ∃ a, e = .returned (.tuple #[.int .i64 n, .slice a L.length L.length, .int .i64 0]) ∧ OpsAt w' a L ∧ (∀ x, a = some x → w.heap.size ≤ x.block) ∧ Below w.heap.size w w'
def DecN (w : World) (e : Ending) (w' : World) : Prop :=
  e = .returned (.tuple #[.int .i64 0, .slice none 0 0, .int .i64 2]) ∧ Below w.heap.size w w'
theorem decode_some {w : World} {v : Value} {l : List Nat} (hr : Rw w.heap.size w v l) (hb : ∀ x ∈ l, x < 256) (hm : l.length ≤ 9223372036854775807) {n : Int} {L : List OpV} (h : decO l = some (n, L)) :
    Calls Try.prog 14 #[v] w (DecS w n L) := by
  refine (decode_any w v l hr hb hm).mono ?_
  rintro e w' ⟨hb', ⟨n', L', a, h1, rfl, h2, h3⟩ | ⟨h1, _⟩⟩
  · rw [h] at h1; cases h1
    exact ⟨a, rfl, h2, h3, hb'⟩
  · rw [h] at h1; cases h1
theorem decode_none {w : World} {v : Value} {l : List Nat} (hr : Rw w.heap.size w v l) (hb : ∀ x ∈ l, x < 256) (hm : l.length ≤ 9223372036854775807) (h : decO l = none) :
    Calls Try.prog 14 #[v] w (DecN w) := by
  refine (decode_any w v l hr hb hm).mono ?_
  rintro e w' ⟨hb', ⟨n', L', a, h1, _⟩ | ⟨_, rfl⟩⟩
  · rw [h] at h1; cases h1
  · exact ⟨rfl, hb'⟩
theorem opL_byte (o : OpV) : ∀ x ∈ opL o, x < 256 := by
  intro x hx
  unfold opL at hx
  rcases List.mem_cons.1 hx with rfl | h
  · omega
  · rcases List.mem_append.1 h with h | h
    · exact textL_byte _ x h
    · split at h
      · exact textL_byte _ x h
      · cases h
theorem opsL_byte (l : List OpV) : ∀ x ∈ opsL l, x < 256 := by
  intro x hx
  unfold opsL at hx
  obtain ⟨o, _, h⟩ := List.mem_flatMap.1 hx
  exact opL_byte o x h
theorem encR_byte (seq : Int) (l : List OpV) : ∀ x ∈ encR seq l, x < 256 := by
  intro x hx
  unfold encR at hx
  split at hx
  · unfold encL at hx
    rcases List.mem_append.1 hx with h | h
    · rcases List.mem_append.1 h with h | h
      · exact VA.fixL_byte _ _ x h
      · exact VA.fixL_byte _ _ x h
    · exact opsL_byte l x h
  · cases hx
theorem opL_len {o : OpV} (hk : o.key.size ≤ 64) (hv : o.val.size ≤ 1000) : (opL o).length ≤ 1200 := by
  unfold opL
  have h1 := textL_len o.key (by omega)
  have h2 := textL_len o.val (by omega)
  simp only [List.length_cons, List.length_append]
  split <;> simp <;> omega
theorem opsL_len {l : List OpV} (h : ∀ o ∈ l, o.key.size ≤ 64 ∧ o.val.size ≤ 1000) : (opsL l).length ≤ 1200 * l.length := by
  induction l with
  | nil => simp [opsL]
  | cons o l ih =>
    have h1 := opL_len (h o List.mem_cons_self).1 (h o List.mem_cons_self).2
    have h2 := ih (fun x hx => h x (List.mem_cons_of_mem _ hx))
    have e : opsL (o :: l) = opL o ++ opsL l := by unfold opsL; rw [List.flatMap_cons]
    rw [e, List.length_append, List.length_cons]
    omega
theorem encR_max {seq : Int} {l : List OpV} (h : chkI seq l = 0) : (encR seq l).length ≤ 240012 := by
  have h1 := opsL_len (fun o ho => ⟨(chk_ops h o ho).1, (chk_ops h o ho).2.1⟩)
  have h2 := (chk_zero h).1
  unfold encR encL
  rw [if_pos h]
  simp only [List.length_append, fixL_eq, VA.fixL_length]
  omega
theorem own_zero (w : World) (z : Nat) (hz : w.heap.size = z) : (w.alloc (.cells #[] 5)).ownsRow z 5 1 (.slice (some ⟨z, 0, none⟩) 0 0) 0 (u8s []) := by
  subst hz
  exact ⟨rfl, .inr ⟨w.heap.size, 0, #[], rfl, Nat.le_refl _, heap_alloc_new w _, Nat.le_refl _, by unfold maxLen; omega, rfl, rfl⟩⟩
theorem byt_one (w : World) (x : Nat) (z : Nat) (hz : w.heap.size = z) : Byt (w.alloc (.cells #[.int .u8 (x : Int)] 5)) (some ⟨z, 0, none⟩) [x] := by
  subst hz
  refine .inr ⟨w.heap.size, 0, rfl, by simp, fun j hj => ?_⟩
  have : j = 0 := by simp at hj; exact hj
  subst this
  have h := heap_alloc_new w (.cells #[.int .u8 (x : Int)] 5)
  rw [cell_of_row _ _ _ _ _ _ h]; rfl
end Go.Proofs.Ythpcgdgahlcblaa
