/-
  The files that FsKeeps lays first: created, written, synced, their names too.
-/
import Derived.Test.YtaadfoelaeliiaaFsZ6
namespace Go.Proofs.Ytaadfoelaeliiaa
open Go.RowKit Go.Maps

def kp (k : Nat) : Bs := [107, 101, 101, 112, 45, UInt8.ofNat (48 + k)]
theorem kp_nm : ∀ k : Fin 5, isNm (kp k.val) = true := by decide +kernel
/-- A name that begins with 'n' is none of these. -/
theorem kp_ne (t : ByteArray) (k : Nat) : ((⟨#[110, 101, 119, 45]⟩ : ByteArray) ++ t).data.toList ≠ kp k := fun e => by
  rw [ByteArray.data_append] at e
  simp [kp] at e
def kst (L : List (List Nat)) : A := ⟨1048576, (List.range L.length).map fun k => (kp k, k), [], (List.range L.length).map fun k => .create (kp k) k, false, false, 0, L.map fun b => (b, b.length)⟩
theorem kst_new : A.new 1048576 = kst [] := rfl
theorem kst_step {L : List (List Nat)} (hL : L.length < 5) (h : ∀ b ∈ L, b.length ≤ 2000) {b : List Nat} (hb : b.length ≤ 2000) :
    ∃ s1 s2, (kst L).create (kp L.length) = (0, s1) ∧ s1.append (kp L.length) b = (0, s2) ∧ s2.sync (kp L.length) = (0, kst (L ++ [b])) ∧ (kst L).top ≤ 5 ∧ s1.top ≤ 5 ∧ s2.top ≤ 5 := by
  match L, hL, h with
  | [], _, _ =>
    exact ⟨_, _, rfl, append_ok rfl (by show 0 + b.length ≤ _; omega) (by show (0 + 0) + b.length ≤ 1048576; omega) rfl rfl, rfl, by show 0 ≤ 5; omega, by show 1 ≤ 5; omega, by show 1 ≤ 5; omega⟩
  | [x], _, h =>
    have h1 := h x (by simp)
    exact ⟨_, _, rfl, append_ok rfl (by show 0 + b.length ≤ _; omega) (by show (x.length + (0 + 0)) + b.length ≤ 1048576; omega) rfl rfl, rfl, by show 1 ≤ 5; omega, by show 2 ≤ 5; omega, by show 2 ≤ 5; omega⟩
  | [x, y], _, h =>
    have h1 := h x (by simp)
    have h2 := h y (by simp)
    exact ⟨_, _, rfl, append_ok rfl (by show 0 + b.length ≤ _; omega) (by show (x.length + (y.length + (0 + 0))) + b.length ≤ 1048576; omega) rfl rfl, rfl, by show 2 ≤ 5; omega, by show 3 ≤ 5; omega, by show 3 ≤ 5; omega⟩
  | [x, y, z], _, h =>
    have h1 := h x (by simp)
    have h2 := h y (by simp)
    have h3 := h z (by simp)
    exact ⟨_, _, rfl, append_ok rfl (by show 0 + b.length ≤ _; omega) (by show (x.length + (y.length + (z.length + (0 + 0)))) + b.length ≤ 1048576; omega) rfl rfl, rfl, by show 3 ≤ 5; omega, by show 4 ≤ 5; omega, by show 4 ≤ 5; omega⟩
  | [x, y, z, u], _, h =>
    have h1 := h x (by simp)
    have h2 := h y (by simp)
    have h3 := h z (by simp)
    have h4 := h u (by simp)
    exact ⟨_, _, rfl, append_ok rfl (by show 0 + b.length ≤ _; omega) (by show (x.length + (y.length + (z.length + (u.length + (0 + 0))))) + b.length ≤ 1048576; omega) rfl rfl, rfl, by show 4 ≤ 5; omega, by show 5 ≤ 5; omega, by show 5 ≤ 5; omega⟩
theorem kst_look {L : List (List Nat)} (hL : L.length ≤ 5) {k : Nat} (hk : k < L.length) : Dir.look (kst L).now (kp k) = some k := by
  have key : ∀ (n : Fin 6) (k : Fin 5), k.val < n.val → Dir.look ((List.range n.val).map fun k => (kp k, k)) (kp k.val) = some k.val := by decide +kernel
  exact key ⟨L.length, by omega⟩ ⟨k, by omega⟩ hk
theorem kst_end {L : List (List Nat)} (hL : L.length ≤ 5) : ∃ a, (kst L).syncDir = (0, a) ∧ KInv kp a L.length (fun k => L.getD k []) ∧ a.top ≤ 5 := by
  refine ⟨_, on_try rfl rfl _, ⟨fun k hk => kst_look hL hk, fun k hk => kst_look hL hk, (fun c hc => by cases hc), fun k hk => ?_, ?_⟩, ?_⟩
  · show Safe ((L.map fun b => (b, b.length)).getD k ([], 0)) _
    have e : (L.map fun b => (b, b.length)).getD k ([], 0) = (L.getD k [], (L.getD k []).length) := by
      rw [List.getD_eq_getElem?_getD, List.getElem?_map, List.getD_eq_getElem?_getD, List.getElem?_eq_getElem hk]; rfl
    rw [e]
    exact ⟨Nat.le_refl _, Nat.le_refl _, List.take_length⟩
  · show L.length ≤ (L.map fun b => (b, b.length)).length
    rw [List.length_map]; exact Nat.le_refl _
  · show max ((List.range L.length).map fun k => (kp k, k)).length (((List.range L.length).map fun k => (kp k, k)).length + 0) ≤ 5
    rw [List.length_map, List.length_range]; omega
end Go.Proofs.Ytaadfoelaeliiaa
