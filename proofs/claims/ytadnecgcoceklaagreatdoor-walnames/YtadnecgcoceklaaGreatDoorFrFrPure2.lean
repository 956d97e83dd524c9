/-
  Records one behind the other, cut anywhere: which are there wholly.
-/
import Derived.Test.YtadnecgcoceklaaGreatDoorFrFrPure
namespace Go.Proofs.YtadnecgcoceklaaGreatDoor.FR
namespace Frm

/-- How many are there wholly. -/
def whN : Nat → List (List Nat) → Nat → Nat
  | _, [], _ => 0
  | n, r :: rs, cut => if cut < (frameL n r).length then 0 else 1 + whN (n + (frameL n r).length) rs (cut - (frameL n r).length)
/-- Where the k-th ends. -/
def endN (n : Nat) (hs : List (List Nat)) (k : Nat) : Nat := (layL n (hs.take k)).length
theorem endN_zero (n : Nat) (hs : List (List Nat)) : endN n hs 0 = 0 := rfl
theorem endN_cons (n : Nat) (r : List Nat) (rs : List (List Nat)) (k : Nat) : endN n (r :: rs) (k + 1) = (frameL n r).length + endN (n + (frameL n r).length) rs k := by
  show (frameL n r ++ layL (n + (frameL n r).length) (rs.take k)).length = _
  rw [List.length_append]; rfl
theorem endN_succ (n : Nat) (hs : List (List Nat)) (k : Nat) (hk : k < hs.length) : endN n hs k + 7 ≤ endN n hs (k + 1) := by
  have e : hs.take (k + 1) = hs.take k ++ [hs[k]] := List.take_succ_eq_append_getElem hk
  unfold endN
  rw [e, layL_snoc, List.length_append]
  have := frameL_pos (n + (layL n (hs.take k)).length) hs[k]
  omega
theorem endN_mono (n : Nat) (hs : List (List Nat)) {j k : Nat} (h : j ≤ k) (hk : k ≤ hs.length) : endN n hs j ≤ endN n hs k := by
  induction k with
  | zero => have : j = 0 := by omega
            subst this; exact Nat.le_refl _
  | succ k ih =>
    by_cases e : j = k + 1
    · subst e; exact Nat.le_refl _
    · have h1 := ih (by omega) (by omega)
      have h2 := endN_succ n hs k (by omega)
      omega
theorem endN_all (n : Nat) (hs : List (List Nat)) : endN n hs hs.length = (layL n hs).length := by unfold endN; rw [List.take_length]
theorem wh_spec : ∀ (n : Nat) (hs : List (List Nat)) (c : Nat), whN n hs c ≤ hs.length ∧ endN n hs (whN n hs c) ≤ c ∧ (whN n hs c < hs.length → c < endN n hs (whN n hs c + 1))
  | n, [], c => ⟨Nat.le_refl _, Nat.zero_le _, fun h => absurd h (Nat.lt_irrefl _)⟩
  | n, r :: rs, c => by
    unfold whN
    by_cases h : c < (frameL n r).length
    · rw [if_pos h]
      refine ⟨Nat.zero_le _, Nat.zero_le _, fun _ => ?_⟩
      rw [endN_cons]; omega
    · rw [if_neg h]
      obtain ⟨h1, h2, h3⟩ := wh_spec (n + (frameL n r).length) rs (c - (frameL n r).length)
      rw [Nat.add_comm 1]
      refine ⟨by simp; exact h1, by rw [endN_cons]; omega, fun hl => ?_⟩
      have := h3 (by simpa using hl)
      rw [endN_cons]; omega
theorem wh_uniq (n : Nat) (hs : List (List Nat)) (c k : Nat) (hk : k ≤ hs.length) (h1 : endN n hs k ≤ c) (h2 : k < hs.length → c < endN n hs (k + 1)) : k = whN n hs c := by
  obtain ⟨g0, g1, g2⟩ := wh_spec n hs c
  rcases Nat.lt_trichotomy k (whN n hs c) with h | h | h
  · have := h2 (by omega)
    have := endN_mono n hs (j := k + 1) (k := whN n hs c) h g0
    omega
  · exact h
  · have := g2 (by omega)
    have := endN_mono n hs (j := whN n hs c + 1) (k := k) h hk
    omega
/-- What is scanned of bytes that are cut. -/
theorem scan_take : ∀ (n : Nat) (hs : List (List Nat)) (c : Nat), scanR n ((layL n hs).take c) n [] false = (hs.take (whN n hs c), n + endN n hs (whN n hs c))
  | n, [], c => by
    show scanR n (([] : List Nat).take c) n [] false = _
    rw [List.take_nil, scan_nil]; rfl
  | n, r :: rs, c => by
    have e : layL n (r :: rs) = frameL n r ++ layL (n + (frameL n r).length) rs := rfl
    rw [e]
    unfold whN
    by_cases h : c < (frameL n r).length
    · rw [if_pos h, List.take_append_of_le_length (by omega), scan_cut n r c n h]; rfl
    · rw [if_neg h, List.take_append, List.take_of_length_le (show (frameL n r).length ≤ c by omega), scan_frame, scan_take _ rs, Nat.add_comm 1, List.take_succ_cons, endN_cons, Nat.add_assoc]
theorem layL_take (n : Nat) (hs : List (List Nat)) (k : Nat) : layL n (hs.take k) = (layL n hs).take (endN n hs k) := by
  have key : ∀ (n : Nat) (hs : List (List Nat)) (k : Nat), ∃ x, layL n hs = layL n (hs.take k) ++ x := by
    intro n hs
    induction hs generalizing n with
    | nil => intro k; exact ⟨[], by rw [List.take_nil, List.append_nil]⟩
    | cons r rs ih =>
      intro k
      cases k with
      | zero => exact ⟨_, rfl⟩
      | succ k =>
        obtain ⟨x, hx⟩ := ih (n + (frameL n r).length) k
        refine ⟨x, ?_⟩
        show frameL n r ++ layL _ rs = (frameL n r ++ layL _ (rs.take k)) ++ x
        rw [hx, List.append_assoc]
  obtain ⟨x, hx⟩ := key n hs k
  conv => rhs; rw [hx]
  unfold endN
  rw [List.take_append_of_le_length (Nat.le_refl _), List.take_length]
/-- What is scanned of bytes that are cut, the last one another. -/
theorem scan_spoil_lay : ∀ (n : Nat) (hs : List (List Nat)) (c y : Nat), (∀ r ∈ hs, ∀ x ∈ r, x < 256) → 0 < c → c ≤ (layL n hs).length → y < 256 → ((layL n hs).take c).getLast? ≠ some y →
    (scanR n (spoil ((layL n hs).take c) y) n [] false).1 = hs.take (whN n hs (c - 1))
  | n, [], c, y, _, h0, hc, _, _ => by
    have : c ≤ 0 := hc
    omega
  | n, r :: rs, c, y, hb, h0, hc, hy, hne => by
    have e : layL n (r :: rs) = frameL n r ++ layL (n + (frameL n r).length) rs := rfl
    rw [e] at hc hne ⊢
    rw [List.length_append] at hc
    have hp := frameL_pos n r
    unfold whN
    by_cases h : c ≤ (frameL n r).length
    · rw [List.take_append_of_le_length h] at hne ⊢
      rw [if_pos (by omega), scan_spoil n r (hb r (by simp)) c n y h0 h hy hne]; rfl
    · have hnn : (layL (n + (frameL n r).length) rs).take (c - (frameL n r).length) ≠ [] := by rw [← List.length_pos_iff, List.length_take]; omega
      rw [List.take_append, List.take_of_length_le (show (frameL n r).length ≤ c by omega)] at hne ⊢
      rw [if_neg (by omega), spoil_app _ hnn, scan_frame, Nat.add_comm 1, List.take_succ_cons]
      rw [List.getLast?_append, List.getLast?_eq_some_getLast hnn] at hne
      have ih := scan_spoil_lay (n + (frameL n r).length) rs (c - (frameL n r).length) y (fun q hq => hb q (by simp [hq])) (by omega) (by omega) hy (by rw [List.getLast?_eq_some_getLast hnn]; exact hne)
      rw [ih, show c - 1 - (frameL n r).length = c - (frameL n r).length - 1 by omega]
/-- With a byte less. -/
theorem wh_prev (n : Nat) (hs : List (List Nat)) (c : Nat) (hc : 0 < c) : whN n hs (c - 1) = if endN n hs (whN n hs c) = c then whN n hs c - 1 else whN n hs c := by
  obtain ⟨g0, g1, g2⟩ := wh_spec n hs c
  generalize whN n hs c = w at *
  symm
  by_cases h : endN n hs w = c
  · rw [if_pos h]
    have hw : 0 < w := by
      rcases Nat.eq_zero_or_pos w with e | e
      · subst e; rw [endN_zero] at h; omega
      · exact e
    have h1 := endN_succ n hs (w - 1) (by omega)
    rw [show w - 1 + 1 = w by omega] at h1
    refine wh_uniq n hs (c - 1) (w - 1) (by omega) (by omega) (fun _ => ?_)
    rw [show w - 1 + 1 = w by omega]; omega
  · rw [if_neg h]
    exact wh_uniq n hs (c - 1) w g0 (by omega) (fun hl => by have := g2 hl; omega)
end Frm
end Go.Proofs.YtadnecgcoceklaaGreatDoor.FR
