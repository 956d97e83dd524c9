/-
  What parts two texts; the law IkeyBetween, walked.
-/
import Derived.Test.YtaeilfpaaogllaaIkKey
namespace Go.Proofs.Ytaeilfpaaogllaa
open Go.RowKit

theorem lexN_trans : ∀ {x y z : List Nat}, lexN x y = true → lexN y z = true → lexN x z = true
  | _, _, [], _, h => by simp [lexN] at h
  | _, [], _ :: _, h, _ => by simp [lexN] at h
  | [], _ :: _, _ :: _, _, _ => rfl
  | a :: x, b :: y, c :: z, h1, h2 => by
    simp only [lexN, Bool.or_eq_true, Bool.and_eq_true, decide_eq_true_eq] at h1 h2 ⊢
    rcases h1 with h1 | ⟨rfl, h1⟩
    · rcases h2 with h2 | ⟨rfl, _⟩
      · left; omega
      · left; exact h1
    · rcases h2 with h2 | ⟨rfl, h2⟩
      · left; exact h2
      · right; exact ⟨rfl, lexN_trans h1 h2⟩
theorem lexN_pre (x z : List Nat) : lexN (x ++ z) x = false := by
  induction x with
  | nil => cases z <;> rfl
  | cons a x ih => simp [lexN, ih]
/-- One that isn't below a, and another: what isn't less is the same or greater. -/
theorem lexN_tri (x y : List Nat) (h : lexN x y = false) : x = y ∨ lexN y x = true := by
  by_cases e : x = y
  · exact .inl e
  · right; rw [lexN_asym x y e, h]; rfl
theorem lexN_le_lt {x y z : List Nat} (h : lexN y x = false) (h2 : lexN y z = true) : lexN x z = true := by
  rcases lexN_tri y x h with rfl | h
  · exact h2
  · exact lexN_trans h h2
theorem getD_lt {a : List Nat} {i : Nat} (h : i < a.length) : a.getD i 0 = a[i] := by rw [List.getD_eq_getElem?_getD, List.getElem?_eq_getElem h]; rfl
theorem take_step {a : List Nat} {i : Nat} (h : i < a.length) : a = a.take i ++ (a.getD i 0 :: a.drop (i + 1)) := by
  rw [getD_lt h, ← List.drop_eq_getElem_cons h, List.take_append_drop]
/-- A raised beginning is above. -/
theorem lt_raise {a : List Nat} {i : Nat} (h : i < a.length) : lexN a (raise a i) = true := by
  conv => lhs; arg 1; rw [take_step h]
  unfold raise
  rw [lexN_app]
  simp [lexN]
theorem lexN_ns {x y : List Nat} (h : lexN x y = true) : lexN y x = false := by
  have hne : x ≠ y := fun e => by rw [e, lexN_irr] at h; cases h
  rw [lexN_asym x y hne, h]; rfl
/-- A text from a on that is shorter lies from a raised beginning on. -/
theorem short_raise (a t : List Nat) (hb : ∀ x ∈ t, x < 256) (hl : t.length < a.length) (h : lexN t a = false) :
    ∃ j, j < t.length ∧ a.getD j 0 < 255 ∧ lexN t (raise a j) = false := by
  induction t generalizing a with
  | nil => cases a with
    | nil => simp at hl
    | cons a x => simp [lexN] at h
  | cons c t ih => cases a with
    | nil => simp at hl
    | cons a x =>
      simp only [lexN, Bool.or_eq_false_iff, decide_eq_false_iff_not] at h
      by_cases e : c = a
      · subst e
        obtain ⟨j, h1, h2, h3⟩ := ih x (fun y hy => hb y (List.mem_cons_of_mem _ hy)) (by simpa using hl) (by simpa using h.2)
        refine ⟨j + 1, by simpa using h1, by simpa using h2, ?_⟩
        unfold raise at h3 ⊢
        simpa [lexN] using h3
      · refine ⟨0, by simp, ?_, ?_⟩
        · have := hb c List.mem_cons_self
          simp; omega
        · unfold raise
          simp only [List.take_zero, List.nil_append, List.getD_cons_zero]
          cases t with
          | nil => simp [lexN]; omega
          | cons d t => simp [lexN]; omega
/-- Where it differs sooner, it is above the other. -/
theorem raise_common {a b : List Nat} {j : Nat} (h : j < commonN a b) : lexN (raise a j) b = false := by
  induction j generalizing a b with
  | zero => cases a with
    | nil => simp [commonN] at h
    | cons x a => cases b with
      | nil => simp [commonN] at h
      | cons y b =>
        by_cases e : x = y
        · subst e; simp [raise, lexN]
        · simp [commonN, e] at h
  | succ j ih => cases a with
    | nil => simp [commonN] at h
    | cons x a => cases b with
      | nil => simp [commonN] at h
      | cons y b =>
        by_cases e : x = y
        · subst e
          simp only [commonN, if_true] at h
          have := ih (a := a) (b := b) (by omega)
          simp [raise, lexN] at this ⊢
          exact this
        · simp [commonN, e] at h
theorem partF_spec (a b : List Nat) (i : Nat) :
    (partF a b i = a ∧ ∀ j, i ≤ j → j + 1 < a.length → a.getD j 0 ≠ 255 → lexN (raise a j) b = false) ∨
    ∃ m, i ≤ m ∧ m + 1 < a.length ∧ a.getD m 0 ≠ 255 ∧ lexN (raise a m) b = true ∧ partF a b i = raise a m ∧ ∀ j, i ≤ j → j < m → a.getD j 0 ≠ 255 → lexN (raise a j) b = false := by
  unfold partF
  by_cases h : i + 1 < a.length
  · rw [if_pos h]
    have ih := partF_spec a b (i + 1)
    by_cases h2 : a.getD i 0 = 255
    · rw [if_pos h2]
      rcases ih with ⟨h3, h4⟩ | ⟨m, h3, h4, h5, h6, h7, h8⟩
      · exact .inl ⟨h3, fun j hj h1 h0 => by
          by_cases e : j = i
          · subst e; exact absurd h2 h0
          · exact h4 j (by omega) h1 h0⟩
      · exact .inr ⟨m, by omega, h4, h5, h6, h7, fun j hj h1 h0 => by
          by_cases e : j = i
          · subst e; exact absurd h2 h0
          · exact h8 j (by omega) h1 h0⟩
    · rw [if_neg h2]
      by_cases h3 : lexN (raise a i) b = true
      · rw [if_pos h3]
        exact .inr ⟨i, Nat.le_refl _, h, h2, h3, rfl, fun j hj h1 => by omega⟩
      · rw [if_neg h3]
        have h3' : lexN (raise a i) b = false := by simpa using h3
        rcases ih with ⟨h5, h4⟩ | ⟨m, h5, h4, h6, h7, h8, h9⟩
        · exact .inl ⟨h5, fun j hj h1 h0 => by
            by_cases e : j = i
            · subst e; exact h3'
            · exact h4 j (by omega) h1 h0⟩
        · exact .inr ⟨m, by omega, h4, h6, h7, h8, fun j hj h1 h0 => by
            by_cases e : j = i
            · subst e; exact h3'
            · exact h9 j (by omega) h1 h0⟩
  · rw [if_neg h]
    exact .inl ⟨rfl, fun j hj h1 => by omega⟩
termination_by a.length - i
theorem raise_length {a : List Nat} {i : Nat} (h : i < a.length) : (raise a i).length = i + 1 := by simp [raise]; omega
/-- What parts two texts lies between them, and no shorter one does, nor a lesser one as short. -/
theorem part_between (a b t : List Nat) (hab : lexN a b = true) (ht : ∀ x ∈ t, x < 256) :
    lexN (partS a b) a = false ∧ lexN (partS a b) b = true ∧ (partS a b).length ≤ a.length ∧
    (lexN t a = false → lexN t b = true → (partS a b).length < t.length ∨ (t.length = (partS a b).length ∧ lexN t (partS a b) = false)) := by
  have e : partS a b = partF a b (commonN a b) := by unfold partS; rw [if_pos hab]
  rw [e]
  have key : ∀ j, j + 1 < a.length → a.getD j 0 ≠ 255 → lexN (raise a j) b = true → commonN a b ≤ j := by
    intro j _ _ h3
    rcases Nat.lt_or_ge j (commonN a b) with h | h
    · rw [raise_common h] at h3; cases h3
    · exact h
  rcases partF_spec a b (commonN a b) with ⟨h1, h2⟩ | ⟨m, h1, h2, h3, h4, h5, h6⟩
  · rw [h1]
    refine ⟨lexN_irr a, hab, Nat.le_refl _, fun hta htb => ?_⟩
    rcases Nat.lt_trichotomy a.length t.length with h | h | h
    · exact .inl h
    · exact .inr ⟨h.symm, hta⟩
    · obtain ⟨j, j1, j2, j3⟩ := short_raise a t ht h hta
      have hr := lexN_le_lt j3 htb
      have := h2 j (key j (by omega) (by omega) hr) (by omega) (by omega)
      rw [this] at hr; cases hr
  · rw [h5]
    have hl := raise_length (a := a) (i := m) (by omega)
    refine ⟨lexN_ns (lt_raise (by omega)), h4, by omega, fun hta htb => ?_⟩
    rcases Nat.lt_or_ge (raise a m).length t.length with h | h
    · exact .inl h
    · obtain ⟨j, j1, j2, j3⟩ := short_raise a t ht (by omega) hta
      have hr := lexN_le_lt j3 htb
      have hj : m ≤ j := by
        rcases Nat.lt_or_ge j m with h' | h'
        · have := h6 j (key j (by omega) (by omega) hr) h' (by omega)
          rw [this] at hr; cases hr
        · exact h'
      have : j = m := by omega
      subst this
      exact .inr ⟨by omega, j3⟩
theorem partS_byte {a b : List Nat} (ha : ∀ x ∈ a, x < 256) : ∀ x ∈ partS a b, x < 256 := by
  unfold partS; split
  · rcases partF_spec a b (commonN a b) with ⟨h1, _⟩ | ⟨m, _, h2, h3, _, h5, _⟩
    · rw [h1]; exact ha
    · rw [h5]; exact raise_byte ha m (by omega) h3
  · exact ha
end Go.Proofs.Ytaeilfpaaogllaa
