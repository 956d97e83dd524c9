/-
  Versions, their bytes and their order, as numbers and lists.
-/
import Derived.Test.YtjdnjobaoiecoaaIkIkBase
namespace Go.Proofs.Ytjdnjobaoiecoaa.IK
open Go.RowKit

/-- A version as a value. -/
def verV (k : ByteArray) (s d : Int) : Value := .agg #[.string k, .int .i64 s, .int .i64 d]
/-- Is it a version? -/
def okV (k : ByteArray) (s d : Int) : Prop := 1 ≤ k.size ∧ k.size ≤ 64 ∧ 0 ≤ s ∧ s ≤ 72057594037927935 ∧ (d = 0 ∨ d = 1)
instance (k : ByteArray) (s d : Int) : Decidable (okV k s d) := by unfold okV; exact inferInstance
/-- Number and kind as one. -/
def markN (s d : Int) : Nat := (s * 256 + d).toNat
theorem markN_lt {k : ByteArray} {s d : Int} (h : okV k s d) : markN s d < 18446744073709551616 := by
  obtain ⟨_, _, h1, h2, h3⟩ := h; unfold markN; omega
theorem markN_div {k : ByteArray} {s d : Int} (h : okV k s d) : ((markN s d / 256 : Nat) : Int) = s ∧ ((markN s d % 256 : Nat) : Int) = d := by
  obtain ⟨_, _, h1, h2, h3⟩ := h; unfold markN; omega
/-- A version's bytes. -/
def encL (k : ByteArray) (s d : Int) : List Nat := natsOf k ++ fixL (markN s d) 8
theorem encL_byte (k : ByteArray) (s d : Int) : ∀ x ∈ encL k s d, x < 256 := by
  intro x hx; rcases List.mem_append.1 hx with h | h
  · exact natsOf_byte k x h
  · exact fixL_byte _ _ x h
theorem encL_length (k : ByteArray) (s d : Int) : (encL k s d).length = k.size + 8 := by simp [encL, fixL_length, natsOf_length]
/-- Each 0 as 0 and 255. -/
def esc : List Nat → List Nat
  | [] => []
  | c :: l => if c = 0 then 0 :: 255 :: esc l else c :: esc l
theorem esc_byte (l : List Nat) (h : ∀ x ∈ l, x < 256) : ∀ x ∈ esc l, x < 256 := by
  induction l with
  | nil => simp [esc]
  | cons c l ih =>
    intro x hx
    unfold esc at hx
    have ih2 := ih (fun y hy => h y (List.mem_cons_of_mem _ hy))
    have hc := h c List.mem_cons_self
    split at hx
    · simp only [List.mem_cons] at hx
      rcases hx with rfl | rfl | hx
      · omega
      · omega
      · exact ih2 x hx
    · simp only [List.mem_cons] at hx
      rcases hx with rfl | hx
      · exact hc
      · exact ih2 x hx
theorem esc_length (l : List Nat) : (esc l).length ≤ 2 * l.length := by
  induction l with
  | nil => simp [esc]
  | cons c l ih => unfold esc; split <;> simp <;> omega
theorem esc_app (l m : List Nat) : esc (l ++ m) = esc l ++ esc m := by
  induction l with
  | nil => rfl
  | cons c l ih => simp only [List.cons_append, esc]; split <;> simp [ih]
/-- Bytes, the highest first. -/
def bigL (n : Nat) : Nat → List Nat
  | 0 => []
  | k + 1 => n / 2 ^ (8 * k) % 256 :: bigL n k
theorem bigL_length (n k : Nat) : (bigL n k).length = k := by induction k with
  | zero => rfl
  | succ k ih => simp [bigL, ih]
theorem bigL_byte (n k : Nat) : ∀ x ∈ bigL n k, x < 256 := by
  induction k with
  | zero => simp [bigL]
  | succ k ih =>
    intro x hx; simp only [bigL, List.mem_cons] at hx
    rcases hx with rfl | hx
    · omega
    · exact ih x hx
/-- What bytes make, the highest first. -/
def valB : List Nat → Nat
  | [] => 0
  | c :: l => c * 2 ^ (8 * l.length) + valB l
theorem valB_lt (l : List Nat) (h : ∀ x ∈ l, x < 256) : valB l < 2 ^ (8 * l.length) := by
  induction l with
  | nil => simp [valB]
  | cons c l ih =>
    have h1 := ih (fun y hy => h y (List.mem_cons_of_mem _ hy))
    have hc := h c List.mem_cons_self
    have h2 : c * 2 ^ (8 * l.length) ≤ 255 * 2 ^ (8 * l.length) := Nat.mul_le_mul_right _ (by omega)
    rw [List.length_cons, pow8]; unfold valB; omega
theorem valB_big (n k : Nat) : valB (bigL n k) = n % 2 ^ (8 * k) := by
  induction k with
  | zero => simp [bigL, valB, Nat.mod_one]
  | succ k ih =>
    show n / 2 ^ (8 * k) % 256 * 2 ^ (8 * (bigL n k).length) + valB (bigL n k) = _
    rw [ih, bigL_length, pow8, Nat.mul_comm 256, Nat.mod_mul, Nat.mul_comm (2 ^ (8 * k))]; omega
theorem bigL_add (c n k : Nat) : bigL (c * 2 ^ (8 * k) + n) k = bigL n k := by
  have key : ∀ j, j ≤ k → bigL (c * 2 ^ (8 * k) + n) j = bigL n j := by
    intro j hj
    induction j with
    | zero => rfl
    | succ j ih =>
      simp only [bigL]
      rw [ih (by omega)]
      congr 1
      have : c * 2 ^ (8 * k) = 2 ^ (8 * j) * (256 * (c * 2 ^ (8 * (k - (j + 1))))) := by
        rw [show 8 * k = 8 * j + (8 + 8 * (k - (j + 1))) by omega, Nat.pow_add, Nat.pow_add]
        rw [Nat.mul_left_comm c, Nat.mul_left_comm c]
      rw [this, Nat.mul_add_div (Nat.two_pow_pos _)]; omega
  exact key k (Nat.le_refl _)
theorem big_val (l : List Nat) (h : ∀ x ∈ l, x < 256) : bigL (valB l) l.length = l := by
  induction l with
  | nil => rfl
  | cons c l ih =>
    have hl := fun y hy => h y (List.mem_cons_of_mem _ hy)
    have hc := h c List.mem_cons_self
    have hv := valB_lt l hl
    rw [List.length_cons]
    show (valB (c :: l)) / 2 ^ (8 * l.length) % 256 :: bigL (valB (c :: l)) l.length = _
    have e : valB (c :: l) = c * 2 ^ (8 * l.length) + valB l := rfl
    rw [e, bigL_add, ih hl, Nat.mul_comm, Nat.mul_add_div (Nat.two_pow_pos _), Nat.div_eq_of_lt hv]
    congr 1; omega
theorem valB_snoc (l : List Nat) (c : Nat) : valB (l ++ [c]) = valB l * 256 + c := by
  induction l with
  | nil => simp [valB]
  | cons x l ih =>
    simp only [List.cons_append, valB, ih, List.length_append, List.length_cons, List.length_nil]
    rw [Nat.zero_add, pow8, Nat.add_mul, Nat.mul_assoc x, Nat.mul_comm 256]; omega
/-- The lexicographic order. -/
def lexN : List Nat → List Nat → Bool
  | _, [] => false
  | [], _ :: _ => true
  | a :: x, b :: y => decide (a < b) || (decide (a = b) && lexN x y)
theorem lexN_irr (l : List Nat) : lexN l l = false := by
  induction l with
  | nil => rfl
  | cons c l ih => simp [lexN, ih]
theorem lexN_app (p x y : List Nat) : lexN (p ++ x) (p ++ y) = lexN x y := by
  induction p with
  | nil => rfl
  | cons c l ih => simp [lexN, ih]
theorem lexN_asym (x y : List Nat) (h : x ≠ y) : lexN y x = !lexN x y := by
  induction x generalizing y with
  | nil => cases y with
    | nil => exact absurd rfl h
    | cons b y => rfl
  | cons a x ih => cases y with
    | nil => rfl
    | cons b y =>
      unfold lexN
      rcases Nat.lt_trichotomy a b with h1 | h1 | h1
      · simp [h1, show ¬ b < a by omega, show ¬ b = a by omega]
      · subst h1
        have : x ≠ y := fun e => h (by rw [e])
        simp [ih y this]
      · simp [h1, show ¬ a < b by omega, show ¬ a = b by omega]
theorem lex_val (l m : List Nat) (hl : ∀ x ∈ l, x < 256) (hm : ∀ x ∈ m, x < 256) (h : l.length = m.length) : lexN l m = decide (valB l < valB m) := by
  induction l generalizing m with
  | nil => cases m with
    | nil => rfl
    | cons b y => simp at h
  | cons a x ih => cases m with
    | nil => simp at h
    | cons b y =>
      have hx := fun y hy => hl y (List.mem_cons_of_mem _ hy)
      have hy := fun z hz => hm z (List.mem_cons_of_mem _ hz)
      have hlen : x.length = y.length := by simpa using h
      have v1 := valB_lt x hx
      have v2 := valB_lt y hy
      unfold lexN
      rw [ih y hx hy hlen]
      show _ = decide (a * 2 ^ (8 * x.length) + valB x < b * 2 ^ (8 * y.length) + valB y)
      rw [hlen] at v1 ⊢
      generalize 2 ^ (8 * y.length) = P at *
      rcases Nat.lt_trichotomy a b with h1 | h1 | h1
      · have : (a + 1) * P ≤ b * P := Nat.mul_le_mul_right _ h1
        rw [Nat.add_mul] at this
        have h2 : a * P + valB x < b * P + valB y := by omega
        simp [h1, h2]
      · subst h1
        simp
      · have : (b + 1) * P ≤ a * P := Nat.mul_le_mul_right _ h1
        rw [Nat.add_mul] at this
        have h2 : ¬ (a * P + valB x < b * P + valB y) := by omega
        simp [h2, show ¬ a < b by omega, show ¬ a = b by omega]
/-- Keys in their sortable form have their order, and what follows counts for like ones. -/
theorem lex_esc (k m x y : List Nat) : lexN (esc k ++ 0 :: 0 :: x) (esc m ++ 0 :: 0 :: y) = if k = m then lexN x y else lexN k m := by
  induction k generalizing m with
  | nil => cases m with
    | nil => simp [esc, lexN]
    | cons b m =>
      unfold esc
      by_cases hb : b = 0
      · subst hb; simp [lexN]
      · simp [hb, lexN, show 0 < b by omega]
  | cons a k ih => cases m with
    | nil =>
      by_cases ha : a = 0
      · subst ha; simp [esc, lexN]
      · simp [esc, ha, lexN]
    | cons b m =>
      by_cases ha : a = 0
      · by_cases hb : b = 0
        · subst ha; subst hb
          simp only [esc, if_true, List.cons_append, lexN]
          simp [ih]
        · subst ha
          simp [esc, hb, lexN, show 0 < b by omega, show ¬ 0 = b by omega]
      · by_cases hb : b = 0
        · subst hb
          simp [esc, ha, lexN]
        · simp only [esc, ha, hb, if_false, List.cons_append, lexN, ih, List.cons.injEq]
          by_cases hab : a = b
          · subst hab; simp
          · simp [hab]
/-- A version's sortable bytes. -/
def sortL (k : ByteArray) (s d : Int) : List Nat := esc (natsOf k) ++ 0 :: 0 :: bigL (18446744073709551615 - markN s d) 8
theorem sortL_byte (k : ByteArray) (s d : Int) : ∀ x ∈ sortL k s d, x < 256 := by
  intro x hx
  rcases List.mem_append.1 hx with h | h
  · exact esc_byte _ (natsOf_byte k) x h
  · simp only [List.mem_cons] at h
    rcases h with rfl | rfl | h
    · omega
    · omega
    · exact bigL_byte _ _ x h
theorem sortL_length (k : ByteArray) (s d : Int) : (sortL k s d).length ≤ 2 * k.size + 10 := by
  have := esc_length (natsOf k)
  rw [natsOf_length] at this
  simp [sortL, bigL_length]; omega
/-- The order of versions. -/
def lessB (k : ByteArray) (s d : Int) (k' : ByteArray) (s' d' : Int) : Bool :=
  if k = k' then (if s = s' then decide (d' < d) else decide (s' < s)) else Op.bytesLess k.toList k'.toList
theorem less_lex (t u : ByteArray) : Op.bytesLess t.toList u.toList = lexN (natsOf t) (natsOf u) := by
  rw [toList_eq, toList_eq]
  unfold natsOf
  generalize t.data.toList = x
  generalize u.data.toList = y
  induction x generalizing y with
  | nil => cases y <;> simp [Op.bytesLess, lexN]
  | cons a x ih => cases y with
    | nil => simp [Op.bytesLess, lexN]
    | cons b y =>
      simp only [List.map_cons, Op.bytesLess, lexN, ih]
      have e1 : decide (a < b) = decide (a.toNat < b.toNat) := by simp [UInt8.lt_iff_toNat_lt]
      have e2 : (a == b) = decide (a.toNat = b.toNat) := by
        by_cases h : a = b
        · subst h; simp
        · have : ¬ a.toNat = b.toNat := fun e => h (UInt8.toNat_inj.1 e)
          simp [h, this]
      rw [e1, e2]
theorem natsOf_inj {t u : ByteArray} (h : natsOf t = natsOf u) : t = u := by rw [← strOf_natsOf t, h, strOf_natsOf]
theorem less_strOf {l m : List Nat} (hl : ∀ x ∈ l, x < 256) (hm : ∀ x ∈ m, x < 256) : Op.bytesLess (strOf l).toList (strOf m).toList = lexN l m := by
  rw [less_lex, natsOf_strOf hl, natsOf_strOf hm]
/-- Sortable bytes have the versions' order. -/
theorem lex_sort {k k' : ByteArray} {s d s' d' : Int} (h : okV k s d) (h' : okV k' s' d') : lexN (sortL k s d) (sortL k' s' d') = lessB k s d k' s' d' := by
  unfold sortL lessB
  rw [lex_esc]
  by_cases e : k = k'
  · subst e
    rw [if_pos rfl, if_pos rfl, lex_val _ _ (bigL_byte _ _) (bigL_byte _ _) (by rw [bigL_length, bigL_length]), valB_big, valB_big]
    obtain ⟨_, _, h1, h2, h3⟩ := h
    obtain ⟨_, _, h1', h2', h3'⟩ := h'
    have m1 : markN s d < 18446744073709551616 := by unfold markN; omega
    have m2 : markN s' d' < 18446744073709551616 := by unfold markN; omega
    rw [show 2 ^ (8 * 8) = 18446744073709551616 from rfl, Nat.mod_eq_of_lt (by omega), Nat.mod_eq_of_lt (by omega)]
    unfold markN
    split
    · subst s'; apply decide_eq_decide.2; omega
    · apply decide_eq_decide.2; omega
  · rw [if_neg (fun e2 => e (natsOf_inj e2)), if_neg e, less_lex]
theorem big_inj {a b k : Nat} (ha : a < 2 ^ (8 * k)) (hb : b < 2 ^ (8 * k)) (h : bigL a k = bigL b k) : a = b := by
  have := congrArg valB h
  rwa [valB_big, valB_big, Nat.mod_eq_of_lt ha, Nat.mod_eq_of_lt hb] at this
theorem esc_inj (k m x y : List Nat) (h : esc k ++ 0 :: 0 :: x = esc m ++ 0 :: 0 :: y) : k = m ∧ x = y := by
  induction k generalizing m with
  | nil => cases m with
    | nil => simp [esc] at h; exact ⟨rfl, h⟩
    | cons b m =>
      by_cases hb : b = 0
      · subst hb; simp [esc] at h
      · simp [esc, hb] at h; omega
  | cons a k ih => cases m with
    | nil =>
      by_cases ha : a = 0
      · subst ha; simp [esc] at h
      · simp [esc, ha] at h
    | cons b m =>
      by_cases ha : a = 0
      · by_cases hb : b = 0
        · subst ha; subst hb
          simp only [esc, if_true, List.cons_append, List.cons.injEq, true_and] at h
          obtain ⟨e1, e2⟩ := ih m h
          exact ⟨by rw [e1], e2⟩
        · subst ha
          simp [esc, hb] at h; omega
      · by_cases hb : b = 0
        · subst hb
          simp [esc, ha] at h
        · simp only [esc, ha, hb, if_false, List.cons_append, List.cons.injEq] at h
          obtain ⟨e1, e2⟩ := ih m h.2
          exact ⟨by rw [e1, h.1], e2⟩
theorem sort_inj {k k' : ByteArray} {s d s' d' : Int} (h : okV k s d) (h' : okV k' s' d') : sortL k s d = sortL k' s' d' ↔ (k = k' ∧ s = s' ∧ d = d') := by
  constructor
  · intro e
    obtain ⟨e1, e2⟩ := esc_inj _ _ _ _ e
    have m1 := markN_lt h
    have m2 := markN_lt h'
    have e3 := big_inj (by omega) (by omega) e2
    have e4 : markN s d = markN s' d' := by omega
    have d1 := markN_div h
    have d2 := markN_div h'
    rw [e4] at d1
    exact ⟨natsOf_inj e1, by omega, by omega⟩
  · rintro ⟨rfl, rfl, rfl⟩; rfl
end Go.Proofs.Ytjdnjobaoiecoaa.IK
