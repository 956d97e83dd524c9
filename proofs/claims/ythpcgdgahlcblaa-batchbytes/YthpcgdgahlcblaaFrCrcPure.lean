/-
  The plain mathematics of the sums: a register of thirty-two bits, its steps, products of registers, bytes summed.
-/
namespace Go.Proofs.Ythpcgdgahlcblaa
namespace Crc

abbrev R := BitVec 32
def poly : R := 0x82F63B78#32

/-- One bit out of a register. -/
def dn (r : R) : R := if r.getLsbD 0 then (r >>> 1) ^^^ poly else r >>> 1

theorem xor4 (a b c d : R) : (a ^^^ c) ^^^ (b ^^^ d) = (a ^^^ b) ^^^ (c ^^^ d) := by
  apply BitVec.eq_of_getLsbD_eq; intro i _; simp only [BitVec.getLsbD_xor]
  cases a.getLsbD i <;> cases b.getLsbD i <;> cases c.getLsbD i <;> cases d.getLsbD i <;> rfl
theorem xor_cancel (a b : R) : (a ^^^ b) ^^^ b = a := by rw [BitVec.xor_assoc, BitVec.xor_self, BitVec.xor_zero]

theorem dn_xor (a b : R) : dn (a ^^^ b) = dn a ^^^ dn b := by
  unfold dn
  rw [BitVec.getLsbD_xor, BitVec.ushiftRight_xor_distrib]
  cases a.getLsbD 0 <;> cases b.getLsbD 0 <;> simp only [Bool.xor_false, Bool.false_xor, Bool.xor_self, if_true, Bool.false_eq_true, if_false]
  · apply BitVec.eq_of_getLsbD_eq; intro i _; simp only [BitVec.getLsbD_xor]; cases (a >>> 1).getLsbD i <;> cases (b >>> 1).getLsbD i <;> cases poly.getLsbD i <;> rfl
  · apply BitVec.eq_of_getLsbD_eq; intro i _; simp only [BitVec.getLsbD_xor]; cases (a >>> 1).getLsbD i <;> cases (b >>> 1).getLsbD i <;> cases poly.getLsbD i <;> rfl
  · apply BitVec.eq_of_getLsbD_eq; intro i _; simp only [BitVec.getLsbD_xor]; cases (a >>> 1).getLsbD i <;> cases (b >>> 1).getLsbD i <;> cases poly.getLsbD i <;> rfl
theorem dn_zero : dn 0#32 = 0#32 := by decide

def dnN : Nat → R → R
  | 0, r => r
  | n + 1, r => dn (dnN n r)
theorem dnN_xor (n : Nat) (a b : R) : dnN n (a ^^^ b) = dnN n a ^^^ dnN n b := by
  induction n with
  | zero => rfl
  | succ n ih => show dn (dnN n (a ^^^ b)) = _; rw [ih, dn_xor]; rfl
theorem dnN_zero (n : Nat) : dnN n 0#32 = 0#32 := by
  induction n with
  | zero => rfl
  | succ n ih => show dn (dnN n 0#32) = _; rw [ih, dn_zero]
theorem dnN_add (n m : Nat) (a : R) : dnN (n + m) a = dnN n (dnN m a) := by
  induction n with
  | zero => simp [dnN]
  | succ n ih => rw [Nat.add_right_comm]; show dn (dnN (n + m) a) = _; rw [ih]; rfl
theorem dnN_succ (n : Nat) (a : R) : dnN (n + 1) a = dnN n (dn a) := dnN_add n 1 a

/-- A step loses nothing. -/
theorem dn_inj0 (a : R) (h : dn a = 0#32) : a = 0#32 := by
  unfold dn at h
  split at h
  · rename_i h0
    exfalso
    have e : ((a >>> 1) ^^^ poly).getLsbD 31 = false := by rw [h]; rfl
    rw [BitVec.getLsbD_xor, BitVec.getLsbD_ushiftRight] at e
    have e2 : a.getLsbD (1 + 31) = false := BitVec.getLsbD_of_ge _ _ (by omega)
    rw [e2] at e
    exact absurd e (by decide)
  · rename_i h0
    apply BitVec.eq_of_getLsbD_eq; intro i hi
    rcases i with _ | i
    · simpa using h0
    · have e : (a >>> 1).getLsbD i = false := by rw [h]; simp
      rw [BitVec.getLsbD_ushiftRight] at e
      rw [Nat.add_comm, e]; simp
theorem dnN_inj0 (n : Nat) (a : R) (h : dnN n a = 0#32) : a = 0#32 := by
  induction n with
  | zero => exact h
  | succ n ih => exact ih (dn_inj0 _ h)

/-- The product, k of its bits. -/
def prodK : Nat → R → R → R
  | 0, _, _ => 0#32
  | k + 1, a, b => prodK k a b ^^^ (if b.getMsbD k then dnN k a else 0#32)
def prod (a b : R) : R := prodK 32 a b

theorem prodK_xorL (k : Nat) (a a' b : R) : prodK k (a ^^^ a') b = prodK k a b ^^^ prodK k a' b := by
  induction k with
  | zero => show (0#32 : R) = 0#32 ^^^ 0#32; decide
  | succ k ih =>
    show prodK k (a ^^^ a') b ^^^ _ = (prodK k a b ^^^ _) ^^^ (prodK k a' b ^^^ _)
    rw [ih, xor4]
    congr 1
    split
    · exact dnN_xor _ _ _
    · rfl
theorem prodK_xorR (k : Nat) (hk : k ≤ 32) (a b b' : R) : prodK k a (b ^^^ b') = prodK k a b ^^^ prodK k a b' := by
  induction k with
  | zero => show (0#32 : R) = 0#32 ^^^ 0#32; decide
  | succ k ih =>
    show prodK k a (b ^^^ b') ^^^ _ = (prodK k a b ^^^ _) ^^^ (prodK k a b' ^^^ _)
    rw [ih (by omega), xor4]
    congr 1
    rw [BitVec.getMsbD_xor]
    cases b.getMsbD k <;> cases b'.getMsbD k <;> simp
theorem prodK_dn (k : Nat) (a b : R) : prodK k (dn a) b = dn (prodK k a b) := by
  induction k with
  | zero => exact dn_zero.symm
  | succ k ih =>
    show prodK k (dn a) b ^^^ _ = dn (prodK k a b ^^^ _)
    rw [ih, dn_xor]
    congr 1
    split
    · exact (dnN_succ k a).symm
    · exact dn_zero.symm
/-- Bits that are all 0 from the k-th on add nothing. -/
theorem prodK_end (k : Nat) (a b : R) (h : b <<< k = 0#32) (j : Nat) (hj : k ≤ j) : prodK j a b = prodK k a b := by
  induction j with
  | zero => have : k = 0 := by omega
            subst this; rfl
  | succ j ih =>
    by_cases e : k = j + 1
    · rw [e]
    · show prodK j a b ^^^ _ = _
      rw [ih (by omega)]
      have : b.getMsbD j = false := by
        have e1 : (b <<< k).getMsbD (j - k) = false := by rw [h]; simp
        rw [BitVec.getMsbD_shiftLeft] at e1
        rwa [show j - k + k = j by omega] at e1
      rw [this]; simp

theorem lin_ext (f g : R → R) (hf : ∀ a b, f (a ^^^ b) = f a ^^^ f b) (hg : ∀ a b, g (a ^^^ b) = g a ^^^ g b)
    (hb : ∀ i : Fin 32, f (1#32 <<< i.val) = g (1#32 <<< i.val)) (a : R) : f a = g a := by
  have z : ∀ (f : R → R), (∀ a b, f (a ^^^ b) = f a ^^^ f b) → f 0#32 = 0#32 := by
    intro f hf
    have := hf 0#32 0#32
    rw [BitVec.xor_self, BitVec.xor_self] at this
    exact this
  have key : ∀ k, k ≤ 32 → ∀ a : R, (∀ i, k ≤ i → a.getLsbD i = false) → f a = g a := by
    intro k
    induction k with
    | zero =>
      intro _ a h
      have : a = 0#32 := by apply BitVec.eq_of_getLsbD_eq; intro i _; rw [h i (by omega)]; simp
      rw [this, z f hf, z g hg]
    | succ k ih =>
      intro hk a h
      cases e : a.getLsbD k
      · exact ih (by omega) a (fun i hi => by
          by_cases e2 : i = k
          · rw [e2]; exact e
          · exact h i (by omega))
      · have h2 : f (a ^^^ (1#32 <<< k)) = g (a ^^^ (1#32 <<< k)) := ih (by omega) _ (fun i hi => by
          rw [BitVec.getLsbD_xor, BitVec.getLsbD_shiftLeft]
          by_cases e2 : i = k
          · subst e2; rw [e]; simp; omega
          · rw [h i (by omega)]
            have : (1#32).getLsbD (i - k) = false := by
              rw [BitVec.getLsbD_one]; simp; omega
            rw [this]; simp)
        have h3 := hb ⟨k, by omega⟩
        have h4 : a = (a ^^^ (1#32 <<< k)) ^^^ (1#32 <<< k) := (xor_cancel _ _).symm
        rw [h4, hf, hg, h2, h3]
  exact key 32 (Nat.le_refl _) a (fun i hi => BitVec.getLsbD_of_ge _ _ hi)

theorem prod_poly (a : R) : prod a poly = dnN 32 a :=
  lin_ext (fun a => prod a poly) (dnN 32) (fun a b => prodK_xorL 32 a b poly) (fun a b => dnN_xor 32 a b) (by decide +kernel) a

theorem prodK_shift (k : Nat) (hk : k ≤ 31) (a b : R) : prodK (k + 1) a (b >>> 1) = dn (prodK k a b) := by
  induction k with
  | zero =>
    show prodK 0 a (b >>> 1) ^^^ _ = dn 0#32
    rw [dn_zero]
    have : (b >>> 1).getMsbD 0 = false := by rw [BitVec.getMsbD_ushiftRight]; simp
    rw [this]; show (0#32 : R) ^^^ 0#32 = 0#32; decide
  | succ k ih =>
    show prodK (k + 1) a (b >>> 1) ^^^ _ = dn (prodK k a b ^^^ _)
    rw [ih (by omega), dn_xor]
    congr 1
    have : (b >>> 1).getMsbD (k + 1) = b.getMsbD k := by
      rw [BitVec.getMsbD_ushiftRight]; simp; omega
    rw [this]
    split
    · rfl
    · exact dn_zero.symm
/-- A factor that goes one step on makes the product go one step on. -/
theorem prod_dnR (a b : R) : prod a (dn b) = dn (prod a b) := by
  have h1 : prod a (b >>> 1) = dn (prodK 31 a b) := prodK_shift 31 (by omega) a b
  have h2 : prod a b = prodK 31 a b ^^^ (if b.getMsbD 31 then dnN 31 a else 0#32) := rfl
  have h3 : b.getMsbD 31 = b.getLsbD 0 := by rw [BitVec.getMsbD_eq_getLsbD]; simp
  rw [h2, h3, dn_xor]
  unfold dn
  split
  · have : prod a ((b >>> 1) ^^^ poly) = prod a (b >>> 1) ^^^ prod a poly := prodK_xorR 32 (by omega) a _ _
    rw [this, h1, prod_poly]; rfl
  · rw [h1]; exact (by rw [show (if (0#32).getLsbD 0 then ((0#32) >>> 1) ^^^ poly else (0#32 : R) >>> 1) = 0#32 from by decide, BitVec.xor_zero]; rfl)
theorem prod_dnNR (n : Nat) (a b : R) : prod a (dnN n b) = dnN n (prod a b) := by
  induction n with
  | zero => rfl
  | succ n ih => show prod a (dn (dnN n b)) = _; rw [prod_dnR, ih]; rfl
/-- m is the move by k steps. -/
def IsMove (m : R) (k : Nat) : Prop := ∀ a, prod a m = dnN k a
theorem move8 : IsMove (8388608#32) 8 := by
  intro a
  exact lin_ext (fun a => prod a (8388608#32)) (dnN 8) (fun a b => prodK_xorL 32 a b _) (fun a b => dnN_xor 8 a b) (by decide +kernel) a
theorem IsMove.sq {m : R} {k : Nat} (h : IsMove m k) : IsMove (prod m m) (k + k) := by
  intro a
  rw [h m, prod_dnNR, h a, ← dnN_add]

/-- A register over bytes. -/
def over (r : R) : List (BitVec 8) → R
  | [] => r
  | c :: l => over (dnN 8 (r ^^^ c.setWidth 32)) l
theorem over_append (r : R) (l m : List (BitVec 8)) : over r (l ++ m) = over (over r l) m := by
  induction l generalizing r with
  | nil => rfl
  | cons c l ih => exact ih _
theorem over_snoc (r : R) (l : List (BitVec 8)) (c : BitVec 8) : over r (l ++ [c]) = dnN 8 (over r l ^^^ c.setWidth 32) := over_append r l [c]
theorem setWidth_xor (a b : BitVec 8) : (a ^^^ b).setWidth 32 = a.setWidth 32 ^^^ b.setWidth 32 := BitVec.setWidth_xor
theorem over_xor (r s : R) (l m : List (BitVec 8)) (h : l.length = m.length) : over (r ^^^ s) (List.zipWith (· ^^^ ·) l m) = over r l ^^^ over s m := by
  induction l generalizing r s m with
  | nil => cases m with
    | nil => rfl
    | cons _ _ => simp at h
  | cons c l ih => cases m with
    | nil => simp at h
    | cons d m =>
      show over (dnN 8 ((r ^^^ s) ^^^ (c ^^^ d).setWidth 32)) _ = over _ l ^^^ over _ m
      rw [← ih _ _ m (by simpa using h), ← dnN_xor, setWidth_xor, xor4]
theorem over_zeros (r : R) (l : List (BitVec 8)) (h : ∀ c ∈ l, c = 0#8) : over r l = dnN (8 * l.length) r := by
  induction l generalizing r with
  | nil => rfl
  | cons c l ih =>
    show over (dnN 8 (r ^^^ c.setWidth 32)) l = _
    rw [h c (by simp), ih _ (fun d hd => h d (by simp [hd]))]
    have : r ^^^ (0#8).setWidth 32 = r := by rw [show (0#8).setWidth 32 = 0#32 from rfl, BitVec.xor_zero]
    rw [this, ← dnN_add]; rfl
def ff : R := 0xFFFFFFFF#32
/-- The sum of bytes behind others. -/
def more (s : R) (l : List (BitVec 8)) : R := over (s ^^^ ff) l ^^^ ff
def sum (l : List (BitVec 8)) : R := more 0#32 l
theorem more_append (s : R) (l m : List (BitVec 8)) : more s (l ++ m) = more (more s l) m := by
  unfold more; rw [over_append, xor_cancel]
theorem zip_zero (l : List (BitVec 8)) : List.zipWith (· ^^^ ·) l (List.replicate l.length 0#8) = l := by
  induction l with
  | nil => rfl
  | cons c l ih => simp [List.replicate_succ, ih]
/-- What Join tells. -/
def join (a b : R) (n : Nat) : R := dnN (8 * n) a ^^^ b
theorem join_sum (l m : List (BitVec 8)) : join (sum l) (sum m) m.length = sum (l ++ m) := by
  unfold join
  have h : over (over (0#32 ^^^ ff) l) m = over (0#32 ^^^ ff) m ^^^ dnN (8 * m.length) (over (0#32 ^^^ ff) l ^^^ (0#32 ^^^ ff)) := by
    have e := over_xor (0#32 ^^^ ff) (over (0#32 ^^^ ff) l ^^^ (0#32 ^^^ ff)) m (List.replicate m.length 0#8) (by simp)
    rw [zip_zero, over_zeros _ (List.replicate m.length 0#8) (fun c hc => (List.mem_replicate.1 hc).2), List.length_replicate] at e
    rw [← e]; congr 1
    generalize over (0#32 ^^^ ff) l = y
    rw [BitVec.xor_comm y, ← BitVec.xor_assoc, BitVec.xor_self, BitVec.zero_xor]
  have h2 : sum (l ++ m) = (over (over (0#32 ^^^ ff) l) m) ^^^ ff := by unfold sum more; rw [over_append]
  rw [h2, h]
  have : sum l = over (0#32 ^^^ ff) l ^^^ (0#32 ^^^ ff) := by unfold sum more; rw [BitVec.zero_xor]
  rw [← this]
  have : sum m = over (0#32 ^^^ ff) m ^^^ ff := rfl
  rw [this, ← BitVec.xor_assoc, BitVec.xor_comm (dnN _ _)]
theorem sum_xor3 (a b c : List (BitVec 8)) (h1 : a.length = b.length) (h2 : b.length = c.length) :
    sum (List.zipWith (· ^^^ ·) (List.zipWith (· ^^^ ·) a b) c) = (sum a ^^^ sum b) ^^^ sum c := by
  unfold sum more
  have e : (0#32 : R) ^^^ ff = ((0#32 ^^^ ff) ^^^ (0#32 ^^^ ff)) ^^^ (0#32 ^^^ ff) := by rw [BitVec.xor_self, BitVec.zero_xor, BitVec.zero_xor]
  rw [e, over_xor _ _ _ _ (by simp [h1, h2]), over_xor _ _ _ _ h1, ← e]
  generalize over (0#32 ^^^ ff) a = x
  generalize over (0#32 ^^^ ff) b = y
  generalize over (0#32 ^^^ ff) c = z
  apply BitVec.eq_of_getLsbD_eq; intro i _; simp only [BitVec.getLsbD_xor]
  cases x.getLsbD i <;> cases y.getLsbD i <;> cases z.getLsbD i <;> cases ff.getLsbD i <;> rfl

/-- One bit in. -/
def bit1 (b : Bool) : R := if b then 1#32 else 0#32
/-- A register over bits. -/
def stN (g : Nat → Bool) (r : R) : Nat → R
  | 0 => r
  | p + 1 => dn (stN g r p ^^^ bit1 (g p))
def low (v : R) : Nat → R
  | 0 => 0#32
  | j + 1 => low v j ^^^ (if v.getLsbD j then 1#32 <<< j else 0#32)
theorem low_bit (v : R) (j : Nat) (hj : j ≤ 32) (i : Nat) : (low v j).getLsbD i = (decide (i < j) && v.getLsbD i) := by
  induction j with
  | zero => simp [low]
  | succ j ih =>
    show (low v j ^^^ _).getLsbD i = _
    rw [BitVec.getLsbD_xor, ih (by omega)]
    cases e : v.getLsbD j
    · simp only [Bool.false_eq_true, if_false, BitVec.getLsbD_zero, Bool.xor_false]
      by_cases h : i = j
      · subst h; rw [e]; simp
      · rw [show decide (i < j + 1) = decide (i < j) from decide_eq_decide.2 (by omega)]
    · simp only [if_true, BitVec.getLsbD_shiftLeft, BitVec.getLsbD_one]
      by_cases h : i = j
      · subst h; rw [e]; simp; omega
      · rw [show decide (i < j + 1) = decide (i < j) from decide_eq_decide.2 (by omega)]
        have : (decide (i < 32) && !decide (i < j) && (decide (0 < 32) && decide (i - j = 0))) = false := by
          by_cases h2 : i < j
          · simp [h2]
          · have : decide (i - j = 0) = false := decide_eq_false (by omega)
            rw [this]; simp
        rw [this, Bool.xor_false]
theorem low_all (v : R) : low v 32 = v := by
  apply BitVec.eq_of_getLsbD_eq; intro i hi; rw [low_bit v 32 (by omega)]; simp [hi]
theorem low_width (v : R) (k : Nat) (hk : k ≤ 32) (h : ∀ i, k ≤ i → v.getLsbD i = false) : low v k = v := by
  apply BitVec.eq_of_getLsbD_eq; intro i hi; rw [low_bit v k hk]
  by_cases e : i < k
  · simp [e]
  · rw [h i (by omega)]; simp
theorem dnN_one (j : Nat) (hj : j ≤ 31) : dnN j (1#32 <<< j) = 1#32 := by
  have : ∀ j : Fin 32, dnN j.val (1#32 <<< j.val) = 1#32 := by decide +kernel
  exact this ⟨j, by omega⟩
/-- Bits that come one by one are bits that come at once. -/
theorem stN_low (g : Nat → Bool) (r v : R) (p j : Nat) (hj : j ≤ 32) (hg : ∀ i, i < j → g (p + i) = v.getLsbD i) : stN g r (p + j) = dnN j (stN g r p ^^^ low v j) := by
  induction j with
  | zero => simp [low, dnN]
  | succ j ih =>
    show dn (stN g r (p + j) ^^^ bit1 (g (p + j))) = dn (dnN j (stN g r p ^^^ (low v j ^^^ _)))
    rw [ih (by omega) (fun i hi => hg i (by omega)), hg j (by omega), ← BitVec.xor_assoc, dnN_xor j (stN g r p ^^^ low v j)]
    congr 2
    unfold bit1
    split
    · exact (dnN_one j (by omega)).symm
    · exact (dnN_zero j).symm
theorem stN_congr (g h : Nat → Bool) (r : R) (p : Nat) (hg : ∀ i, i < p → g i = h i) : stN g r p = stN h r p := by
  induction p with
  | zero => rfl
  | succ p ih => show dn (stN g r p ^^^ bit1 (g p)) = dn (stN h r p ^^^ bit1 (h p)); rw [ih (fun i hi => hg i (by omega)), hg p (by omega)]
theorem byte_low (c : BitVec 8) : low (c.setWidth 32) 8 = c.setWidth 32 := low_width _ 8 (by omega) (fun i hi => by rw [BitVec.getLsbD_setWidth, BitVec.getLsbD_of_ge _ _ hi]; simp)
/-- The bits of bytes, one behind the other. -/
def bitsOf (l : List (BitVec 8)) (p : Nat) : Bool := (l.getD (p / 8) 0#8).getLsbD (p % 8)
theorem over_st (r : R) (l : List (BitVec 8)) : over r l = stN (bitsOf l) r (8 * l.length) := by
  have key : ∀ n, n ≤ l.length → over r (l.take n) = stN (bitsOf l) r (8 * n) := by
    intro n
    induction n with
    | zero => intro _; rfl
    | succ n ih =>
      intro hn
      rw [List.take_succ_eq_append_getElem (by omega), over_snoc, ih (by omega)]
      have := stN_low (bitsOf l) r (l[n].setWidth 32) (8 * n) 8 (by omega) (fun i hi => by
        unfold bitsOf
        rw [show (8 * n + i) / 8 = n by omega, show (8 * n + i) % 8 = i by omega, BitVec.getLsbD_setWidth, List.getD_eq_getElem?_getD, List.getElem?_eq_getElem (by omega)]
        simp; omega)
      rw [show 8 * (n + 1) = 8 * n + 8 by omega, this, byte_low]
  have := key l.length (Nat.le_refl _)
  rwa [List.take_length] at this
theorem stN_none (g : Nat → Bool) (p : Nat) (hg : ∀ i, i < p → g i = false) : stN g 0#32 p = 0#32 := by
  induction p with
  | zero => rfl
  | succ p ih => show dn (stN g 0#32 p ^^^ bit1 (g p)) = _; rw [ih (fun i hi => hg i (by omega)), hg p (by omega)]; decide
theorem stN_rest (g : Nat → Bool) (r : R) (p m : Nat) (hg : ∀ i, p ≤ i → i < p + m → g i = false) : stN g r (p + m) = dnN m (stN g r p) := by
  induction m with
  | zero => rfl
  | succ m ih =>
    show dn (stN g r (p + m) ^^^ bit1 (g (p + m))) = dn (dnN m (stN g r p))
    rw [ih (fun i h1 h2 => hg i h1 (by omega)), hg (p + m) (by omega) (by omega)]
    show dn (_ ^^^ 0#32) = _
    rw [BitVec.xor_zero]
/-- Bits within thirty-two in a row: the sum is 0 just if there is none. -/
theorem burst (l : List (BitVec 8)) (k : Nat) (v : R) (hk : k < 8 * l.length)
    (hb : ∀ p, p < 8 * l.length → bitsOf l p = (decide (k ≤ p ∧ p < k + 32) && v.getLsbD (p - k))) :
    (over 0#32 l = 0#32) ↔ ∀ i, i < 32 → k + i < 8 * l.length → v.getLsbD i = false := by
  rw [over_st]
  have h0 : stN (bitsOf l) 0#32 k = 0#32 := stN_none _ _ (fun i hi => by rw [hb i (by omega)]; simp; omega)
  obtain ⟨L, hL⟩ : ∃ L, L = min 32 (8 * l.length - k) := ⟨_, rfl⟩
  have h1 : stN (bitsOf l) 0#32 (k + L) = dnN L (low v L) := by
    rw [stN_low _ _ v k L (by omega) (fun i hi => by rw [hb _ (by omega), show k + i - k = i by omega]; simp; omega), h0, BitVec.zero_xor]
  have h2 : stN (bitsOf l) 0#32 (8 * l.length) = dnN (8 * l.length - k - L) (stN (bitsOf l) 0#32 (k + L)) := by
    have e := stN_rest (bitsOf l) 0#32 (k + L) (8 * l.length - k - L) (fun i a b => by rw [hb i (by omega)]; simp; omega)
    rwa [show k + L + (8 * l.length - k - L) = 8 * l.length by omega] at e
  rw [h2, h1]
  constructor
  · intro h i hi hki
    have h3 := dnN_inj0 _ _ (dnN_inj0 _ _ h)
    have h4 := low_bit v L (by omega) i
    rw [h3] at h4
    simpa [show i < L by omega] using h4
  · intro h
    have : low v L = 0#32 := by
      apply BitVec.eq_of_getLsbD_eq; intro i hi
      rw [low_bit v L (by omega)]
      by_cases e : i < L
      · rw [h i (by omega) (by omega)]; simp
      · simp [e]
    rw [this, dnN_zero, dnN_zero]
end Crc
end Go.Proofs.Ythpcgdgahlcblaa
