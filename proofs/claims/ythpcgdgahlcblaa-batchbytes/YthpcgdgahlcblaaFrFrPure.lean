/-
  The plain mathematics of records in blocks: pieces, their sums, what is laid and what is scanned.
-/
import Derived.Test.YthpcgdgahlcblaaFrCrcPure
namespace Go.Proofs.Ythpcgdgahlcblaa

/-- What the first bytes make, eight bits to a byte. -/
def acc8 (l : List Nat) : Nat → Nat
  | 0 => 0
  | k + 1 => acc8 l k + l.getD k 0 * 2 ^ (8 * k)
theorem pow8 (k : Nat) : 2 ^ (8 * (k + 1)) = 256 * 2 ^ (8 * k) := by rw [Nat.mul_add, Nat.pow_add, Nat.mul_comm]
theorem acc8_lt (l : List Nat) (h : ∀ x ∈ l, x < 256) (k : Nat) : acc8 l k < 2 ^ (8 * k) := by
  induction k with
  | zero => simp [acc8]
  | succ k ih =>
    have hx : l.getD k 0 < 256 := by
      rw [List.getD_eq_getElem?_getD]
      cases e : l[k]? with
      | none => simp
      | some x => simp; exact h x (List.mem_of_getElem? e)
    have h1 : l.getD k 0 * 2 ^ (8 * k) ≤ 255 * 2 ^ (8 * k) := Nat.mul_le_mul_right _ (by omega)
    rw [pow8]
    show acc8 l k + _ < _
    omega
theorem horner8 (l : List Nat) (n j K : Nat) (h : n * 2 ^ (8 * (j + 1)) + acc8 l (j + 1) = K) : (n * 256 + l.getD j 0) * 2 ^ (8 * j) + acc8 l j = K := by
  rw [← h, pow8]
  show _ = n * (256 * 2 ^ (8 * j)) + (acc8 l j + l.getD j 0 * 2 ^ (8 * j))
  rw [Nat.add_mul, Nat.mul_assoc]; omega
def fixL (n s : Nat) : List Nat := (List.range s).map fun i => n / 2 ^ (8 * i) % 256
theorem fixL_length (n s : Nat) : (fixL n s).length = s := by simp [fixL]
theorem fixL_byte (n s : Nat) : ∀ x ∈ fixL n s, x < 256 := by
  intro x hx; simp only [fixL, List.mem_map] at hx; obtain ⟨i, _, rfl⟩ := hx; exact Nat.mod_lt _ (by omega)
theorem fixL_get (n s i : Nat) (h : i < s) : (fixL n s).getD i 0 = n / 2 ^ (8 * i) % 256 := by simp [fixL, List.getD_eq_getElem?_getD, h]
theorem acc_fix (n s k : Nat) (hk : k ≤ s) : acc8 (fixL n s) k = n % 2 ^ (8 * k) := by
  induction k with
  | zero => simp [acc8, Nat.mod_one]
  | succ k ih =>
    show acc8 (fixL n s) k + _ = _
    rw [ih (by omega), fixL_get n s k (by omega), pow8, Nat.mul_comm 256, Nat.mod_mul, Nat.mul_comm (2 ^ (8 * k))]
theorem acc8_tail (l : List Nat) (i d : Nat) : ∃ R, acc8 l (i + d) = acc8 l i + 2 ^ (8 * i) * R := by
  induction d with
  | zero => exact ⟨0, by simp⟩
  | succ d ih =>
    obtain ⟨R, hR⟩ := ih
    refine ⟨R + l.getD (i + d) 0 * 2 ^ (8 * d), ?_⟩
    show acc8 l (i + d) + l.getD (i + d) 0 * 2 ^ (8 * (i + d)) = _
    rw [hR, Nat.mul_add 8, Nat.pow_add, Nat.mul_add, Nat.mul_left_comm]; omega
theorem fix_acc (l : List Nat) (h : ∀ x ∈ l, x < 256) : fixL (acc8 l l.length) l.length = l := by
  apply List.ext_getElem
  · simp [fixL]
  · intro i h1 h2
    have hx := h l[i] (List.getElem_mem h2)
    obtain ⟨R, hR⟩ := acc8_tail l (i + 1) (l.length - (i + 1))
    rw [show i + 1 + (l.length - (i + 1)) = l.length by omega] at hR
    have hlt := acc8_lt l h i
    have hg : l.getD i 0 = l[i] := by rw [List.getD_eq_getElem?_getD, List.getElem?_eq_getElem h2]; rfl
    have e : acc8 l l.length = acc8 l i + 2 ^ (8 * i) * (l[i] + 256 * R) := by
      rw [hR]
      show acc8 l i + l.getD i 0 * 2 ^ (8 * i) + _ = _
      rw [hg, pow8, Nat.mul_add, Nat.mul_comm (2 ^ (8 * i)) l[i], Nat.mul_comm 256, Nat.mul_assoc]; omega
    simp only [fixL, List.getElem_map, List.getElem_range]
    rw [e, Nat.add_mul_div_left _ _ (Nat.two_pow_pos _), Nat.div_eq_of_lt hlt]
    omega

def maskN (n : Nat) : Nat := (n % 32768 * 131072 + n / 32768 + 2726488792) % 4294967296
def unmaskN (m : Nat) : Nat := (m + 1568478504) % 4294967296 % 131072 * 32768 + (m + 1568478504) % 4294967296 / 131072
theorem maskN_lt (n : Nat) : maskN n < 4294967296 := Nat.mod_lt _ (by omega)
theorem unmaskN_lt (n : Nat) : unmaskN n < 4294967296 := by unfold unmaskN; omega
theorem unmask_mask (n : Nat) (h : n < 4294967296) : unmaskN (maskN n) = n := by
  unfold unmaskN maskN
  have e : ((n % 32768 * 131072 + n / 32768 + 2726488792) % 4294967296 + 1568478504) % 4294967296 = n % 32768 * 131072 + n / 32768 := by omega
  rw [e]
  have e1 : (n % 32768 * 131072 + n / 32768) % 131072 = n / 32768 := by omega
  have e2 : (n % 32768 * 131072 + n / 32768) / 131072 = n % 32768 := by omega
  rw [e1, e2]; omega
set_option maxRecDepth 100000 in
theorem mask_unmask (n : Nat) (h : n < 4294967296) : maskN (unmaskN n) = n := by
  unfold unmaskN maskN
  generalize hm : (n + 1568478504) % 4294967296 = m
  have e1 : (m % 131072 * 32768 + m / 131072) % 32768 = m / 131072 := by omega
  have e2 : (m % 131072 * 32768 + m / 131072) / 32768 = m % 131072 := by omega
  rw [e1, e2]; omega

/-- Bytes as they are summed. -/
def bv (l : List Nat) : List (BitVec 8) := l.map (BitVec.ofNat 8)
theorem bv_length (l : List Nat) : (bv l).length = l.length := by simp [bv]
theorem bv_app (l m : List Nat) : bv (l ++ m) = bv l ++ bv m := by simp [bv]
/-- Another last byte, another sum. -/
theorem over_last (r : Crc.R) (l : List (BitVec 8)) (c d : BitVec 8) (h : Crc.over r (l ++ [c]) = Crc.over r (l ++ [d])) : c = d := by
  rw [Crc.over_snoc, Crc.over_snoc] at h
  have h1 : Crc.dnN 8 (c.setWidth 32 ^^^ d.setWidth 32) = 0#32 := by
    have e : c.setWidth 32 ^^^ d.setWidth 32 = (Crc.over r l ^^^ c.setWidth 32) ^^^ (Crc.over r l ^^^ d.setWidth 32) := by
      rw [Crc.xor4, BitVec.xor_self, BitVec.zero_xor]
    rw [e, Crc.dnN_xor, h, BitVec.xor_self]
  have h2 := Crc.dnN_inj0 8 _ h1
  have h3 : (c.setWidth 32 : Crc.R) = d.setWidth 32 := by
    have := congrArg (· ^^^ d.setWidth 32) h2
    simpa [Crc.xor_cancel] using this
  have h4 := congrArg BitVec.toNat h3
  rw [BitVec.toNat_setWidth, BitVec.toNat_setWidth] at h4
  have := c.isLt; have := d.isLt
  apply BitVec.eq_of_toNat_eq; omega
namespace Frm
/-- A piece's sum, as it is written. -/
def sumN (k : Nat) (p : List Nat) : Nat := maskN (Crc.sum (bv (k :: p))).toNat
theorem sumN_lt (k : Nat) (p : List Nat) : sumN k p < 4294967296 := maskN_lt _
theorem sum_last {l : List Nat} {x y : Nat} (hx : x < 256) (hy : y < 256) (h : maskN (Crc.sum (bv (l ++ [x]))).toNat = maskN (Crc.sum (bv (l ++ [y]))).toNat) : x = y := by
  have h1 := congrArg unmaskN h
  rw [unmask_mask _ (BitVec.isLt _), unmask_mask _ (BitVec.isLt _)] at h1
  have h2 := BitVec.eq_of_toNat_eq h1
  unfold Crc.sum Crc.more at h2
  have h3 := congrArg (· ^^^ Crc.ff) h2
  simp only [Crc.xor_cancel, bv_app] at h3
  have h4 := over_last _ _ _ _ h3
  have h5 := congrArg BitVec.toNat h4
  simp at h5; omega
def left (n : Nat) : Nat := 128 - n % 128
def gap (n : Nat) : Nat := if left n < 7 then left n else 0
def room (n : Nat) : Nat := if left n < 7 then 121 else left n - 7
/-- A piece's bytes. -/
def pieceL (k : Nat) (p : List Nat) : List Nat := fixL (sumN k p) 4 ++ (fixL p.length 2 ++ (k :: p))
theorem pieceL_length (k : Nat) (p : List Nat) : (pieceL k p).length = 7 + p.length := by
  simp [pieceL, fixL_length]; omega
theorem pieceL_byte {k : Nat} {p : List Nat} (hk : k < 256) (hp : ∀ x ∈ p, x < 256) : ∀ x ∈ pieceL k p, x < 256 := by
  intro x hx
  simp only [pieceL, List.mem_append, List.mem_cons] at hx
  rcases hx with h | h | rfl | h
  · exact fixL_byte _ _ x h
  · exact fixL_byte _ _ x h
  · exact hk
  · exact hp x h
/-- The piece that bytes begin with. -/
def pieceAt (rm : Nat) (r : List Nat) : Option (Nat × List Nat) :=
  if r.length < 7 then none
  else if rm < acc8 ((r.take 6).drop 4) 2 ∨ r.length < 7 + acc8 ((r.take 6).drop 4) 2 then none
  else if acc8 (r.take 4) 4 = sumN (r.getD 6 0) ((r.drop 7).take (acc8 ((r.take 6).drop 4) 2)) then some (r.getD 6 0, (r.drop 7).take (acc8 ((r.take 6).drop 4) 2))
  else none
theorem pieceAt_len {rm : Nat} {r : List Nat} {k : Nat} {p : List Nat} (h : pieceAt rm r = some (k, p)) : 7 + p.length ≤ r.length ∧ p.length ≤ rm := by
  unfold pieceAt at h
  split at h
  · cases h
  · split at h
    · cases h
    · split at h
      · injection h with h
        injection h with h1 h2
        subst h2
        rw [List.length_take, List.length_drop]; omega
      · cases h
theorem pieceAt_byte {rm : Nat} {r : List Nat} {k : Nat} {p : List Nat} (hr : ∀ x ∈ r, x < 256) (h : pieceAt rm r = some (k, p)) : k < 256 ∧ ∀ x ∈ p, x < 256 := by
  unfold pieceAt at h
  split at h
  · cases h
  · split at h
    · cases h
    · split at h
      · injection h with h
        injection h with h1 h2
        subst h1; subst h2
        refine ⟨?_, fun x hx => hr x (List.mem_of_mem_drop (List.mem_of_mem_take hx))⟩
        rw [List.getD_eq_getElem?_getD]
        cases e : r[6]? with
        | none => simp
        | some x => simp; exact hr x (List.mem_of_getElem? e)
      · cases h
/-- The parts of a piece with bytes behind it. -/
theorem parts (k : Nat) (p x : List Nat) (hp : p.length < 65536) :
    (pieceL k p ++ x).take 4 = fixL (sumN k p) 4 ∧ acc8 (((pieceL k p ++ x).take 6).drop 4) 2 = p.length ∧ (pieceL k p ++ x).getD 6 0 = k ∧ (pieceL k p ++ x).drop 7 = p ++ x := by
  obtain ⟨a, ha⟩ : ∃ a, fixL (sumN k p) 4 = a := ⟨_, rfl⟩
  have hla : a.length = 4 := by rw [← ha, fixL_length]
  have hc := acc_fix p.length 2 2 (Nat.le_refl _)
  obtain ⟨b, hb⟩ : ∃ b, fixL p.length 2 = b := ⟨_, rfl⟩
  have hlb : b.length = 2 := by rw [← hb, fixL_length]
  rw [hb] at hc
  unfold pieceL
  rw [ha, hb]
  match a, hla with
  | [a0, a1, a2, a3], _ =>
    match b, hlb with
    | [b0, b1], _ =>
      refine ⟨rfl, ?_, rfl, rfl⟩
      show acc8 [b0, b1] 2 = _
      rw [hc, Nat.mod_eq_of_lt (by omega)]
theorem pieceAt_piece (rm k : Nat) (p x : List Nat) (hp : p.length < 65536) (hr : p.length ≤ rm) : pieceAt rm (pieceL k p ++ x) = some (k, p) := by
  obtain ⟨h1, h2, h3, h4⟩ := parts k p x hp
  have hl : (pieceL k p ++ x).length = 7 + p.length + x.length := by rw [List.length_append, pieceL_length]
  have h5 : ((pieceL k p ++ x).drop 7).take p.length = p := by rw [h4]; simp
  unfold pieceAt
  rw [h2, h3, h5, h1, if_neg (by omega), if_neg (by omega), if_pos]
  rw [acc_fix _ 4 4 (Nat.le_refl _)]
  exact Nat.mod_eq_of_lt (sumN_lt k p)
/-- The last byte is another one. -/
def spoil (l : List Nat) (y : Nat) : List Nat := l.dropLast ++ [y]
theorem spoil_length {l : List Nat} (y : Nat) (h : l ≠ []) : (spoil l y).length = l.length := by
  unfold spoil
  have : 0 < l.length := List.length_pos_iff.2 h
  simp; omega
theorem spoil_app {l m : List Nat} (y : Nat) (h : m ≠ []) : spoil (l ++ m) y = l ++ spoil m y := by
  unfold spoil; rw [List.dropLast_append_of_ne_nil h, List.append_assoc]
/-- A piece that is cut is none. -/
theorem pieceAt_cut (rm k : Nat) (p : List Nat) (hp : p.length < 65536) (c : Nat) (hc : c < 7 + p.length) : pieceAt rm ((pieceL k p).take c) = none := by
  have hl : ((pieceL k p).take c).length = c := by rw [List.length_take, pieceL_length]; omega
  unfold pieceAt
  by_cases h7 : c < 7
  · rw [if_pos (by omega)]
  · obtain ⟨h1, h2, h3, h4⟩ := parts k p [] hp
    rw [List.append_nil] at h1 h2 h3 h4
    have e : ((pieceL k p).take c).take 6 = (pieceL k p).take 6 := by rw [List.take_take, Nat.min_eq_left (by omega)]
    rw [if_neg (by omega), e, h2, if_pos (by omega)]
theorem pieceAt_short {rm : Nat} {r : List Nat} (h : r.length < 7) : pieceAt rm r = none := by
  unfold pieceAt; rw [if_pos h]
/-- A piece that is cut, its last byte another one, is none. -/
theorem pieceAt_spoil (rm k : Nat) (p : List Nat) (hk : k < 256) (hb : ∀ x ∈ p, x < 256) (hp : p.length < 65536) (c : Nat) (h0 : 0 < c) (hc : c ≤ 7 + p.length) (y : Nat) (hy : y < 256)
    (hne : ((pieceL k p).take c).getLast? ≠ some y) : pieceAt rm (spoil ((pieceL k p).take c) y) = none := by
  have hnil : (pieceL k p).take c ≠ [] := by rw [← List.length_pos_iff, List.length_take, pieceL_length]; omega
  have hl : (spoil ((pieceL k p).take c) y).length = c := by rw [spoil_length y hnil, List.length_take, pieceL_length]; omega
  by_cases h7 : c < 7
  · exact pieceAt_short (by omega)
  · obtain ⟨h1, h2, h3, h4⟩ := parts k p [] hp
    rw [List.append_nil] at h1 h2 h3 h4
    have hdl : ((pieceL k p).take c).dropLast = (pieceL k p).take (c - 1) := by
      rw [List.dropLast_eq_take, List.take_take, List.length_take, pieceL_length]; congr 1; omega
    have hd : spoil ((pieceL k p).take c) y = (pieceL k p).take (c - 1) ++ [y] := by unfold spoil; rw [hdl]
    have e6 : (spoil ((pieceL k p).take c) y).take 6 = (pieceL k p).take 6 := by
      rw [hd, List.take_append_of_le_length (by rw [List.length_take, pieceL_length]; omega), List.take_take, Nat.min_eq_left (by omega)]
    have e4 : (spoil ((pieceL k p).take c) y).take 4 = (pieceL k p).take 4 := by
      have := congrArg (List.take 4) e6
      rwa [List.take_take, List.take_take] at this
    unfold pieceAt
    rw [if_neg (by omega), e6, h2]
    by_cases hcl : c < 7 + p.length
    · rw [if_pos (by omega)]
    · have hce : c = 7 + p.length := by omega
      split
      · rfl
      · rw [e4, h1, acc_fix _ 4 4 (Nat.le_refl _), if_neg]
        rw [Nat.mod_eq_of_lt (sumN_lt k p)]
        intro hs
        apply hne
        have hfull : (pieceL k p).take c = pieceL k p := List.take_of_length_le (by rw [pieceL_length]; omega)
        simp only [hfull]
        rcases List.eq_nil_or_concat p with rfl | ⟨q, z, hqz⟩
        · -- no bytes: the kind is another one
          have hc7 : c = 7 := by simpa using hce
          subst hc7
          have hpl : pieceL k [] = fixL (sumN k []) 4 ++ (fixL 0 2 ++ [k]) := rfl
          have hlast : (pieceL k []).getLast? = some k := by simp [hpl]
          rw [hlast]
          have hk6 : (spoil ((pieceL k []).take 7) y).getD 6 0 = y := by
            rw [hd, List.getD_eq_getElem?_getD, List.getElem?_append_right (by rw [List.length_take, pieceL_length]; simp)]
            simp [pieceL_length]
          rw [hk6] at hs
          unfold sumN at hs
          have hs' : maskN (Crc.sum (bv ([] ++ [k]))).toNat = maskN (Crc.sum (bv ([] ++ [y]))).toNat := by simpa using hs
          exact congrArg some (sum_last hk hy hs')
        · rw [List.concat_eq_append] at hqz
          subst hqz
          have hz : z < 256 := hb z (by simp)
          have hcl2 : c = 8 + q.length := by rw [hce]; simp; omega
          have hpl : pieceL k (q ++ [z]) = (fixL (sumN k (q ++ [z])) 4 ++ (fixL (q ++ [z]).length 2 ++ (k :: q))) ++ [z] := by simp [pieceL]
          have hlast : (pieceL k (q ++ [z])).getLast? = some z := by rw [hpl, List.getLast?_concat]
          rw [hlast]
          have hspo : spoil ((pieceL k (q ++ [z])).take c) y = (fixL (sumN k (q ++ [z])) 4 ++ (fixL (q ++ [z]).length 2 ++ (k :: q))) ++ [y] := by
            rw [hfull]
            conv => lhs; rw [hpl]
            unfold spoil; rw [List.dropLast_concat]
          obtain ⟨a, ha⟩ : ∃ a, fixL (sumN k (q ++ [z])) 4 = a := ⟨_, rfl⟩
          have hla : a.length = 4 := by rw [← ha, fixL_length]
          obtain ⟨b, hbb⟩ : ∃ b, fixL (q ++ [z]).length 2 = b := ⟨_, rfl⟩
          have hlb : b.length = 2 := by rw [← hbb, fixL_length]
          rw [ha, hbb] at hspo
          have hg6 : (spoil ((pieceL k (q ++ [z])).take c) y).getD 6 0 = k := by
            rw [hspo]
            match a, hla with
            | [a0, a1, a2, a3], _ =>
              match b, hlb with
              | [b0, b1], _ => rfl
          have hd7 : (spoil ((pieceL k (q ++ [z])).take c) y).drop 7 = q ++ [y] := by
            rw [hspo]
            match a, hla with
            | [a0, a1, a2, a3], _ =>
              match b, hlb with
              | [b0, b1], _ => rfl
          rw [hg6, hd7, List.take_of_length_le (by simp)] at hs
          unfold sumN at hs
          have hs' : maskN (Crc.sum (bv ((k :: q) ++ [z]))).toNat = maskN (Crc.sum (bv ((k :: q) ++ [y]))).toNat := by simpa using hs
          exact congrArg some (sum_last hz hy hs')

theorem room_gap (n : Nat) : room (n + gap n) = room n := by unfold room gap left; split <;> split <;> omega
theorem gap_gap (n : Nat) : gap (n + gap n) = 0 := by unfold gap left; split <;> split <;> omega
theorem room_le (n : Nat) : room n ≤ 121 := by unfold room left; split <;> omega
theorem room_end (n : Nat) : (n + gap n + (7 + room n)) % 128 = 0 := by unfold room gap left; split <;> omega
theorem gap_zero {n : Nat} (h : n % 128 = 0) : gap n = 0 := by unfold gap left; rw [if_neg (by omega)]
theorem room_zero {n : Nat} (h : n % 128 = 0) : room n = 121 := by unfold room left; rw [if_neg (by omega)]; omega
/-- May a piece of that kind come here? -/
def follows (k : Nat) (begun : Bool) : Bool := if k = 1 ∨ k = 2 then !begun else if k = 3 ∨ k = 4 then begun else false
/-- The records that bytes from a place on begin with, and where the last one ends. -/
def scanR (n : Nat) (r : List Nat) (en : Nat) (rec : List Nat) (begun : Bool) : List (List Nat) × Nat :=
  if _h : 7 ≤ (r.drop (gap n)).length then
    match pieceAt (room n) (r.drop (gap n)) with
    | none => ([], en)
    | some (k, p) =>
      if follows k begun = true then
        if k = 2 ∨ k = 3 then scanR (n + gap n + (7 + p.length)) ((r.drop (gap n)).drop (7 + p.length)) en (rec ++ p) true
        else
          ((rec ++ p) :: (scanR (n + gap n + (7 + p.length)) ((r.drop (gap n)).drop (7 + p.length)) (n + gap n + (7 + p.length)) [] false).1,
            (scanR (n + gap n + (7 + p.length)) ((r.drop (gap n)).drop (7 + p.length)) (n + gap n + (7 + p.length)) [] false).2)
      else ([], en)
  else ([], en)
termination_by r.length
decreasing_by all_goals (rw [List.length_drop] at _h; rw [List.length_drop, List.length_drop]; omega)
section
variable {n : Nat} {r : List Nat} {en : Nat} {rec : List Nat} {b : Bool} {k : Nat} {p : List Nat}
theorem scan_none (h : pieceAt (room n) (r.drop (gap n)) = none) : scanR n r en rec b = ([], en) := by
  rw [scanR]; split
  · simp only [h]
  · rfl
theorem scan_bad (h : pieceAt (room n) (r.drop (gap n)) = some (k, p)) (hf : follows k b = false) : scanR n r en rec b = ([], en) := by
  rw [scanR]; split
  · simp only [h, hf]; rfl
  · rfl
theorem scan_more (h : pieceAt (room n) (r.drop (gap n)) = some (k, p)) (hf : follows k b = true) (hk : k = 2 ∨ k = 3) :
    scanR n r en rec b = scanR (n + gap n + (7 + p.length)) ((r.drop (gap n)).drop (7 + p.length)) en (rec ++ p) true := by
  have hl := (pieceAt_len h).1
  rw [scanR]; rw [dif_pos (by omega)]; simp only [h, hf, if_true, if_pos hk]
theorem scan_last (h : pieceAt (room n) (r.drop (gap n)) = some (k, p)) (hf : follows k b = true) (hk : ¬ (k = 2 ∨ k = 3)) :
    scanR n r en rec b = ((rec ++ p) :: (scanR (n + gap n + (7 + p.length)) ((r.drop (gap n)).drop (7 + p.length)) (n + gap n + (7 + p.length)) [] false).1,
            (scanR (n + gap n + (7 + p.length)) ((r.drop (gap n)).drop (7 + p.length)) (n + gap n + (7 + p.length)) [] false).2) := by
  have hl := (pieceAt_len h).1
  rw [scanR]; rw [dif_pos (by omega)]; simp only [h, hf, if_true, if_neg hk]
theorem scan_nil : scanR n [] en rec b = ([], en) := scan_none (by rw [List.drop_nil]; exact pieceAt_short (by simp))
end
/-- The pieces behind the first. -/
def tailP (rec : List Nat) : List Nat := if _h : 121 < rec.length then pieceL 3 (rec.take 121) ++ tailP (rec.drop 121) else pieceL 4 rec
termination_by rec.length
decreasing_by rw [List.length_drop]; omega
theorem tailP_more {rec : List Nat} (h : 121 < rec.length) : tailP rec = pieceL 3 (rec.take 121) ++ tailP (rec.drop 121) := by rw [tailP, dif_pos h]
theorem tailP_last {rec : List Nat} (h : ¬ 121 < rec.length) : tailP rec = pieceL 4 rec := by rw [tailP, dif_neg h]
def bodyL (rm : Nat) (rec : List Nat) : List Nat := if rm < rec.length then pieceL 2 (rec.take rm) ++ tailP (rec.drop rm) else pieceL 1 rec
/-- What is written at a place. -/
def frameL (n : Nat) (rec : List Nat) : List Nat := List.replicate (gap n) 0 ++ bodyL (room n) rec
theorem tail_ind {motive : List Nat → Prop} (base : ∀ r : List Nat, ¬ 121 < r.length → motive r) (step : ∀ r : List Nat, 121 < r.length → motive (r.drop 121) → motive r) : ∀ r, motive r := by
  intro r
  by_cases h : 121 < r.length
  · exact step r h (tail_ind base step (r.drop 121))
  · exact base r h
termination_by r => r.length
decreasing_by rw [List.length_drop]; omega
theorem tailP_byte : ∀ rec : List Nat, (∀ x ∈ rec, x < 256) → ∀ x ∈ tailP rec, x < 256 := by
  refine tail_ind (fun r h hb => ?_) (fun r h ih hb => ?_)
  · rw [tailP_last h]; exact pieceL_byte (by omega) hb
  · rw [tailP_more h]
    intro x hx
    rcases List.mem_append.1 hx with h1 | h1
    · exact pieceL_byte (by omega) (fun y hy => hb y (List.mem_of_mem_take hy)) x h1
    · exact ih (fun y hy => hb y (List.mem_of_mem_drop hy)) x h1
theorem frameL_byte {n : Nat} {rec : List Nat} (hb : ∀ x ∈ rec, x < 256) : ∀ x ∈ frameL n rec, x < 256 := by
  intro x hx
  unfold frameL bodyL at hx
  rcases List.mem_append.1 hx with h | h
  · rw [(List.mem_replicate.1 h).2]; omega
  · split at h
    · rcases List.mem_append.1 h with h1 | h1
      · exact pieceL_byte (by omega) (fun y hy => hb y (List.mem_of_mem_take hy)) x h1
      · exact tailP_byte _ (fun y hy => hb y (List.mem_of_mem_drop hy)) x h1
    · exact pieceL_byte (by omega) hb x h
theorem tailP_pos (rec : List Nat) : 7 ≤ (tailP rec).length := by
  by_cases h : 121 < rec.length
  · rw [tailP_more h, List.length_append, pieceL_length]; omega
  · rw [tailP_last h, pieceL_length]; omega
theorem frameL_pos (n : Nat) (rec : List Nat) : 7 ≤ (frameL n rec).length := by
  unfold frameL bodyL
  split
  · rw [List.length_append, List.length_append, pieceL_length]; omega
  · rw [List.length_append, pieceL_length]; omega
theorem tailP_len : ∀ rec : List Nat, (tailP rec).length ≤ rec.length + 7 * (rec.length / 121 + 1) := by
  refine tail_ind (fun r h => ?_) (fun r h ih => ?_)
  · rw [tailP_last h, pieceL_length]; omega
  · rw [tailP_more h, List.length_append, pieceL_length, List.length_take]
    rw [List.length_drop] at ih; omega
theorem frameL_len (n : Nat) (rec : List Nat) : (frameL n rec).length ≤ 2 * rec.length + 28 := by
  have hg : gap n ≤ 6 := by unfold gap; split <;> omega
  have hr := room_le n
  have ht := tailP_len (rec.drop (room n))
  rw [List.length_drop] at ht
  unfold frameL bodyL
  split
  · rw [List.length_append, List.length_append, pieceL_length, List.length_take, List.length_replicate]; omega
  · rw [List.length_append, pieceL_length, List.length_replicate]; omega
theorem scan_tail : ∀ (rec : List Nat), ∀ (n : Nat) (x : List Nat) (en : Nat) (acc : List Nat), n % 128 = 0 →
    scanR n (tailP rec ++ x) en acc true = ((acc ++ rec) :: (scanR (n + (tailP rec).length) x (n + (tailP rec).length) [] false).1, (scanR (n + (tailP rec).length) x (n + (tailP rec).length) [] false).2) := by
  refine tail_ind (fun r h => ?_) (fun r h ih => ?_)
  · intro n x en acc hn
    rw [tailP_last h]
    have hp : pieceAt (room n) ((pieceL 4 r ++ x).drop (gap n)) = some (4, r) := by
      rw [gap_zero hn, room_zero hn, List.drop_zero]; exact pieceAt_piece 121 4 r x (by omega) (by omega)
    rw [scan_last hp rfl (by omega), gap_zero hn, List.drop_zero, List.drop_left' (by rw [pieceL_length]), pieceL_length]
    rfl
  · intro n x en acc hn
    rw [tailP_more h]
    have hl : (r.take 121).length = 121 := by rw [List.length_take]; omega
    have hp : pieceAt (room n) ((pieceL 3 (r.take 121) ++ tailP (r.drop 121) ++ x).drop (gap n)) = some (3, r.take 121) := by
      rw [gap_zero hn, room_zero hn, List.drop_zero, List.append_assoc]; exact pieceAt_piece 121 3 _ _ (by omega) (by omega)
    rw [scan_more hp rfl (by omega), gap_zero hn, List.drop_zero, List.append_assoc, List.drop_left' (by rw [pieceL_length]), hl, ih _ _ _ _ (by omega), List.append_assoc, List.take_append_drop, List.length_append, pieceL_length, hl]
    rw [show n + 0 + (7 + 121) + (tailP (r.drop 121)).length = n + (7 + 121 + (tailP (r.drop 121)).length) by omega]
theorem drop_gap (n : Nat) (l : List Nat) : (List.replicate (gap n) 0 ++ l).drop (gap n) = l := List.drop_left' (by simp)
theorem scan_frame (n : Nat) (rec x : List Nat) (en : Nat) :
    scanR n (frameL n rec ++ x) en [] false = (rec :: (scanR (n + (frameL n rec).length) x (n + (frameL n rec).length) [] false).1, (scanR (n + (frameL n rec).length) x (n + (frameL n rec).length) [] false).2) := by
  have hr := room_le n
  have e0 : (frameL n rec ++ x).drop (gap n) = bodyL (room n) rec ++ x := by unfold frameL; rw [List.append_assoc]; exact drop_gap n _
  have eL : (frameL n rec).length = gap n + (bodyL (room n) rec).length := by unfold frameL; rw [List.length_append, List.length_replicate]
  rw [eL]
  by_cases h : room n < rec.length
  · have eb : bodyL (room n) rec = pieceL 2 (rec.take (room n)) ++ tailP (rec.drop (room n)) := by unfold bodyL; rw [if_pos h]
    have hl : (rec.take (room n)).length = room n := by rw [List.length_take]; omega
    have hp : pieceAt (room n) ((frameL n rec ++ x).drop (gap n)) = some (2, rec.take (room n)) := by
      rw [e0, eb, List.append_assoc]; exact pieceAt_piece _ 2 _ _ (by omega) (by omega)
    rw [scan_more hp rfl (by omega), e0, eb, List.append_assoc, List.drop_left' (by rw [pieceL_length]), hl, scan_tail _ _ _ _ _ (room_end n), List.nil_append, List.take_append_drop, List.length_append, pieceL_length, hl]
    rw [show n + gap n + (7 + room n) + (tailP (rec.drop (room n))).length = n + (gap n + (7 + room n + (tailP (rec.drop (room n))).length)) by omega]
  · have eb : bodyL (room n) rec = pieceL 1 rec := by unfold bodyL; rw [if_neg h]
    have hp : pieceAt (room n) ((frameL n rec ++ x).drop (gap n)) = some (1, rec) := by
      rw [e0, eb]; exact pieceAt_piece _ 1 _ _ (by omega) (by omega)
    rw [scan_last hp rfl (by omega), e0, eb, List.drop_left' (by rw [pieceL_length]), pieceL_length, List.nil_append, Nat.add_assoc]
/-- Cut within. -/
theorem scan_cut_tail : ∀ (rec : List Nat), ∀ (n c en : Nat) (acc : List Nat), n % 128 = 0 → c < (tailP rec).length → scanR n ((tailP rec).take c) en acc true = ([], en) := by
  refine tail_ind (fun r h => ?_) (fun r h ih => ?_)
  · intro n c en acc hn hc
    rw [tailP_last h] at hc ⊢
    rw [pieceL_length] at hc
    exact scan_none (by rw [gap_zero hn, List.drop_zero]; exact pieceAt_cut _ 4 r (by omega) c hc)
  · intro n c en acc hn hc
    rw [tailP_more h] at hc ⊢
    have hl : (r.take 121).length = 121 := by rw [List.length_take]; omega
    rw [List.length_append, pieceL_length, hl] at hc
    by_cases h1 : c < 7 + 121
    · rw [List.take_append_of_le_length (by rw [pieceL_length, hl]; omega)]
      exact scan_none (by rw [gap_zero hn, List.drop_zero]; exact pieceAt_cut _ 3 _ (by omega) c (by omega))
    · rw [List.take_append, List.take_of_length_le (by rw [pieceL_length, hl]; omega), pieceL_length, hl]
      have hp : pieceAt (room n) ((pieceL 3 (r.take 121) ++ (tailP (r.drop 121)).take (c - (7 + 121))).drop (gap n)) = some (3, r.take 121) := by
        rw [gap_zero hn, room_zero hn, List.drop_zero]; exact pieceAt_piece 121 3 _ _ (by omega) (by omega)
      rw [scan_more hp rfl (by omega), gap_zero hn, List.drop_zero, List.drop_left' (by rw [pieceL_length]), hl]
      exact ih _ _ _ _ (by omega) (by omega)
theorem scan_cut (n : Nat) (rec : List Nat) (c en : Nat) (hc : c < (frameL n rec).length) : scanR n ((frameL n rec).take c) en [] false = ([], en) := by
  have hr := room_le n
  have eL : (frameL n rec).length = gap n + (bodyL (room n) rec).length := by unfold frameL; rw [List.length_append, List.length_replicate]
  have e0 : ((frameL n rec).take c).drop (gap n) = (bodyL (room n) rec).take (c - gap n) := by
    rw [List.drop_take]; unfold frameL; rw [drop_gap]
  rw [eL] at hc
  by_cases h : room n < rec.length
  · have eb : bodyL (room n) rec = pieceL 2 (rec.take (room n)) ++ tailP (rec.drop (room n)) := by unfold bodyL; rw [if_pos h]
    have hl : (rec.take (room n)).length = room n := by rw [List.length_take]; omega
    rw [eb, List.length_append, pieceL_length, hl] at hc
    by_cases h1 : c - gap n < 7 + room n
    · refine scan_none ?_
      rw [e0, eb, List.take_append_of_le_length (by rw [pieceL_length, hl]; omega)]
      exact pieceAt_cut _ 2 _ (by omega) _ (by omega)
    · have e1 : ((frameL n rec).take c).drop (gap n) = pieceL 2 (rec.take (room n)) ++ (tailP (rec.drop (room n))).take (c - gap n - (7 + room n)) := by
        rw [e0, eb, List.take_append, List.take_of_length_le (by rw [pieceL_length, hl]; omega), pieceL_length, hl]
      have hp : pieceAt (room n) (((frameL n rec).take c).drop (gap n)) = some (2, rec.take (room n)) := by
        rw [e1]; exact pieceAt_piece _ 2 _ _ (by omega) (by omega)
      rw [scan_more hp rfl (by omega), e1, List.drop_left' (by rw [pieceL_length]), hl]
      exact scan_cut_tail _ _ _ _ _ (room_end n) (by omega)
  · have eb : bodyL (room n) rec = pieceL 1 rec := by unfold bodyL; rw [if_neg h]
    rw [eb, pieceL_length] at hc
    refine scan_none ?_
    rw [e0, eb]
    by_cases h1 : c - gap n < 7 + rec.length
    · exact pieceAt_cut _ 1 _ (by omega) _ h1
    · omega
theorem spoil_drop {l : List Nat} {g y : Nat} (h : g < l.length) : (spoil l y).drop g = spoil (l.drop g) y := by
  have e : l = l.take g ++ l.drop g := (List.take_append_drop g l).symm
  have hne : l.drop g ≠ [] := by rw [← List.length_pos_iff, List.length_drop]; omega
  conv => lhs; rw [e]
  rw [spoil_app _ hne, List.drop_left' (by rw [List.length_take]; omega)]
theorem last_drop {l : List Nat} {g : Nat} (h : g < l.length) : (l.drop g).getLast? = l.getLast? := by
  have hne : l.drop g ≠ [] := by rw [← List.length_pos_iff, List.length_drop]; omega
  conv => rhs; rw [← List.take_append_drop g l, List.getLast?_append]
  rw [List.getLast?_eq_some_getLast hne]; rfl
/-- Cut within, its last byte another one. -/
theorem scan_spoil_tail : ∀ (rec : List Nat), (∀ x ∈ rec, x < 256) → ∀ (n c en y : Nat) (acc : List Nat), n % 128 = 0 → 0 < c → c ≤ (tailP rec).length → y < 256 → ((tailP rec).take c).getLast? ≠ some y →
    scanR n (spoil ((tailP rec).take c) y) en acc true = ([], en) := by
  refine tail_ind (fun r h hb => ?_) (fun r h ih hb => ?_)
  · intro n c en y acc hn h0 hc hy hne
    rw [tailP_last h] at hc hne ⊢
    rw [pieceL_length] at hc
    exact scan_none (by rw [gap_zero hn, List.drop_zero]; exact pieceAt_spoil _ 4 r (by omega) hb (by omega) c h0 hc y hy hne)
  · intro n c en y acc hn h0 hc hy hne
    rw [tailP_more h] at hc hne ⊢
    have hl : (r.take 121).length = 121 := by rw [List.length_take]; omega
    rw [List.length_append, pieceL_length, hl] at hc
    by_cases h1 : c ≤ 7 + 121
    · rw [List.take_append_of_le_length (by rw [pieceL_length, hl]; omega)] at hne ⊢
      exact scan_none (by rw [gap_zero hn, List.drop_zero]; exact pieceAt_spoil _ 3 _ (by omega) (fun x hx => hb x (List.mem_of_mem_take hx)) (by omega) c h0 (by omega) y hy hne)
    · have hpos : 0 < (tailP (r.drop 121)).length := by have := tailP_pos (r.drop 121); omega
      have hnn : (tailP (r.drop 121)).take (c - (7 + 121)) ≠ [] := by rw [← List.length_pos_iff, List.length_take]; omega
      rw [List.take_append, List.take_of_length_le (show (pieceL 3 (r.take 121)).length ≤ c by rw [pieceL_length, hl]; omega), pieceL_length, hl] at hne ⊢
      rw [spoil_app _ hnn]
      have hp : pieceAt (room n) ((pieceL 3 (r.take 121) ++ spoil ((tailP (r.drop 121)).take (c - (7 + 121))) y).drop (gap n)) = some (3, r.take 121) := by
        rw [gap_zero hn, room_zero hn, List.drop_zero]; exact pieceAt_piece 121 3 _ _ (by omega) (by omega)
      rw [scan_more hp rfl (by omega), gap_zero hn, List.drop_zero, List.drop_left' (by rw [pieceL_length]), hl]
      refine ih (fun x hx => hb x (List.mem_of_mem_drop hx)) _ _ _ _ _ (by omega) (by omega) (by omega) hy ?_
      rw [List.getLast?_append, List.getLast?_eq_some_getLast hnn] at hne
      rw [List.getLast?_eq_some_getLast hnn]; exact hne
theorem scan_spoil (n : Nat) (rec : List Nat) (hb : ∀ x ∈ rec, x < 256) (c en y : Nat) (h0 : 0 < c) (hc : c ≤ (frameL n rec).length) (hy : y < 256) (hne : ((frameL n rec).take c).getLast? ≠ some y) :
    scanR n (spoil ((frameL n rec).take c) y) en [] false = ([], en) := by
  have hr := room_le n
  have eL : (frameL n rec).length = gap n + (bodyL (room n) rec).length := by unfold frameL; rw [List.length_append, List.length_replicate]
  have e0 : ((frameL n rec).take c).drop (gap n) = (bodyL (room n) rec).take (c - gap n) := by
    rw [List.drop_take]; unfold frameL; rw [drop_gap]
  have hlt : ((frameL n rec).take c).length = c := by rw [List.length_take]; omega
  have hnil : (frameL n rec).take c ≠ [] := by rw [← List.length_pos_iff]; omega
  rw [eL] at hc
  by_cases hg : c ≤ gap n
  · exact scan_none (pieceAt_short (by rw [List.length_drop, spoil_length y hnil]; omega))
  · have e1 : (spoil ((frameL n rec).take c) y).drop (gap n) = spoil ((bodyL (room n) rec).take (c - gap n)) y := by
      rw [spoil_drop (by omega), e0]
    have hne1 : ((bodyL (room n) rec).take (c - gap n)).getLast? ≠ some y := by rw [← e0, last_drop (by omega)]; exact hne
    by_cases h : room n < rec.length
    · have eb : bodyL (room n) rec = pieceL 2 (rec.take (room n)) ++ tailP (rec.drop (room n)) := by unfold bodyL; rw [if_pos h]
      have hl : (rec.take (room n)).length = room n := by rw [List.length_take]; omega
      rw [eb] at hc hne1 e1
      rw [List.length_append, pieceL_length, hl] at hc
      by_cases h1 : c - gap n ≤ 7 + room n
      · rw [List.take_append_of_le_length (by rw [pieceL_length, hl]; omega)] at hne1 e1
        refine scan_none ?_
        rw [e1]
        exact pieceAt_spoil _ 2 _ (by omega) (fun x hx => hb x (List.mem_of_mem_take hx)) (by omega) _ (by omega) (by omega) y hy hne1
      · have hpos : 0 < (tailP (rec.drop (room n))).length := by have := tailP_pos (rec.drop (room n)); omega
        have hnn : (tailP (rec.drop (room n))).take (c - gap n - (7 + room n)) ≠ [] := by rw [← List.length_pos_iff, List.length_take]; omega
        rw [List.take_append, List.take_of_length_le (show (pieceL 2 (rec.take (room n))).length ≤ c - gap n by rw [pieceL_length, hl]; omega), pieceL_length, hl] at hne1 e1
        rw [spoil_app _ hnn] at e1
        have hp : pieceAt (room n) ((spoil ((frameL n rec).take c) y).drop (gap n)) = some (2, rec.take (room n)) := by
          rw [e1]; exact pieceAt_piece _ 2 _ _ (by omega) (by omega)
        rw [scan_more hp rfl (by omega), e1, List.drop_left' (by rw [pieceL_length]), hl]
        refine scan_spoil_tail _ (fun x hx => hb x (List.mem_of_mem_drop hx)) _ _ _ _ _ (room_end n) (by omega) (by omega) hy ?_
        rw [List.getLast?_append, List.getLast?_eq_some_getLast hnn] at hne1
        rw [List.getLast?_eq_some_getLast hnn]; exact hne1
    · have eb : bodyL (room n) rec = pieceL 1 rec := by unfold bodyL; rw [if_neg h]
      rw [eb] at hc hne1 e1
      rw [pieceL_length] at hc
      refine scan_none ?_
      rw [e1]
      exact pieceAt_spoil _ 1 _ (by omega) hb (by omega) _ (by omega) (by omega) y hy hne1
/-- Records one behind the other. -/
def layL : Nat → List (List Nat) → List Nat
  | _, [] => []
  | n, r :: rs => frameL n r ++ layL (n + (frameL n r).length) rs
theorem layL_snoc (r : List Nat) : ∀ (n : Nat) (rs : List (List Nat)), layL n (rs ++ [r]) = layL n rs ++ frameL (n + (layL n rs).length) r
  | n, [] => by simp [layL]
  | n, q :: rs => by
    show frameL n q ++ layL (n + (frameL n q).length) (rs ++ [r]) = (frameL n q ++ layL (n + (frameL n q).length) rs) ++ _
    have e : (layL n (q :: rs)).length = (frameL n q).length + (layL (n + (frameL n q).length) rs).length := by show (frameL n q ++ _).length = _; rw [List.length_append]
    rw [layL_snoc r _ rs, List.append_assoc, e, Nat.add_assoc]
theorem layL_byte : ∀ (n : Nat) (rs : List (List Nat)), (∀ r ∈ rs, ∀ x ∈ r, x < 256) → ∀ x ∈ layL n rs, x < 256
  | _, [], _ => by intro x hx; cases hx
  | n, r :: rs, h => by
    intro x hx
    rcases List.mem_append.1 hx with h1 | h1
    · exact frameL_byte (h r (by simp)) x h1
    · exact layL_byte _ rs (fun q hq => h q (by simp [hq])) x h1
theorem scan_lay (x : List Nat) : ∀ (n : Nat) (rs : List (List Nat)),
    scanR n (layL n rs ++ x) n [] false = (rs ++ (scanR (n + (layL n rs).length) x (n + (layL n rs).length) [] false).1, (scanR (n + (layL n rs).length) x (n + (layL n rs).length) [] false).2)
  | n, [] => rfl
  | n, r :: rs => by
    have e : layL n (r :: rs) = frameL n r ++ layL (n + (frameL n r).length) rs := rfl
    rw [e, List.append_assoc, scan_frame, scan_lay x _ rs, List.length_append, Nat.add_assoc]
    rfl
end Frm
end Go.Proofs.Ythpcgdgahlcblaa
