/-
  What Decode tells of bytes, plainly: it is what Encode would make of its answer.
-/
import Derived.Test.YthpcgdgahlcblaaBatD6
namespace Go.Proofs.Ythpcgdgahlcblaa
open Go.RowKit

namespace VA
theorem getF_inv (l : List Nat) (i acc N K : Nat) (hb : ∀ x ∈ l, x < 256) (h : getF i acc l = (N, K, 0)) :
    ∃ m, N = acc + m * 2 ^ (7 * i) ∧ i < K ∧ K ≤ i + l.length ∧ putL m = l.take (K - i) ∧ (0 < i → 0 < m) := by
  induction l generalizing i acc with
  | nil => simp [getF] at h
  | cons c l ih =>
    have hc := hb c List.mem_cons_self
    unfold getF at h
    by_cases h1 : 10 ≤ i
    · rw [if_pos h1] at h; simp at h
    · rw [if_neg h1] at h
      by_cases h2 : i = 9 ∧ 1 < c
      · rw [if_pos h2] at h; simp at h
      · rw [if_neg h2] at h
        by_cases h3 : 128 ≤ c
        · rw [if_pos h3] at h
          obtain ⟨m, hN, hK1, hK2, hp, hm⟩ := ih (i + 1) _ (fun x hx => hb x (List.mem_cons_of_mem _ hx)) h
          have hm0 := hm (by omega)
          have e : 2 ^ (7 * (i + 1)) = 128 * 2 ^ (7 * i) := by rw [Nat.mul_add, Nat.pow_add, Nat.mul_comm]
          refine ⟨c % 128 + 128 * m, ?_, by omega, by simp; omega, ?_, fun _ => by omega⟩
          · rw [hN, e, Nat.add_mul, Nat.mul_comm 128 m, Nat.mul_assoc]; omega
          · rw [putL_ge (by omega), show (c % 128 + 128 * m) % 128 + 128 = c by omega, show (c % 128 + 128 * m) / 128 = m by omega, hp, show K - i = K - (i + 1) + 1 by omega, List.take_succ_cons]
        · rw [if_neg h3] at h
          by_cases h4 : c = 0 ∧ 0 < i
          · rw [if_pos h4] at h; simp at h
          · rw [if_neg h4] at h
            simp only [Prod.mk.injEq, and_true] at h
            obtain ⟨hN, hK⟩ := h
            refine ⟨c, by rw [← hN, Nat.mod_eq_of_lt (by omega)], by omega, by simp; omega, ?_, fun hi => by omega⟩
            rw [putL_lt (by omega), ← hK, show i + 1 - i = 0 + 1 by omega, List.take_succ_cons, List.take_zero]
theorem get_inv (l : List Nat) (n k : Nat) (hb : ∀ x ∈ l, x < 256) (h : getS l = (n, k, 0)) : k ≤ l.length ∧ putL n = l.take k := by
  obtain ⟨m, hN, _, hK, hp, _⟩ := getF_inv l 0 0 n k hb h
  simp at hN hK hp
  subst hN
  exact ⟨hK, hp⟩
end VA
theorem natsOf_strOf' {l : List Nat} (h : ∀ x ∈ l, x < 256) : natsOf (strOf l) = l := by
  unfold natsOf strOf
  simp only [List.map_map]
  conv => rhs; rw [← List.map_id l]
  apply List.map_congr_left
  intro x hx
  simp [Nat.mod_eq_of_lt (h x hx)]
theorem cutS_inv {l : List Nat} {most : Nat} (hb : ∀ x ∈ l, x < 256) (h : (cutS l most).2.2 = true) : l = textL (cutS l most).1 ++ l.drop (cutS l most).2.1 ∧ (cutS l most).2.1 = (textL (cutS l most).1).length := by
  unfold cutS at h ⊢
  split at h
  · cases h
  · rename_i hc
    rw [if_neg hc]
    obtain ⟨n, k, e, hg⟩ : ∃ n k e, VA.getS l = (n, k, e) := ⟨_, _, _, rfl⟩
    rw [hg] at hc ⊢
    dsimp only at hc ⊢
    obtain rfl : e = 0 := by
      rcases Nat.eq_zero_or_pos e with h | h
      · exact h
      · exact absurd (.inl (by omega)) hc
    obtain ⟨hk, hp⟩ := VA.get_inv l n k hb hg
    have hln : n ≤ l.length - k := by
      rcases Nat.lt_or_ge (l.length - k) n with h | h
      · exact absurd (.inr (.inr h)) hc
      · exact h
    have hlen : ((l.take (k + n)).drop k).length = n := by rw [List.length_drop, List.length_take]; omega
    have hbt : ∀ x ∈ (l.take (k + n)).drop k, x < 256 := fun x hx => hb x (List.mem_of_mem_take (List.mem_of_mem_drop hx))
    have hsz : (strOf ((l.take (k + n)).drop k)).size = n := by rw [strOf_size, hlen]
    have ht : textL (strOf ((l.take (k + n)).drop k)) = l.take (k + n) := by
      unfold textL
      rw [hsz, natsOf_strOf' hbt, hp]
      have : l.take k = (l.take (k + n)).take k := by rw [List.take_take, Nat.min_eq_left (by omega)]
      rw [this, List.take_append_drop]
    rw [ht]
    refine ⟨(List.take_append_drop _ _).symm, ?_⟩
    rw [List.length_take]; omega
theorem cutOpS_inv {l : List Nat} (hb : ∀ x ∈ l, x < 256) (h : (cutOpS l).2.2 = true) : l = opL (cutOpS l).1 ++ l.drop (cutOpS l).2.1 := by
  cases l with
  | nil => cases h
  | cons k r =>
    have hbr : ∀ x ∈ r, x < 256 := fun x hx => hb x (List.mem_cons_of_mem _ hx)
    have hk := hb k List.mem_cons_self
    unfold cutOpS at h ⊢
    dsimp only at h ⊢
    by_cases hc : (cutS r 64).2.2 = true ∧ k = 1
    · rw [if_pos hc] at h ⊢
      obtain ⟨h1, rfl⟩ := hc
      dsimp only at h ⊢
      obtain ⟨e1, e2⟩ := cutS_inv hbr h1
      obtain ⟨e3, e4⟩ := cutS_inv (fun x hx => hbr x (List.mem_of_mem_drop hx)) h
      show 1 :: r = (1 :: (textL _ ++ if (1 : Int) = 1 then textL _ else [])) ++ _
      rw [if_pos rfl, List.cons_append, List.append_assoc, show 1 + (cutS r 64).2.1 + (cutS (r.drop (cutS r 64).2.1) 1000).2.1 = ((cutS r 64).2.1 + (cutS (r.drop (cutS r 64).2.1) 1000).2.1) + 1 by omega, List.drop_succ_cons, ← List.drop_drop, ← e3, ← e1]
    · rw [if_neg hc] at h ⊢
      dsimp only at h ⊢
      obtain ⟨e1, e2⟩ := cutS_inv hbr h
      have hk1 : ¬ (k : Int) = 1 := fun e => hc ⟨h, by omega⟩
      show k :: r = (((k : Int) % 256).toNat :: (textL _ ++ if (k : Int) = 1 then textL _ else [])) ++ _
      rw [if_neg hk1, List.append_nil, List.cons_append, show ((k : Int) % 256).toNat = k by omega, show 1 + (cutS r 64).2.1 = (cutS r 64).2.1 + 1 by omega, List.drop_succ_cons, ← e1]
theorem cutOpsF_inv (c : Nat) : ∀ (l : List Nat) (L : List OpV) (rest : List Nat), (∀ x ∈ l, x < 256) → cutOpsF c l = some (L, rest) → l = opsL L ++ rest ∧ L.length = c := by
  induction c with
  | zero =>
    intro l L rest _ h
    unfold cutOpsF at h
    simp only [Option.some.injEq, Prod.mk.injEq] at h
    obtain ⟨rfl, rfl⟩ := h
    exact ⟨rfl, rfl⟩
  | succ c ih =>
    intro l L rest hb h
    unfold cutOpsF at h
    split at h
    · rename_i h1
      cases hr : cutOpsF c (l.drop (cutOpS l).2.1) with
      | none => rw [hr] at h; cases h
      | some p =>
        obtain ⟨L', r'⟩ := p
        rw [hr] at h
        simp only [Option.map_some, Option.some.injEq, Prod.mk.injEq] at h
        obtain ⟨rfl, rfl⟩ := h
        obtain ⟨e1, e2⟩ := ih _ L' r' (fun x hx => hb x (List.mem_of_mem_drop hx)) hr
        refine ⟨?_, by simp [e2]⟩
        have := cutOpS_inv hb h1
        conv => lhs; rw [this, e1]
        unfold opsL
        rw [List.flatMap_cons, List.append_assoc]
    · cases h
/-- The changes whose bytes these are, if they are so many and nothing is behind them. -/
def cutAll (c : Nat) (l : List Nat) : Option (List OpV) :=
  if 200 < c then none else match cutOpsF c l with
  | some (L, []) => some L
  | _ => none
theorem cutAll_inv {c : Nat} {l : List Nat} {L : List OpV} (hb : ∀ x ∈ l, x < 256) (h : cutAll c l = some L) : l = opsL L ∧ L.length = c ∧ c ≤ 200 := by
  unfold cutAll at h
  split at h
  · cases h
  · rename_i h2
    split at h
    · rename_i L' hL
      simp only [Option.some.injEq] at h
      subst h
      obtain ⟨e1, e2⟩ := cutOpsF_inv c l _ _ hb hL
      exact ⟨by rw [e1]; simp, e2, by omega⟩
    · cases h
theorem cutOpsF_len (c : Nat) : ∀ (l : List Nat) (L : List OpV) (rest : List Nat), cutOpsF c l = some (L, rest) → L.length = c := by
  induction c with
  | zero =>
    intro l L rest h
    unfold cutOpsF at h
    simp only [Option.some.injEq, Prod.mk.injEq] at h
    obtain ⟨rfl, rfl⟩ := h
    rfl
  | succ c ih =>
    intro l L rest h
    unfold cutOpsF at h
    split at h
    · cases hr : cutOpsF c (l.drop (cutOpS l).2.1) with
      | none => rw [hr] at h; cases h
      | some p =>
        obtain ⟨L', r'⟩ := p
        rw [hr] at h
        simp only [Option.map_some, Option.some.injEq, Prod.mk.injEq] at h
        obtain ⟨rfl, rfl⟩ := h
        simp [ih _ L' r' hr]
    · cases h
theorem cutAll_inv' {c : Nat} {l : List Nat} {L : List OpV} (h : cutAll c l = some L) : L.length ≤ 200 := by
  unfold cutAll at h
  split at h
  · cases h
  · split at h
    · rename_i hL
      simp only [Option.some.injEq] at h
      subst h
      have := cutOpsF_len c l _ _ hL
      omega
    · cases h
/-- A number of 64 bits as a signed one. -/
def sgn (n : Nat) : Int := if n < 9223372036854775808 then (n : Int) else (n : Int) - 18446744073709551616
theorem sgn_in (n : Nat) (h : n < 18446744073709551616) : -9223372036854775808 ≤ sgn n ∧ sgn n ≤ 9223372036854775807 := by unfold sgn; split <;> omega
def numOf8 (l : List Nat) : Nat := VA.acc8 (l.take 8) 8
def cntOf4 (l : List Nat) : Nat := VA.acc8 ((l.drop 8).take 4) 4
/-- What Decode tells. -/
def decO (l : List Nat) : Option (Int × List OpV) :=
  if l.length < 12 then none else match cutAll (cntOf4 l) (l.drop 12) with
  | none => none
  | some L => if chkI (sgn (numOf8 l)) L = 0 then some (sgn (numOf8 l), L) else none
theorem fixL_eq (n s : Nat) : fixL n s = VA.fixL n s := rfl
theorem decO_inv {l : List Nat} {n : Int} {L : List OpV} (hb : ∀ x ∈ l, x < 256) (h : decO l = some (n, L)) : chkI n L = 0 ∧ encR n L = l := by
  unfold decO at h
  split at h
  · cases h
  · rename_i h12
    split at h
    · cases h
    · rename_i L' hL
      split at h
      · rename_i hc
        simp only [Option.some.injEq, Prod.mk.injEq] at h
        obtain ⟨rfl, rfl⟩ := h
        obtain ⟨e1, e2, e3⟩ := cutAll_inv (fun x hx => hb x (List.mem_of_mem_drop hx)) hL
        refine ⟨hc, ?_⟩
        obtain ⟨_, _, z3, z4, _⟩ := chk_zero hc
        have hs : sgn (numOf8 l) = (numOf8 l : Int) := by
          unfold sgn at z3 z4 ⊢
          split
          · rfl
          · rename_i hn
            rw [if_neg hn] at z3
            have := VA.acc8_lt (l.take 8) (fun x hx => hb x (List.mem_of_mem_take hx)) 8
            unfold numOf8 at z3 hn
            omega
        unfold encR
        rw [if_pos hc, hs, Int.toNat_natCast]
        unfold encL
        rw [e2, ← e1]
        have h8 : (l.take 8).length = 8 := by rw [List.length_take]; omega
        have h4 : ((l.drop 8).take 4).length = 4 := by rw [List.length_take, List.length_drop]; omega
        have f8 := VA.fix_acc (l.take 8) (fun x hx => hb x (List.mem_of_mem_take hx))
        have f4 := VA.fix_acc ((l.drop 8).take 4) (fun x hx => hb x (List.mem_of_mem_drop (List.mem_of_mem_take hx)))
        rw [h8] at f8
        rw [h4] at f4
        rw [fixL_eq, fixL_eq]
        unfold numOf8 cntOf4
        rw [f8, f4, show l.drop 12 = (l.drop 8).drop 4 by rw [List.drop_drop], List.append_assoc, List.take_append_drop, List.take_append_drop]
      · cases h
theorem formB_false {o : OpV} (h : formB o = false) : o.kind = 1 ∨ (o.kind = 0 ∧ o.val = ⟨#[]⟩) := by
  unfold formB at h
  by_cases k1 : o.kind = 1
  · exact .inl k1
  · rw [if_neg k1] at h
    by_cases k0 : o.kind = 0
    · rw [if_pos k0] at h
      refine .inr ⟨k0, ?_⟩
      simp at h
      exact h.2
    · rw [if_neg k0] at h; cases h
theorem chk_ops {seq : Int} {l : List OpV} (h : chkI seq l = 0) : ∀ o ∈ l, o.key.size ≤ 64 ∧ o.val.size ≤ 1000 ∧ (o.kind = 1 ∨ (o.kind = 0 ∧ o.val = ⟨#[]⟩)) := by
  intro o ho
  unfold chkI at h
  split at h
  · cases h
  · rename_i h1
    split at h
    · cases h
    · rename_i h2
      have hb : l.any bigB = false := by simpa using fun e => h1 (.inr e)
      have hf : l.any formB = false := by simpa using fun e => h2 (.inr e)
      have b1 := List.any_eq_false.1 hb _ ho
      have b2 := List.any_eq_false.1 hf _ ho
      unfold bigB at b1
      simp at b1
      exact ⟨by omega, by omega, formB_false (by simpa using b2)⟩
theorem sgn_nat {n : Nat} (h : n < 9223372036854775808) : sgn n = n := by unfold sgn; rw [if_pos h]
theorem encR_len {seq : Int} {l : List OpV} (h : chkI seq l = 0) : 12 ≤ (encR seq l).length := by
  unfold encR encL
  rw [if_pos h]
  simp [fixL]
  omega
theorem drop_pre {l m : List Nat} {k : Nat} (h : l.length = k) : (l ++ m).drop k = m := by subst h; exact List.drop_left
theorem take_pre {l m : List Nat} {k : Nat} (h : l.length = k) : (l ++ m).take k = l := by subst h; exact List.take_left
theorem encR_parts {seq : Int} {l : List OpV} (h : chkI seq l = 0) (rest : List Nat) :
    (encR seq l ++ rest).drop 12 = opsL l ++ rest ∧ cntOf4 (encR seq l ++ rest) = l.length ∧ sgn (numOf8 (encR seq l ++ rest)) = seq := by
  obtain ⟨z1, z2, z3, z4, _⟩ := chk_zero h
  obtain ⟨n, rfl⟩ : ∃ n : Nat, seq = (n : Int) := ⟨seq.toNat, by omega⟩
  have e : encR (n : Int) l ++ rest = fixL n 8 ++ (fixL l.length 4 ++ (opsL l ++ rest)) := by
    unfold encR encL
    rw [if_pos h, Int.toNat_natCast]; simp
  have l8 : (fixL n 8).length = 8 := VA.fixL_length n 8
  have l4 : (fixL l.length 4).length = 4 := VA.fixL_length _ 4
  rw [e]
  refine ⟨?_, ?_, ?_⟩
  · rw [show (12 : Nat) = 8 + 4 from rfl, ← List.drop_drop, drop_pre l8, drop_pre l4]
  · unfold cntOf4
    rw [drop_pre l8, take_pre l4, fixL_eq, VA.acc_fix _ 4 4 (by omega), Nat.mod_eq_of_lt (by omega)]
  · unfold numOf8
    rw [take_pre l8, fixL_eq, VA.acc_fix _ 8 8 (by omega), Nat.mod_eq_of_lt (by omega)]
    exact sgn_nat (by omega)
/-- A batch comes back. -/
theorem decO_enc {seq : Int} {l : List OpV} (h : chkI seq l = 0) : decO (encR seq l) = some (seq, l) := by
  obtain ⟨e1, e2, e3⟩ := encR_parts h []
  simp only [List.append_nil] at e1 e2 e3
  have hl := encR_len h
  have hc := cutOpsF_lay l (chk_ops h) []
  rw [List.append_nil] at hc
  unfold decO
  rw [if_neg (by omega), e1, e2, e3]
  unfold cutAll
  rw [if_neg (by have := (chk_zero h).1; omega), hc]
  dsimp only
  rw [if_pos h]
/-- With a byte more it is none. -/
theorem decO_more {seq : Int} {l : List OpV} (h : chkI seq l = 0) (x : Nat) : decO (encR seq l ++ [x]) = none := by
  obtain ⟨e1, e2, e3⟩ := encR_parts h [x]
  have hl := encR_len h
  have hc := cutOpsF_lay l (chk_ops h) [x]
  unfold decO
  rw [if_neg (by rw [List.length_append]; omega), e1, e2]
  unfold cutAll
  rw [if_neg (by have := (chk_zero h).1; omega), hc]
/-- With a byte less neither. -/
theorem decO_less {seq : Int} {l : List OpV} (h : chkI seq l = 0) (hb : ∀ x ∈ encR seq l, x < 256) : decO ((encR seq l).take ((encR seq l).length - 1)) = none := by
  cases hd : decO ((encR seq l).take ((encR seq l).length - 1)) with
  | none => rfl
  | some p =>
    exfalso
    obtain ⟨n, L⟩ := p
    obtain ⟨hc, he⟩ := decO_inv (fun x hx => hb x (List.mem_of_mem_take hx)) hd
    have hl := encR_len h
    obtain ⟨x, hx⟩ : ∃ x, encR seq l = encR n L ++ [x] := by
      refine ⟨(encR seq l)[(encR seq l).length - 1], ?_⟩
      rw [he]
      conv => lhs; rw [← List.take_length (l := encR seq l), show (encR seq l).length = ((encR seq l).length - 1) + 1 by omega, List.take_succ_eq_append_getElem (by omega)]
    have h1 := decO_enc h
    rw [hx, decO_more hc x] at h1
    cases h1
end Go.Proofs.Ythpcgdgahlcblaa
