/-
  Numbers put one behind the other: plain parts.
-/
import Derived.Test.YtngofiajcicmlaaVarPure
namespace Go.Proofs.Ytngofiajcicmlaa

theorem getF_more (l : List Nat) (i acc : Nat) (h : ∀ x ∈ l, 128 ≤ x) (hi : i + l.length ≤ 9) : getF i acc l = (0, 0, 9) := by
  induction l generalizing i acc with
  | nil => rfl
  | cons c l ih =>
    simp at hi
    unfold getF
    rw [if_neg (by omega), if_neg (by omega), if_pos (h c List.mem_cons_self)]
    exact ih _ _ (fun x hx => h x (List.mem_cons_of_mem _ hx)) (by omega)
theorem get_prefix (n k : Nat) (hn : n < 18446744073709551616) (hk : k < (putL n).length) : getS ((putL n).take k) = (0, 0, 9) := by
  have h10 := putL_len10 n hn
  refine getF_more _ 0 0 (fun x hx => ?_) (by simp; omega)
  obtain ⟨i, hi, rfl⟩ := List.getElem_of_mem hx
  simp at hi
  rw [List.getElem_take]
  have := putL_more n i (by omega)
  rw [this]; omega
theorem getF_inv (l : List Nat) (i acc N K : Nat) (hb : ∀ x ∈ l, x < 256) (h : getF i acc l = (N, K, 0)) :
    ∃ m, N = acc + m * 2 ^ (7 * i) ∧ i < K ∧ K ≤ i + l.length ∧ putL m = l.take (K - i) ∧ (0 < i → 0 < m) := by
  induction l generalizing i acc with
  | nil => simp [getF] at h
  | cons c l ih =>
    have hc := hb c List.mem_cons_self
    unfold getF at h
    by_cases h1 : 10 ≤ i
    · rw [if_pos h1] at h; simp at h
    · rw [if_neg h1] at h
      by_cases h2 : i = 9 ∧ 1 < c
      · rw [if_pos h2] at h; simp at h
      · rw [if_neg h2] at h
        by_cases h3 : 128 ≤ c
        · rw [if_pos h3] at h
          obtain ⟨m, hN, hK1, hK2, hp, hm⟩ := ih (i + 1) _ (fun x hx => hb x (List.mem_cons_of_mem _ hx)) h
          have hm0 := hm (by omega)
          have e : 2 ^ (7 * (i + 1)) = 128 * 2 ^ (7 * i) := by rw [Nat.mul_add, Nat.pow_add, Nat.mul_comm]
          refine ⟨c % 128 + 128 * m, ?_, by omega, by simp; omega, ?_, fun _ => by omega⟩
          · rw [hN, e, Nat.add_mul, Nat.mul_comm 128 m, Nat.mul_assoc]; omega
          · rw [putL_ge (by omega), show (c % 128 + 128 * m) % 128 + 128 = c by omega, show (c % 128 + 128 * m) / 128 = m by omega, hp, show K - i = K - (i + 1) + 1 by omega, List.take_succ_cons]
        · rw [if_neg h3] at h
          by_cases h4 : c = 0 ∧ 0 < i
          · rw [if_pos h4] at h; simp at h
          · rw [if_neg h4] at h
            simp only [Prod.mk.injEq, and_true] at h
            obtain ⟨hN, hK⟩ := h
            refine ⟨c, by rw [← hN, Nat.mod_eq_of_lt (by omega)], by omega, by simp; omega, ?_, fun hi => by omega⟩
            rw [putL_lt (by omega), ← hK, show i + 1 - i = 0 + 1 by omega, List.take_succ_cons, List.take_zero]
theorem get_inv (l : List Nat) (n k : Nat) (hb : ∀ x ∈ l, x < 256) (h : getS l = (n, k, 0)) : k ≤ l.length ∧ putL n = l.take k := by
  obtain ⟨m, hN, _, hK, hp, _⟩ := getF_inv l 0 0 n k hb h
  simp at hN hK hp
  subst hN
  exact ⟨hK, hp⟩
/-- A number of 64 bits as a signed one. -/
def sg (n : Nat) : Int := if n < 9223372036854775808 then (n : Int) else (n : Int) - 18446744073709551616
theorem sg_in (n : Nat) (h : n < 18446744073709551616) : -9223372036854775808 ≤ sg n ∧ sg n ≤ 9223372036854775807 := by unfold sg; split <;> omega
/-- The bytes of a number, put both ways. -/
def twoL (n : Nat) : List Nat := putL n ++ putL (foldN (sg n))
def catL (ns : List Nat) : List Nat := ns.flatMap twoL
theorem catL_snoc (ns : List Nat) (k : Nat) (h : k < ns.length) : catL (ns.take (k + 1)) = catL (ns.take k) ++ putL ns[k] ++ putL (foldN (sg ns[k])) := by
  rw [List.take_succ_eq_append_getElem h]
  unfold catL
  rw [List.flatMap_append, List.flatMap_cons, List.flatMap_nil, List.append_nil, List.append_assoc]; rfl
theorem catL_drop (ns : List Nat) (k : Nat) (h : k < ns.length) : catL (ns.drop k) = putL ns[k] ++ (putL (foldN (sg ns[k])) ++ catL (ns.drop (k + 1))) := by
  rw [List.drop_eq_getElem_cons h]
  unfold catL
  rw [List.flatMap_cons]; unfold twoL; rw [List.append_assoc]
theorem catL_byte (ns : List Nat) : ∀ x ∈ catL ns, x < 256 := by
  intro x hx
  unfold catL at hx
  obtain ⟨n, _, h⟩ := List.mem_flatMap.1 hx
  unfold twoL at h
  rcases List.mem_append.1 h with h | h
  · exact putL_byte _ x h
  · exact putL_byte _ x h
theorem catL_length (ns : List Nat) (h : ∀ n ∈ ns, n < 18446744073709551616) : (catL ns).length ≤ 20 * ns.length := by
  induction ns with
  | nil => simp [catL]
  | cons n ns ih =>
    have h1 := putL_len10 n (h n List.mem_cons_self)
    have h2 := putL_len10 (foldN (sg n)) (fold_lt _ (sg_in n (h n List.mem_cons_self)))
    have h3 := ih (fun m hm => h m (List.mem_cons_of_mem _ hm))
    have e : catL (n :: ns) = putL n ++ putL (foldN (sg n)) ++ catL ns := by unfold catL; rw [List.flatMap_cons]; rfl
    rw [e]; simp; omega
end Go.Proofs.Ytngofiajcicmlaa
