/-
  What the document's own Get and Unfold answer; the law VarintGets, walked.
-/
import Derived.Test.YthpcgdgahlcblaaVaVarL1
namespace Go.Proofs.Ythpcgdgahlcblaa.VA
open Go.RowKit

/-- A text's bytes. -/
def natsOf (t : ByteArray) : List Nat := t.data.toList.map UInt8.toNat
theorem natsOf_length (t : ByteArray) : (natsOf t).length = t.size := by simp [natsOf]
theorem natsOf_byte (t : ByteArray) : ∀ x ∈ natsOf t, x < 256 := by
  intro x hx; simp only [natsOf, List.mem_map] at hx; obtain ⟨c, _, rfl⟩ := hx; exact c.toNat_lt
theorem natsOf_get (t : ByteArray) (k : Nat) (hk : k < t.size) : (natsOf t)[k]'(by rw [natsOf_length]; exact hk) = (t[k]).toNat := by simp [natsOf]; rfl
theorem natsOf_strOf {l : List Nat} (h : ∀ x ∈ l, x < 256) : natsOf (strOf l) = l := by
  unfold natsOf strOf
  simp only [List.map_map]
  conv => rhs; rw [← List.map_id l]
  apply List.map_congr_left
  intro x hx; simp; exact h x hx
/-- What the first bytes make. -/
def accS (l : List Nat) : Nat → Nat
  | 0 => 0
  | k + 1 => accS l k + l.getD k 0 % 128 * 2 ^ (7 * k)
theorem accS_lt (l : List Nat) (k : Nat) : accS l k < 2 ^ (7 * k) := by
  induction k with
  | zero => simp [accS]
  | succ k ih =>
    have e : 2 ^ (7 * (k + 1)) = 128 * 2 ^ (7 * k) := by rw [Nat.mul_add, Nat.pow_add, Nat.mul_comm]
    have h1 : l.getD k 0 % 128 * 2 ^ (7 * k) ≤ 127 * 2 ^ (7 * k) := Nat.mul_le_mul_right _ (by omega)
    show accS l k + _ < _
    omega
theorem horner (l : List Nat) (n j K : Nat) (h : n * 2 ^ (7 * (j + 1)) + accS l (j + 1) = K) : (n * 128 + l.getD j 0 % 128) * 2 ^ (7 * j) + accS l j = K := by
  have e : 2 ^ (7 * (j + 1)) = 128 * 2 ^ (7 * j) := by rw [Nat.mul_add, Nat.pow_add, Nat.mul_comm]
  rw [← h, e]
  show _ = n * (128 * 2 ^ (7 * j)) + (accS l j + l.getD j 0 % 128 * 2 ^ (7 * j))
  rw [Nat.add_mul, Nat.mul_assoc]; omega

set_option maxRecDepth 100000 in
set_option maxHeartbeats 1600000 in
theorem rget_any (t : ByteArray) (hm : t.size ≤ maxLen) (w : World) :
    Calls Try.prog 57 #[.string t] w fun e w' => e = .returned (tup (getS (natsOf t))) ∧ w = w' := by
  unfold maxLen at hm
  have hlen := natsOf_length t
  have HLEN := Lib.hid hlen
  clear hlen
  go_enter Try.func57, Try.ntmps57
  go_wp2
  go_loop [5] (fun i => ∃ k : Nat, k ≤ t.size ∧ k ≤ 10 ∧ i = .int .i64 (k : Int) ∧ Hid ((k ≤ 9 → getF k (accS (natsOf t) k) ((natsOf t).drop k) = getS (natsOf t)) ∧ (k = 10 → getS (natsOf t) = (0, 0, 2)))) (fun i => 10 - (intOf i).toNat)
  case atStart => exact ⟨0, by omega, by omega, rfl, fun _ => rfl, fun h => by omega⟩
  case round =>
    obtain ⟨k, hk1, hk2, rfl, hI⟩ := hrel
    by_cases hlt : k < t.size
    · by_cases h10 : k < 10
      · have hstep := hI.out.1 (by omega)
        rw [List.drop_eq_getElem_cons (by rw [HLEN.out]; exact hlt), natsOf_get t k hlt] at hstep
        have hgd : (natsOf t).getD k 0 = (t[k]).toNat := by
          rw [List.getD_eq_getElem?_getD, List.getElem?_eq_getElem (by rw [HLEN.out]; exact hlt), ← natsOf_get t k hlt]; rfl
        have hx := (t[k]).toNat_lt
        have HGD := Lib.hid hgd
        unfold getF at hstep
        rw [if_neg (by omega)] at hstep
        clear hgd
        by_cases h128 : 128 ≤ (t[k]).toNat
        · have HI : Hid ((k + 1 ≤ 9 → getF (k + 1) (accS (natsOf t) (k + 1)) ((natsOf t).drop (k + 1)) = getS (natsOf t)) ∧ (k + 1 = 10 → getS (natsOf t) = (0, 0, 2))) := Lib.hid (by
            constructor
            · intro h9
              rw [if_neg (by omega), if_pos h128] at hstep
              rw [← hstep]; show getF (k + 1) (accS (natsOf t) k + _) _ = _
              rw [HGD.out]
            · intro h9
              rw [if_pos ⟨by omega, by omega⟩] at hstep
              exact hstep.symm)
          clear hI hstep
          go_wp2
          go_round
          case rel => exact ⟨k + 1, by omega, by omega, by go_num, HI.out⟩
          case measure => simp [intOf]; omega
        · by_cases hbad : (k = 9 ∧ 1 < (t[k]).toNat) ∨ (0 < k ∧ (t[k]).toNat = 0)
          · have HS : Hid (getS (natsOf t) = (0, 0, 2)) := Lib.hid (by
              rw [← hstep]
              rcases hbad with hb | hb
              · rw [if_pos hb]
              · rw [if_neg (by omega), if_neg h128, if_pos ⟨hb.2, hb.1⟩])
            clear hI hstep
            have hd128 : ¬ (128 ≤ ((t[k]).toNat : Int)) := by omega
            by_cases h9 : k = 9
            · have hk9 : ((k : Int) == 9) = true := by rw [h9]; rfl
              have hk0 : 0 < k := by omega
              by_cases hc1 : 1 < (t[k]).toNat
              · clear hbad h9
                go_wp2
                go_ret3
                exact ⟨by rw [HS.out]; rfl, rfl⟩
              · have hc0 : (((t[k]).toNat : Int) == 0) = true := by
                  have : (t[k]).toNat = 0 := by omega
                  rw [this]; rfl
                have hc1' : ¬ (1 < ((t[k]).toNat : Int)) := by omega
                clear hbad h9 hc1
                go_wp2
                go_ret3
                exact ⟨by rw [HS.out]; rfl, rfl⟩
            · have hk9 : ((k : Int) == 9) = false := by rw [beq_eq_false_iff_ne]; omega
              have hk0 : 0 < k := by omega
              have hc0 : (((t[k]).toNat : Int) == 0) = true := by
                have : (t[k]).toNat = 0 := by omega
                rw [this]; rfl
              clear hbad h9
              go_wp2
              go_ret3
              exact ⟨by rw [HS.out]; rfl, rfl⟩
          · have HS : Hid (getS (natsOf t) = (accS (natsOf t) (k + 1), k + 1, 0)) := Lib.hid (by
              rw [← hstep, if_neg (fun h => hbad (.inl h)), if_neg h128, if_neg (fun h => hbad (.inr ⟨h.2, h.1⟩))]
              show _ = (accS (natsOf t) k + _, _, _)
              rw [HGD.out])
            clear hI hstep
            have hd128 : ¬ (128 ≤ ((t[k]).toNat : Int)) := by omega
            have hK : accS (natsOf t) (k + 1) < 18446744073709551616 := by
              show accS (natsOf t) k + _ < _
              rw [HGD.out]
              have h1 := accS_lt (natsOf t) k
              have h2 : k = 9 → (t[k]).toNat ≤ 1 := fun e => by omega
              exact (or_put _ _ k (by omega) h1 (Nat.mod_lt _ (by omega)) (fun e => by have := h2 e; omega)).2.2
            by_cases h9 : k = 9
            · have hk9 : ((k : Int) == 9) = true := by rw [h9]; rfl
              have hk0 : 0 < k := by omega
              have hc1 : ¬ (1 < ((t[k]).toNat : Int)) := by omega
              have hc0 : (((t[k]).toNat : Int) == 0) = false := by rw [beq_eq_false_iff_ne]; omega
              clear hbad h9
              go_wp2
              go_loop [6, 7] (fun x i => ∃ j n : Nat, j ≤ k + 1 ∧ x = .int .u64 (n : Int) ∧ i = .int .i64 ((j : Int) - 1) ∧ Hid (n * 2 ^ (7 * j) + accS (natsOf t) j = accS (natsOf t) (k + 1))) (fun _ i => (intOf i + 1).toNat)
              case atStart => exact ⟨k + 1, 0, Nat.le_refl _, rfl, by go_num, Lib.hid (by simp)⟩
              case round =>
                obtain ⟨j, n, hj, rfl, rfl, hI⟩ := hrel
                cases j with
                | zero =>
                  have HN : Hid (n = accS (natsOf t) (k + 1)) := Lib.hid (by have := hI.out; simpa [accS] using this)
                  clear hI
                  go_wp2
                  go_ret3
                  exact ⟨by rw [HS.out, ← HN.out]; rfl, rfl⟩
                | succ j =>
                  rw [show ((j + 1 : Nat) : Int) - 1 = (j : Int) by omega]
                  have hjs : j < t.size := by omega
                  have hh := horner (natsOf t) n j _ hI.out
                  have hgj : (natsOf t).getD j 0 = (t[j]).toNat := by
                    rw [List.getD_eq_getElem?_getD, List.getElem?_eq_getElem (by rw [HLEN.out]; exact hjs), ← natsOf_get t j hjs]; rfl
                  rw [hgj] at hh
                  have hy := (t[j]).toNat_lt
                  have hbd : n * 128 + (t[j]).toNat % 128 < 18446744073709551616 := by
                    have h1 : (n * 128 + (t[j]).toNat % 128) * 1 ≤ (n * 128 + (t[j]).toNat % 128) * 2 ^ (7 * j) := Nat.mul_le_mul_left _ (Nat.two_pow_pos _)
                    omega
                  have hbd2 : n ≤ 144115188075855871 := by omega
                  have HH := Lib.hid hh
                  clear hh hgj hI hbd
                  go_wp2
                  go_round
                  case rel => exact ⟨j, n * 128 + (t[j]).toNat % 128, by omega, by go_num, rfl, HH.out⟩
                  case measure => simp [intOf]
            · have hk9 : ((k : Int) == 9) = false := by rw [beq_eq_false_iff_ne]; omega
              by_cases hk0 : 0 < k
              · have hc0 : (((t[k]).toNat : Int) == 0) = false := by rw [beq_eq_false_iff_ne]; omega
                clear hbad h9
                go_wp2
                go_loop [6, 7] (fun x i => ∃ j n : Nat, j ≤ k + 1 ∧ x = .int .u64 (n : Int) ∧ i = .int .i64 ((j : Int) - 1) ∧ Hid (n * 2 ^ (7 * j) + accS (natsOf t) j = accS (natsOf t) (k + 1))) (fun _ i => (intOf i + 1).toNat)
                case atStart => exact ⟨k + 1, 0, Nat.le_refl _, rfl, by go_num, Lib.hid (by simp)⟩
                case round =>
                  obtain ⟨j, n, hj, rfl, rfl, hI⟩ := hrel
                  cases j with
                  | zero =>
                    have HN : Hid (n = accS (natsOf t) (k + 1)) := Lib.hid (by have := hI.out; simpa [accS] using this)
                    clear hI
                    go_wp2
                    go_ret3
                    exact ⟨by rw [HS.out, ← HN.out]; rfl, rfl⟩
                  | succ j =>
                    rw [show ((j + 1 : Nat) : Int) - 1 = (j : Int) by omega]
                    have hjs : j < t.size := by omega
                    have hh := horner (natsOf t) n j _ hI.out
                    have hgj : (natsOf t).getD j 0 = (t[j]).toNat := by
                      rw [List.getD_eq_getElem?_getD, List.getElem?_eq_getElem (by rw [HLEN.out]; exact hjs), ← natsOf_get t j hjs]; rfl
                    rw [hgj] at hh
                    have hy := (t[j]).toNat_lt
                    have hbd : n * 128 + (t[j]).toNat % 128 < 18446744073709551616 := by
                      have h1 : (n * 128 + (t[j]).toNat % 128) * 1 ≤ (n * 128 + (t[j]).toNat % 128) * 2 ^ (7 * j) := Nat.mul_le_mul_left _ (Nat.two_pow_pos _)
                      omega
                    have hbd2 : n ≤ 144115188075855871 := by omega
                    have HH := Lib.hid hh
                    clear hh hgj hI hbd
                    go_wp2
                    go_round
                    case rel => exact ⟨j, n * 128 + (t[j]).toNat % 128, by omega, by go_num, rfl, HH.out⟩
                    case measure => simp [intOf]
              · clear hbad h9
                go_wp2
                go_loop [6, 7] (fun x i => ∃ j n : Nat, j ≤ k + 1 ∧ x = .int .u64 (n : Int) ∧ i = .int .i64 ((j : Int) - 1) ∧ Hid (n * 2 ^ (7 * j) + accS (natsOf t) j = accS (natsOf t) (k + 1))) (fun _ i => (intOf i + 1).toNat)
                case atStart => exact ⟨k + 1, 0, Nat.le_refl _, rfl, by go_num, Lib.hid (by simp)⟩
                case round =>
                  obtain ⟨j, n, hj, rfl, rfl, hI⟩ := hrel
                  cases j with
                  | zero =>
                    have HN : Hid (n = accS (natsOf t) (k + 1)) := Lib.hid (by have := hI.out; simpa [accS] using this)
                    clear hI
                    go_wp2
                    go_ret3
                    exact ⟨by rw [HS.out, ← HN.out]; rfl, rfl⟩
                  | succ j =>
                    rw [show ((j + 1 : Nat) : Int) - 1 = (j : Int) by omega]
                    have hjs : j < t.size := by omega
                    have hh := horner (natsOf t) n j _ hI.out
                    have hgj : (natsOf t).getD j 0 = (t[j]).toNat := by
                      rw [List.getD_eq_getElem?_getD, List.getElem?_eq_getElem (by rw [HLEN.out]; exact hjs), ← natsOf_get t j hjs]; rfl
                    rw [hgj] at hh
                    have hy := (t[j]).toNat_lt
                    have hbd : n * 128 + (t[j]).toNat % 128 < 18446744073709551616 := by
                      have h1 : (n * 128 + (t[j]).toNat % 128) * 1 ≤ (n * 128 + (t[j]).toNat % 128) * 2 ^ (7 * j) := Nat.mul_le_mul_left _ (Nat.two_pow_pos _)
                      omega
                    have hbd2 : n ≤ 144115188075855871 := by omega
                    have HH := Lib.hid hh
                    clear hh hgj hI hbd
                    go_wp2
                    go_round
                    case rel => exact ⟨j, n * 128 + (t[j]).toNat % 128, by omega, by go_num, rfl, HH.out⟩
                    case measure => simp [intOf]
      · obtain rfl : k = 10 := by omega
        have HS : Hid (getS (natsOf t) = (0, 0, 2)) := Lib.hid (hI.out.2 rfl)
        have hl10 : ¬ (t.size < 10) := by omega
        clear hI
        go_wp2
        go_ret3
        exact ⟨by rw [HS.out]; rfl, rfl⟩
    · obtain rfl : k = t.size := by omega
      by_cases h10 : t.size < 10
      · have HS : Hid (getS (natsOf t) = (0, 0, 9)) := Lib.hid (by
          rw [← hI.out.1 (by omega)]; exact getF_end _ _ _ (.inr (List.drop_eq_nil_of_le (by rw [HLEN.out]; exact Nat.le_refl _))))
        clear hI
        go_wp2
        go_ret3
        exact ⟨by rw [HS.out]; rfl, rfl⟩
      · have HS : Hid (getS (natsOf t) = (0, 0, 2)) := Lib.hid (hI.out.2 (by omega))
        clear hI
        go_wp2
        go_ret3
        exact ⟨by rw [HS.out]; rfl, rfl⟩
/-- What is told of a slice of integers that came in (as the shell of the proof has it). -/
def IsRow (k : IntKind) (w : World) (a : Option Addr) (len cap : Nat) (zs : List Int) : Prop :=
  (a = none ∧ len = 0 ∧ cap = 0 ∧ zs = []) ∨
  ∃ x, a = some x ∧ len ≤ cap ∧ cap ≤ maxLen ∧ zs.length = cap ∧ (∀ i, i < zs.length → w.cell? (x.add i) = some (.int k (zs.getD i 0))) ∧ ∀ n ∈ zs, (Lit.int k n).wf = true
theorem wf_u8 {a : Int} (h : (Lit.int .u8 a).wf = true) : 0 ≤ a ∧ a < 256 := by
  simp [Lit.wf, IntKind.min, IntKind.max, IntKind.signed, IntKind.bits] at h; omega
/-- Bytes that came in are bytes. -/
theorem IsRow.byt {w : World} {a : Option Addr} {len cap : Nat} {zs : List Int} (h : IsRow .u8 w a len cap zs) :
    ∃ l : List Nat, l.length = len ∧ Byt w a l ∧ (∀ x ∈ l, x < 256) ∧ len ≤ cap ∧ cap ≤ maxLen ∧ (a = none → l = []) := by
  rcases h with ⟨_, rfl, rfl, _⟩ | ⟨x, rfl, h1, h2, h3, h4, h5⟩
  · exact ⟨[], rfl, .inl rfl, by simp, Nat.le_refl _, by unfold maxLen; omega, fun _ => rfl⟩
  · refine ⟨(zs.take len).map Int.toNat, by simp; omega, ?_, ?_, h1, h2, fun h => by cases h⟩
    · by_cases h0 : len = 0
      · left; simp [h0]
      · right
        have hc0 := h4 0 (by omega)
        have hx : x.add 0 = x := by simp [Addr.add]
        rw [hx] at hc0
        obtain ⟨b, off, spot⟩ := x
        have hsp : spot = none := by
          cases spot with
          | none => rfl
          | some s => simp [World.cell?] at hc0; split at hc0 <;> simp at hc0
        subst hsp
        refine ⟨b, off, rfl, World.block_lt_of_cell? w _ hc0, fun i hi => ?_⟩
        simp at hi
        have := h4 i (by omega)
        rw [addr_add] at this
        rw [this]
        have hg : zs.getD i 0 = zs[i]'(by omega) := by rw [List.getD_eq_getElem?_getD, List.getElem?_eq_getElem (by omega)]; rfl
        have hw := wf_u8 (h5 (zs[i]'(by omega)) (List.getElem_mem _))
        rw [hg]; simp only [List.getElem_map, List.getElem_take]
        rw [Int.toNat_of_nonneg hw.1]
    · intro y hy
      simp only [List.mem_map] at hy
      obtain ⟨z, hz, rfl⟩ := hy
      have := wf_u8 (h5 z (List.mem_of_mem_take hz))
      omega

namespace varintGets
end varintGets
end Go.Proofs.Ythpcgdgahlcblaa.VA
