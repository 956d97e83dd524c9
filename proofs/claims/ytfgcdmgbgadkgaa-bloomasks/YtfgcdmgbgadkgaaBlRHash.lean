/-
  What the document's own Hash answers.
-/
import Derived.Test.YtfgcdmgbgadkgaaBlW6
namespace Go.Proofs.Ytfgcdmgbgadkgaa
open Go.RowKit

theorem idx_at (s : ByteArray) (z : Int) (n : Nat) (hz : z = n) (hn : n < s.size) (w : World) : (Instr.index 9 (.string s) (.int .i64 z)).run Try.prog w = .ok (.int .u8 (s[n].toNat : Int)) w := by
  subst hz
  rw [run_index_string (P := Try.prog) w 9 s .i64 (n : Int) Try.underlying9, dif_pos ⟨by omega, by omega⟩]
  simp
theorem acc_take4 (t : ByteArray) (h : 4 ≤ t.size) : acc8 ((natsOf t).take 4) 4 = t[0].toNat + t[1].toNat * 256 + t[2].toNat * 65536 + t[3].toNat * 16777216 := by
  have g : ∀ k (hk : k < 4), ((natsOf t).take 4).getD k 0 = (t[k]'(by omega)).toNat := by
    intro k hk
    rw [List.getD_eq_getElem?_getD, List.getElem?_take, if_pos hk, List.getElem?_eq_getElem (by rw [natsOf_length]; omega)]
    exact natsOf_get t k (by omega)
  show ((((0 + _ * 2 ^ (8 * 0)) + _ * 2 ^ (8 * 1)) + _ * 2 ^ (8 * 2)) + _ * 2 ^ (8 * 3)) = _
  rw [g 0 (by omega), g 1 (by omega), g 2 (by omega), g 3 (by omega)]
  simp
theorem toList_nil_iff (k : ByteArray) : k.toList = [] ↔ k.size = 0 := by
  rw [toList_eq]
  constructor
  · intro h
    have := congrArg List.length h
    simpa using this
  · intro h
    exact List.length_eq_zero_iff.1 (by simpa using h)
set_option maxRecDepth 100000 in
set_option maxHeartbeats 800000 in
theorem rhash_any (key : ByteArray) (hm : key.size ≤ 9223372036854775807) (w : World) :
    Calls Try.prog 12 #[.string key] w fun e w' => e = .returned (.int .u32 (hashN (natsOf key) : Int)) ∧ Below w.heap.size w w' := by
  have HX0 := Lib.hid (hash0_val key.size)
  have H0 : Hid (hashF (hash0 key.size) (natsOf key) = hashN (natsOf key)) := Lib.hid (by unfold hashN; rw [natsOf_length])
  have h0l := hash0_lt key.size
  go_enter Try.func12, Try.ntmps12
  go_wp2_with fail
  go_loopw [0, 3] (fun x h wr => ∃ (t : ByteArray) (n : Nat), x = .string t ∧ t.size ≤ 9223372036854775807 ∧ n < 4294967296 ∧ h = .int .u32 (n : Int) ∧ Hid (hashF n (natsOf t) = hashN (natsOf key) ∧ Below w.heap.size w wr)) (fun x _ _ => lenS x)
  case atStart => exact ⟨key, hash0 key.size, rfl, hm, h0l, by rw [HX0.out], H0.out, Below.refl _ _⟩
  case round =>
    obtain ⟨t, n, rfl, htm, hn, rfl, hI⟩ := hrel
    by_cases h4 : 4 ≤ t.size
    · have i0 := idx_at t 0 0 rfl (by omega)
      have i1 := idx_at t 1 1 rfl (by omega)
      have i2 := idx_at t 2 2 rfl (by omega)
      have i3 := idx_at t 3 3 rfl (by omega)
      have l0 := (t[0]'(by omega)).toNat_lt
      have l1 := (t[1]'(by omega)).toNat_lt
      have l2 := (t[2]'(by omega)).toNat_lt
      have l3 := (t[3]'(by omega)).toNat_lt
      have HA := Lib.hid (acc_take4 t h4)
      have HS : Hid (hashF (fold16 n (acc8 ((natsOf t).take 4) 4)) (natsOf (t.extract 4 t.size)) = hashN (natsOf key)) := Lib.hid (by
        rw [drop_nats, ← hash_step (by rw [natsOf_length]; exact h4)]; exact hI.out.1)
      have HB := Lib.hid hI.out.2
      have hex : (t.extract 4 t.size).size = t.size - 4 := by simp
      clear hI
      generalize (t[0]'(by omega)).toNat = c0 at *
      generalize (t[1]'(by omega)).toNat = c1 at *
      generalize (t[2]'(by omega)).toNat = c2 at *
      generalize (t[3]'(by omega)).toNat = c3 at *
      obtain ⟨A, hA⟩ : ∃ A : Nat, A = c0 + c1 * 256 + c2 * 65536 + c3 * 16777216 := ⟨_, rfl⟩
      have HV : Hid ((((n : Int) + (c0 : Int) + (c1 : Int) * 256 + (c2 : Int) * 65536) % 4294967296 + (c3 : Int) * 16777216) % 4294967296 = ((n : Int) + (A : Int)) % 4294967296) := Lib.hid (by omega)
      have HAA := Lib.hid (HA.out.trans hA.symm)
      have hal : A < 4294967296 := by omega
      have HF := Lib.hid (fold16_val n A)
      have hfl := fold16_lt n A
      clear hA HA
      go_wp2_with fail
      go_quiet (fail)
      rw [HV.out]
      go_wp2
      go_roundw
      case rel => exact ⟨t.extract 4 t.size, fold16 n A, rfl, by omega, hfl, by rw [← HF.out], by rw [← HAA.out]; exact HS.out, HB.out.trans (below_drewN _ _ _)⟩
      case measure => simp [lenS]; omega
    · by_cases h0 : t.size = 0
      · have HS : Hid (n = hashN (natsOf key)) := Lib.hid (by
          have := hI.out.1
          rwa [hash_end (by rw [natsOf_length]; exact h4), if_pos (by rw [natsOf_length]; exact h0)] at this)
        have HB := Lib.hid hI.out.2
        have ht : t.toList = [] := (toList_nil_iff t).2 h0
        clear hI
        go_wp2
        go_ret
        exact ⟨by rw [← HS.out]; rfl, HB.out⟩
      · have HS : Hid (fold24 n (acc8 (natsOf t) t.size) = hashN (natsOf key)) := Lib.hid (by
          have := hI.out.1
          rwa [hash_end (by rw [natsOf_length]; exact h4), if_neg (by rw [natsOf_length]; exact h0), natsOf_length] at this)
        have HB := Lib.hid hI.out.2
        have ht : ¬ t.toList = [] := fun h => h0 ((toList_nil_iff t).1 h)
        have ht2 : (t.toList == []) = false := by rw [beq_eq_false_iff_ne]; exact ht
        clear hI
        go_wp2_with fail
        clear ht ht2
        go_loop [3, 4, 5] (fun h u i => ∃ k m q : Nat, k ≤ t.size ∧ m < 4294967296 ∧ q ≤ 16777216 ∧ i = .int .i64 (k : Int) ∧ h = .int .u32 (m : Int) ∧ u = .int .u32 (q : Int) ∧ Hid (q = 2 ^ (8 * k) ∧ m = (n + acc8 (natsOf t) k) % 4294967296)) (fun _ _ i => t.size - (intOf i).toNat)
        case atStart => exact ⟨0, n, 1, by omega, hn, by omega, rfl, rfl, rfl, rfl, by simp [acc8]; omega⟩
        case round =>
          obtain ⟨k, m, q, hk, hml, hq, rfl, rfl, rfl, hJ⟩ := hrel
          by_cases hlt : k < t.size
          · have hq6 : q ≤ 65536 := by
              rw [hJ.out.1]
              have : 2 ^ (8 * k) ≤ 2 ^ 16 := Nat.pow_le_pow_right (by omega) (by omega)
              omega
            have hix := idx_at t (k : Int) k rfl hlt
            have hcl := (t[k]).toNat_lt
            have hgd : (natsOf t).getD k 0 = (t[k]).toNat := by
              rw [List.getD_eq_getElem?_getD, List.getElem?_eq_getElem (by rw [natsOf_length]; exact hlt)]
              exact natsOf_get t k hlt
            have HN : Hid (q * 256 = 2 ^ (8 * (k + 1)) ∧ (m + (t[k]).toNat * q) % 4294967296 = (n + acc8 (natsOf t) (k + 1)) % 4294967296) := Lib.hid ⟨by rw [hJ.out.1, pow8]; omega, by
              show _ = (n + (acc8 (natsOf t) k + (natsOf t).getD k 0 * 2 ^ (8 * k))) % 4294967296
              rw [hgd, ← hJ.out.1, hJ.out.2]; omega⟩
            have hmul : (t[k]).toNat * q ≤ 255 * 65536 := Nat.mul_le_mul (by omega) hq6
            have e1 : ((t[k]).toNat : Int) * (q : Int) = (((t[k]).toNat * q : Nat) : Int) := by simp
            generalize (t[k]).toNat = c at *
            generalize c * q = cq at *
            have HM : Hid (((m : Int) + (cq : Int)) % 4294967296 = (((m + cq) % 4294967296 : Nat) : Int)) := Lib.hid (by omega)
            have HQ : Hid ((q : Int) * 256 = ((q * 256 : Nat) : Int)) := Lib.hid (by omega)
            clear hJ hgd
            go_wp2
            go_round
            case rel => exact ⟨k + 1, (m + cq) % 4294967296, q * 256, by omega, by omega, by omega, by go_num, by rw [HM.out], by rw [HQ.out], HN.out⟩
            case measure => simp [intOf]; omega
          · obtain rfl : k = t.size := by omega
            have hm2 := hJ.out.2
            have HF := Lib.hid (fold24_val n (acc8 (natsOf t) t.size))
            have HM : Hid ((m : Int) = ((n : Int) + (acc8 (natsOf t) t.size : Int)) % 4294967296) := Lib.hid (by omega)
            clear hJ hm2
            go_wp2
            go_ret
            refine ⟨?_, HB.out⟩
            rw [← HS.out, ← HF.out, ← HM.out]; rfl
end Go.Proofs.Ytfgcdmgbgadkgaa
