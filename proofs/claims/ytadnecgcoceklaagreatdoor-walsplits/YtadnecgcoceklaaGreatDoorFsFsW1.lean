/-
  The small functions of package fs: names, finding, spending, New, Off, Arm, Size.
-/
import Derived.Test.YtadnecgcoceklaaGreatDoorME
namespace Go.Proofs.YtadnecgcoceklaaGreatDoor
open Go.RowKit Go.Maps

theorem i64_nat (n : Nat) (h : n ≤ 9223372036854775807) : IntKind.i64.wrap (n : Int) = (n : Int) := IntWalk.i64_in _ (by omega)

set_option maxRecDepth 100000 in
set_option maxHeartbeats 400000 in
theorem inName_any (c : Nat) (w : World) (hc : c < 256) : Calls Tryz.prog 79 #[.int .u8 (c : Int)] w fun e w' => e = .returned (.bool (inNm c)) ∧ w = w' := by
  have hd : inNm c = true ∨ inNm c = false := by cases inNm c <;> simp
  by_cases h1 : 97 ≤ c ∧ c ≤ 122
  · have HV := Lib.hid (show inNm c = true by simp [inNm, h1.1, h1.2])
    obtain ⟨h1, h2⟩ := h1
    clear hd
    go_enter Tryz.func79, Tryz.ntmps79
    go_wp2
    go_ret
    exact ⟨by rw [HV.out]; rfl, rfl⟩
  · by_cases h2 : 48 ≤ c ∧ c ≤ 57
    · have HV := Lib.hid (show inNm c = true by simp [inNm, h2.1, h2.2])
      obtain ⟨h2, h3⟩ := h2
      have h4 : ¬ (97 ≤ c) := by omega
      clear hd h1
      go_enter Tryz.func79, Tryz.ntmps79
      go_wp2
      go_ret
      exact ⟨by rw [HV.out]; rfl, rfl⟩
    · by_cases h3 : c = 46
      · subst h3
        clear hd h1 h2
        go_enter Tryz.func79, Tryz.ntmps79
        go_wp2
        go_ret
        exact ⟨rfl, rfl⟩
      · by_cases h4 : c = 45
        · subst h4
          clear hd h1 h2
          go_enter Tryz.func79, Tryz.ntmps79
          go_wp2
          go_ret
          exact ⟨rfl, rfl⟩
        · have HV := Lib.hid (show inNm c = false by simp [inNm]; omega)
          have d3 : ((c : Int) == 46) = false := by simp; omega
          have d4 : ((c : Int) == 45) = false := by simp; omega
          by_cases h5 : 97 ≤ c
          · have d1 : decide ((c : Int) ≤ 122) = false := by simp; omega
            have d2 : decide ((c : Int) ≤ 57) = false := by simp; omega
            have h7 : 48 ≤ c := by omega
            clear h1 h2 hd
            go_enter Tryz.func79, Tryz.ntmps79
            go_wp2
            go_ret
            exact ⟨by rw [HV.out]; rfl, rfl⟩
          · by_cases h7 : 48 ≤ c
            · have d2 : decide ((c : Int) ≤ 57) = false := by simp; omega
              clear h1 h2 hd
              go_enter Tryz.func79, Tryz.ntmps79
              go_wp2
              go_ret
              exact ⟨by rw [HV.out]; rfl, rfl⟩
            · clear h1 h2 hd
              go_enter Tryz.func79, Tryz.ntmps79
              go_wp2
              go_ret
              exact ⟨by rw [HV.out]; rfl, rfl⟩

theorem isNm_short {s : ByteArray} (h : s.size < 1 ∨ 24 < s.size) : isNm s.data.toList = false := by
  have : s.data.toList.length = s.size := by simp
  unfold isNm; rw [this]
  rcases h with h | h
  · have : ¬ (1 ≤ s.size) := by omega
    simp [this]
  · have : ¬ (s.size ≤ 24) := by omega
    simp [this]
theorem isNm_no {s : ByteArray} {k : Nat} (hk : k < s.size) (h : inNm (s[k]).toNat = false) : isNm s.data.toList = false := by
  have hm : s[k] ∈ s.data.toList := by
    have : s.data.toList[k]'(by simpa using hk) = s[k] := by simp; rfl
    rw [← this]; exact List.getElem_mem _
  unfold isNm
  have : (s.data.toList.all fun c => inNm c.toNat) = false := by
    rw [List.all_eq_false]; exact ⟨_, hm, by simp [h]⟩
  rw [this]; simp
theorem isNm_yes {s : ByteArray} (h1 : 1 ≤ s.size) (h2 : s.size ≤ 24) (h : ∀ k (hk : k < s.size), inNm (s[k]).toNat = true) : isNm s.data.toList = true := by
  have e : s.data.toList.length = s.size := by simp
  unfold isNm
  rw [e]
  simp only [h1, h2, decide_true, Bool.true_and, List.all_eq_true]
  intro c hc
  obtain ⟨k, hk, rfl⟩ := List.getElem_of_mem hc
  have hk2 : k < s.size := by simpa using hk
  have := h k hk2
  have e2 : s.data.toList[k] = s[k] := by simp; rfl
  rw [e2]; exact this

set_option maxRecDepth 100000 in
set_option maxHeartbeats 400000 in
theorem isName_any (s : ByteArray) (w : World) : Calls Tryz.prog 43 #[.string s] w fun e w' => e = .returned (.bool (isNm s.data.toList)) ∧ w = w' := by
  by_cases h1 : s.size < 1
  · have HV := Lib.hid (isNm_short (s := s) (.inl h1))
    go_enter Tryz.func43, Tryz.ntmps43
    go_wp2
    go_ret
    exact ⟨by rw [HV.out]; rfl, rfl⟩
  · by_cases h2 : 24 < s.size
    · have HV := Lib.hid (isNm_short (s := s) (.inr h2))
      go_enter Tryz.func43, Tryz.ntmps43
      go_wp2
      go_ret
      exact ⟨by rw [HV.out]; rfl, rfl⟩
    · go_enter Tryz.func43, Tryz.ntmps43
      go_wp2
      go_loopw [3, 14] (fun _ i wr => ∃ k : Nat, k ≤ s.size ∧ i = .int .i64 k ∧ wr = w ∧ ∀ j (hj : j < s.size), j < k → inNm (s[j]).toNat = true) (fun _ i _ => s.size - (intOf i).toNat)
      case atStart => exact ⟨0, Nat.zero_le _, rfl, rfl, fun j _ h => by omega⟩
      case round =>
        obtain ⟨k, hk, rfl, rfl, hall⟩ := hrel
        by_cases hlt : k < s.size
        · have hc := inName_any (s[k]).toNat wr (s[k]).toNat_lt
          cases hb : inNm (s[k]).toNat with
          | false =>
            rw [hb] at hc
            have HC := Lib.hid hc
            have HV := Lib.hid (isNm_no hlt hb)
            have Hall := Lib.hid hall
            clear hall hc hb
            go_wp2_with fail
            refine HC.out.mono ?_
            rintro e w' ⟨rfl, rfl⟩
            go_wp2
            go_ret
            exact ⟨by rw [HV.out]; rfl, rfl⟩
          | true =>
            rw [hb] at hc
            have HC := Lib.hid hc
            have HA := Lib.hid (show ∀ j (hj : j < s.size), j < k + 1 → inNm (s[j]).toNat = true from fun j hj h => by
              by_cases e : j = k
              · subst e; exact hb
              · exact hall j hj (by omega))
            clear hall hc hb
            go_wp2_with fail
            refine HC.out.mono ?_
            rintro e w' ⟨rfl, rfl⟩
            go_wp2
            go_roundw
            case rel => exact ⟨k + 1, by omega, by go_num, trivial, HA.out⟩
            case measure => simp [intOf]; omega
        · have e : k = s.size := by omega
          subst e
          have HV := Lib.hid (isNm_yes (s := s) (by omega) (by omega) (fun j hj => hall j hj hj))
          clear hall
          go_wp2
          go_ret
          exact ⟨by rw [HV.out]; rfl, rfl⟩
end Go.Proofs.YtadnecgcoceklaaGreatDoor

