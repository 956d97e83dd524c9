/-
  What New of package region does with a wrong size or count.
-/
import Derived.Test.YtaaalfimlpeddaaRegW8
namespace Go.Proofs.Ytaaalfimlpeddaa
open Go.RowKit

set_option maxRecDepth 100000 in
set_option maxHeartbeats 800000 in
theorem new_bad (s n : Int) (w : World) (hb : s < 64 ∨ 65536 < s ∨ s.tmod 8 ≠ 0 ∨ n < 1 ∨ 4096 < n ∨ 4194304 < s * n) :
    Calls Try.prog 11 #[.int .i64 s, .int .i64 n] w fun e w' => e = .returned (.tuple #[.pointer none, .int .i64 1]) ∧ w = w' := by
  by_cases h1 : s < 64
  · clear hb
    go_enter Try.func11, Try.ntmps11
    go_wp2
    go_ret2
    exact ⟨rfl, rfl⟩
  · by_cases h2 : 65536 < s
    · clear hb
      go_enter Try.func11, Try.ntmps11
      go_wp2
      go_ret2
      exact ⟨rfl, rfl⟩
    · by_cases h3 : s.tmod 8 = 0
      · have hm : s % 8 = 0 := by rw [Int.tmod_eq_emod_of_nonneg (by omega)] at h3; exact h3
        have hm2 : ((s % 8 : Int) != 0) = false := by simpa using hm
        have HM := Lib.hid hm
        by_cases h4 : n < 1
        · clear hb h3 hm
          go_enter Try.func11, Try.ntmps11
          go_wp2
          go_ret2
          exact ⟨rfl, rfl⟩
        · by_cases h5 : 4096 < n
          · clear hb h3 hm
            go_enter Try.func11, Try.ntmps11
            go_wp2
            go_ret2
            exact ⟨rfl, rfl⟩
          · have h6 : 4194304 < s * n := by omega
            have h7 : s * n ≤ 65536 * 4096 := Int.mul_le_mul (by omega) (by omega) (by omega) (by omega)
            have e7 : wrap64 (s * n) = s * n := by unfold wrap64; omega
            clear hb h3 hm
            go_enter Try.func11, Try.ntmps11
            go_wp2
            go_ret2
            exact ⟨rfl, rfl⟩
      · have hm : s % 8 ≠ 0 := by rw [Int.tmod_eq_emod_of_nonneg (by omega)] at h3; exact h3
        have hm2 : ((s % 8 : Int) != 0) = true := by simpa using hm
        clear hb h3 hm
        go_enter Try.func11, Try.ntmps11
        go_wp2
        go_ret2
        exact ⟨rfl, rfl⟩

end Go.Proofs.Ytaaalfimlpeddaa
