/-
  What Check, Right, Less and mark answer.
-/
import Derived.Test.YtjdnjobaoiecoaaIkIkPure
namespace Go.Proofs.Ytjdnjobaoiecoaa.IK
open Go.RowKit

theorem size_ne {k : ByteArray} : (k = ⟨#[]⟩) ↔ k.size = 0 := by
  constructor
  · rintro rfl; rfl
  · intro h; apply ByteArray.ext; exact Array.eq_empty_of_size_eq_zero h
def chkI (k : ByteArray) (s d : Int) : Int := if okV k s d then 0 else 1
theorem chk_yes {k : ByteArray} {s d : Int} (h : okV k s d) : chkI k s d = 0 := if_pos h
theorem chk_no {k : ByteArray} {s d : Int} (h : ¬ okV k s d) : chkI k s d = 1 := if_neg h
theorem bel1 (w : World) (o : Obj) : Below w.heap.size w (w.alloc o) := (Below.refl _ _).alloc (Nat.le_refl _) _
theorem bel2 (w : World) (o p : Obj) : Below w.heap.size w ((w.alloc o).alloc p) := ((Below.refl _ _).alloc (Nat.le_refl _) _).alloc (by simp) _
set_option maxRecDepth 100000 in
set_option maxHeartbeats 800000 in
theorem check_any (k : ByteArray) (s d : Int) (w : World) :
    Calls Try.prog 37 #[verV k s d] w fun e w' => e = .returned (.int .i64 (chkI k s d)) ∧ Below w.heap.size w w' := by
  unfold verV
  by_cases h1 : k.size < 1
  · have HV : Hid (chkI k s d = 1) := Lib.hid (chk_no (by unfold okV; omega))
    go_enter Try.func37, Try.ntmps37
    go_wp2
    go_ret
    exact ⟨by rw [HV.out]; rfl, bel1 _ _⟩
  · by_cases h2 : 64 < k.size
    · have HV : Hid (chkI k s d = 1) := Lib.hid (chk_no (by unfold okV; omega))
      go_enter Try.func37, Try.ntmps37
      go_wp2
      go_ret
      exact ⟨by rw [HV.out]; rfl, bel1 _ _⟩
    · by_cases h3 : s < 0
      · have HV : Hid (chkI k s d = 1) := Lib.hid (chk_no (by unfold okV; omega))
        go_enter Try.func37, Try.ntmps37
        go_wp2
        go_ret
        exact ⟨by rw [HV.out]; rfl, bel1 _ _⟩
      · by_cases h4 : 72057594037927935 < s
        · have HV : Hid (chkI k s d = 1) := Lib.hid (chk_no (by unfold okV; omega))
          go_enter Try.func37, Try.ntmps37
          go_wp2
          go_ret
          exact ⟨by rw [HV.out]; rfl, bel1 _ _⟩
        · by_cases h5 : d = 0
          · subst h5
            have HV : Hid (chkI k s 0 = 0) := Lib.hid (chk_yes (by unfold okV; omega))
            go_enter Try.func37, Try.ntmps37
            go_wp2
            go_ret
            exact ⟨by rw [HV.out]; rfl, bel1 _ _⟩
          · by_cases h6 : d = 1
            · subst h6
              have HV : Hid (chkI k s 1 = 0) := Lib.hid (chk_yes (by unfold okV; omega))
              go_enter Try.func37, Try.ntmps37
              go_wp2
              go_ret
              exact ⟨by rw [HV.out]; rfl, bel1 _ _⟩
            · have HV : Hid (chkI k s d = 1) := Lib.hid (chk_no (by unfold okV; omega))
              have q5 : (d != 0) = true := by simpa using h5
              have q6 : (d != 1) = true := by simpa using h6
              go_enter Try.func37, Try.ntmps37
              go_wp2
              go_ret
              exact ⟨by rw [HV.out]; rfl, bel1 _ _⟩
theorem toList_nil_iff (k : ByteArray) : k.toList = [] ↔ k.size = 0 := by
  rw [toList_eq]; constructor
  · intro h
    have := congrArg List.length h
    simpa using this
  · intro h; apply List.eq_nil_of_length_eq_zero; simpa using h
theorem toList_inj' {t u : ByteArray} (h : t.toList = u.toList) : t = u := by
  rw [toList_eq, toList_eq] at h
  exact ByteArray.ext (Array.toList_inj.1 h)
theorem mark_val (s d : Nat) (hs : s ≤ 72057594037927935) (hd : d < 256) :
    bits .or .u64 ((s : Int) * 256) (d : Int) = ((s * 256 + d : Nat) : Int) := by
  have e2 : (s : Int) * 256 = ((s * 256 : Nat) : Int) := by omega
  rw [e2]
  show IntKind.u64.wrap ((BitVec.ofInt 64 ((s * 256 : Nat) : Int) ||| BitVec.ofInt 64 (d : Int)).toNat : Int) = _
  rw [BitVec.toNat_or, BitVec.ofInt_natCast, BitVec.ofInt_natCast, BitVec.toNat_ofNat, BitVec.toNat_ofNat, Nat.mod_eq_of_lt (by omega), Nat.mod_eq_of_lt (by omega), u64_val]
  have e3 : s * 256 ||| d = s * 256 + d := by
    rw [Nat.mul_comm]; exact (Nat.two_pow_add_eq_or_of_lt (i := 8) (show d < 2 ^ 8 by omega) s).symm
  rw [e3]; omega
set_option maxRecDepth 100000 in
set_option maxHeartbeats 800000 in
theorem mark_any (k : ByteArray) (s d : Int) (h : okV k s d) (w : World) :
    Calls Try.prog 38 #[verV k s d] w fun e w' => e = .returned (.int .u64 (markN s d : Int)) ∧ Below w.heap.size w w' := by
  obtain ⟨_, _, h1, h2, h3⟩ := h
  obtain ⟨S, rfl⟩ : ∃ n : Nat, s = n := ⟨s.toNat, by omega⟩
  obtain ⟨D, rfl⟩ : ∃ n : Nat, d = n := ⟨d.toNat, by omega⟩
  have hD : D < 2 := by omega
  have HV := Lib.hid (mark_val S D (by omega) (by omega))
  have HM : Hid (markN S D = S * 256 + D) := Lib.hid (by unfold markN; omega)
  clear h3
  unfold verV
  go_enter Try.func38, Try.ntmps38
  go_wp2
  go_ret
  exact ⟨by rw [HM.out, ← HV.out]; rfl, bel1 _ _⟩
end Go.Proofs.Ytjdnjobaoiecoaa.IK
