/-
  What Check, Right, Less and mark answer.
-/
import Derived.Test.YtaeilfpaaogllaaIkPure
namespace Go.Proofs.Ytaeilfpaaogllaa
open Go.RowKit

theorem size_ne {k : ByteArray} : (k = ⟨#[]⟩) ↔ k.size = 0 := by
  constructor
  · rintro rfl; rfl
  · intro h; apply ByteArray.ext; exact Array.eq_empty_of_size_eq_zero h
def chkI (k : ByteArray) (s d : Int) : Int := if okV k s d then 0 else 1
theorem chk_yes {k : ByteArray} {s d : Int} (h : okV k s d) : chkI k s d = 0 := if_pos h
theorem chk_no {k : ByteArray} {s d : Int} (h : ¬ okV k s d) : chkI k s d = 1 := if_neg h
theorem bel1 (w : World) (o : Obj) : Below w.heap.size w (w.alloc o) := (Below.refl _ _).alloc (Nat.le_refl _) _
theorem bel2 (w : World) (o p : Obj) : Below w.heap.size w ((w.alloc o).alloc p) := ((Below.refl _ _).alloc (Nat.le_refl _) _).alloc (by simp) _
set_option maxRecDepth 100000 in
set_option maxHeartbeats 800000 in
theorem check_any (k : ByteArray) (s d : Int) (w : World) :
    Calls Try.prog 15 #[verV k s d] w fun e w' => e = .returned (.int .i64 (chkI k s d)) ∧ Below w.heap.size w w' := by
  unfold verV
  by_cases h1 : k.size < 1
  · have HV : Hid (chkI k s d = 1) := Lib.hid (chk_no (by unfold okV; omega))
    go_enter Try.func15, Try.ntmps15
    go_wp2
    go_ret
    exact ⟨by rw [HV.out]; rfl, bel1 _ _⟩
  · by_cases h2 : 64 < k.size
    · have HV : Hid (chkI k s d = 1) := Lib.hid (chk_no (by unfold okV; omega))
      go_enter Try.func15, Try.ntmps15
      go_wp2
      go_ret
      exact ⟨by rw [HV.out]; rfl, bel1 _ _⟩
    · by_cases h3 : s < 0
      · have HV : Hid (chkI k s d = 1) := Lib.hid (chk_no (by unfold okV; omega))
        go_enter Try.func15, Try.ntmps15
        go_wp2
        go_ret
        exact ⟨by rw [HV.out]; rfl, bel1 _ _⟩
      · by_cases h4 : 72057594037927935 < s
        · have HV : Hid (chkI k s d = 1) := Lib.hid (chk_no (by unfold okV; omega))
          go_enter Try.func15, Try.ntmps15
          go_wp2
          go_ret
          exact ⟨by rw [HV.out]; rfl, bel1 _ _⟩
        · by_cases h5 : d = 0
          · subst h5
            have HV : Hid (chkI k s 0 = 0) := Lib.hid (chk_yes (by unfold okV; omega))
            go_enter Try.func15, Try.ntmps15
            go_wp2
            go_ret
            exact ⟨by rw [HV.out]; rfl, bel1 _ _⟩
          · by_cases h6 : d = 1
            · subst h6
              have HV : Hid (chkI k s 1 = 0) := Lib.hid (chk_yes (by unfold okV; omega))
              go_enter Try.func15, Try.ntmps15
              go_wp2
              go_ret
              exact ⟨by rw [HV.out]; rfl, bel1 _ _⟩
            · have HV : Hid (chkI k s d = 1) := Lib.hid (chk_no (by unfold okV; omega))
              have q5 : (d != 0) = true := by simpa using h5
              have q6 : (d != 1) = true := by simpa using h6
              go_enter Try.func15, Try.ntmps15
              go_wp2
              go_ret
              exact ⟨by rw [HV.out]; rfl, bel1 _ _⟩
theorem toList_nil_iff (k : ByteArray) : k.toList = [] ↔ k.size = 0 := by
  rw [toList_eq]; constructor
  · intro h
    have := congrArg List.length h
    simpa using this
  · intro h; apply List.eq_nil_of_length_eq_zero; simpa using h
set_option maxRecDepth 100000 in
set_option maxHeartbeats 800000 in
theorem right_any (k : ByteArray) (s d : Int) (w : World) :
    Calls Try.prog 16 #[verV k s d] w fun e w' => e = .returned (.bool (decide (okV k s d))) ∧ Below w.heap.size w w' := by
  unfold verV
  have HN := Lib.hid (toList_nil_iff k)
  have h0 : (⟨#[]⟩ : ByteArray).toList = [] := by rw [toList_eq]
  by_cases h1 : k.size = 0
  · have hk : (k.toList == ([] : List UInt8)) = true := by rw [HN.out.2 h1]; rfl
    have HV : Hid (decide (okV k s d) = false) := Lib.hid (by unfold okV; apply decide_eq_false; omega)
    go_enter Try.func16, Try.ntmps16
    go_wp2
    go_ret
    exact ⟨by rw [HV.out]; rfl, bel1 _ _⟩
  · have hk : (k.toList == ([] : List UInt8)) = false := by
      cases e : k.toList with
      | nil => exact absurd (HN.out.1 e) h1
      | cons a l => rfl
    by_cases h2 : 64 < k.size
    · have HV : Hid (decide (okV k s d) = false) := Lib.hid (by unfold okV; apply decide_eq_false; omega)
      go_enter Try.func16, Try.ntmps16
      go_wp2
      go_ret
      exact ⟨by rw [HV.out]; rfl, bel1 _ _⟩
    · by_cases h3 : s < 0
      · have HV : Hid (decide (okV k s d) = false) := Lib.hid (by unfold okV; apply decide_eq_false; omega)
        go_enter Try.func16, Try.ntmps16
        go_wp2
        go_ret
        exact ⟨by rw [HV.out]; rfl, bel1 _ _⟩
      · by_cases h4 : 72057594037927935 < s
        · have HV : Hid (decide (okV k s d) = false) := Lib.hid (by unfold okV; apply decide_eq_false; omega)
          go_enter Try.func16, Try.ntmps16
          go_wp2
          go_ret
          exact ⟨by rw [HV.out]; rfl, bel1 _ _⟩
        · by_cases h5 : d = 0
          · subst h5
            have HV : Hid (decide (okV k s 0) = true) := Lib.hid (by unfold okV; apply decide_eq_true; omega)
            go_enter Try.func16, Try.ntmps16
            go_wp2
            go_ret
            exact ⟨by rw [HV.out]; rfl, bel1 _ _⟩
          · by_cases h6 : d = 1
            · subst h6
              have HV : Hid (decide (okV k s 1) = true) := Lib.hid (by unfold okV; apply decide_eq_true; omega)
              go_enter Try.func16, Try.ntmps16
              go_wp2
              go_ret
              exact ⟨by rw [HV.out]; rfl, bel1 _ _⟩
            · have HV : Hid (decide (okV k s d) = false) := Lib.hid (by unfold okV; apply decide_eq_false; omega)
              have q5 : (d == 0) = false := by simpa using h5
              have q6 : (d == 1) = false := by simpa using h6
              go_enter Try.func16, Try.ntmps16
              go_wp2
              go_ret
              exact ⟨by rw [HV.out]; rfl, bel1 _ _⟩
theorem toList_inj' {t u : ByteArray} (h : t.toList = u.toList) : t = u := by
  rw [toList_eq, toList_eq] at h
  exact ByteArray.ext (Array.toList_inj.1 h)
set_option maxRecDepth 100000 in
set_option maxHeartbeats 800000 in
theorem less_any (k : ByteArray) (s d : Int) (k' : ByteArray) (s' d' : Int) (w : World) :
    Calls Try.prog 21 #[verV k s d, verV k' s' d'] w fun e w' => e = .returned (.bool (lessB k s d k' s' d')) ∧ Below w.heap.size w w' := by
  unfold verV
  by_cases h1 : k = k'
  · subst h1
    by_cases h2 : s = s'
    · subst h2
      have HV : Hid (lessB k s d k s d' = decide (d' < d)) := Lib.hid (by unfold lessB; rw [if_pos rfl, if_pos rfl])
      go_enter Try.func21, Try.ntmps21
      go_wp2
      go_ret
      exact ⟨by rw [HV.out]; rfl, bel2 _ _ _⟩
    · have q : (s != s') = true := by simpa using h2
      have HV : Hid (lessB k s d k s' d' = decide (s' < s)) := Lib.hid (by unfold lessB; rw [if_pos rfl, if_neg h2])
      go_enter Try.func21, Try.ntmps21
      go_wp2
      go_ret
      exact ⟨by rw [HV.out]; rfl, bel2 _ _ _⟩
  · have q : (k.toList == k'.toList) = false := by
      rw [beq_eq_false_iff_ne]; exact fun e => h1 (toList_inj' e)
    have HV : Hid (lessB k s d k' s' d' = Op.bytesLess k.toList k'.toList) := Lib.hid (by unfold lessB; rw [if_neg h1])
    go_enter Try.func21, Try.ntmps21
    go_wp2
    go_ret
    exact ⟨by rw [HV.out]; rfl, bel2 _ _ _⟩
set_option maxRecDepth 100000 in
set_option maxHeartbeats 800000 in
theorem rless_any (k : ByteArray) (s d : Int) (k' : ByteArray) (s' d' : Int) (w : World) :
    Calls Try.prog 22 #[verV k s d, verV k' s' d'] w fun e w' => e = .returned (.bool (lessB k s d k' s' d')) ∧ Below w.heap.size w w' := by
  unfold verV
  by_cases h1 : k = k'
  · subst h1
    by_cases h2 : s = s'
    · subst h2
      have HV : Hid (lessB k s d k s d' = decide (d' < d)) := Lib.hid (by unfold lessB; rw [if_pos rfl, if_pos rfl])
      go_enter Try.func22, Try.ntmps22
      go_wp2
      go_ret
      exact ⟨by rw [HV.out]; rfl, bel2 _ _ _⟩
    · have q : (s != s') = true := by simpa using h2
      have HV : Hid (lessB k s d k s' d' = decide (s' < s)) := Lib.hid (by unfold lessB; rw [if_pos rfl, if_neg h2])
      go_enter Try.func22, Try.ntmps22
      go_wp2
      go_ret
      exact ⟨by rw [HV.out]; rfl, bel2 _ _ _⟩
  · have q : (k.toList == k'.toList) = false := by
      rw [beq_eq_false_iff_ne]; exact fun e => h1 (toList_inj' e)
    have HV : Hid (lessB k s d k' s' d' = Op.bytesLess k.toList k'.toList) := Lib.hid (by unfold lessB; rw [if_neg h1])
    go_enter Try.func22, Try.ntmps22
    go_wp2
    go_ret
    exact ⟨by rw [HV.out]; rfl, bel2 _ _ _⟩
theorem mark_val (s d : Nat) (hs : s ≤ 72057594037927935) (hd : d < 256) :
    bits .or .u64 ((s : Int) * 256) (d : Int) = ((s * 256 + d : Nat) : Int) := by
  have e2 : (s : Int) * 256 = ((s * 256 : Nat) : Int) := by omega
  rw [e2]
  show IntKind.u64.wrap ((BitVec.ofInt 64 ((s * 256 : Nat) : Int) ||| BitVec.ofInt 64 (d : Int)).toNat : Int) = _
  rw [BitVec.toNat_or, BitVec.ofInt_natCast, BitVec.ofInt_natCast, BitVec.toNat_ofNat, BitVec.toNat_ofNat, Nat.mod_eq_of_lt (by omega), Nat.mod_eq_of_lt (by omega), u64_val]
  have e3 : s * 256 ||| d = s * 256 + d := by
    rw [Nat.mul_comm]; exact (Nat.two_pow_add_eq_or_of_lt (i := 8) (show d < 2 ^ 8 by omega) s).symm
  rw [e3]; omega
set_option maxRecDepth 100000 in
set_option maxHeartbeats 800000 in
theorem mark_any (k : ByteArray) (s d : Int) (h : okV k s d) (w : World) :
    Calls Try.prog 25 #[verV k s d] w fun e w' => e = .returned (.int .u64 (markN s d : Int)) ∧ Below w.heap.size w w' := by
  obtain ⟨_, _, h1, h2, h3⟩ := h
  obtain ⟨S, rfl⟩ : ∃ n : Nat, s = n := ⟨s.toNat, by omega⟩
  obtain ⟨D, rfl⟩ : ∃ n : Nat, d = n := ⟨d.toNat, by omega⟩
  have hD : D < 2 := by omega
  have HV := Lib.hid (mark_val S D (by omega) (by omega))
  have HM : Hid (markN S D = S * 256 + D) := Lib.hid (by unfold markN; omega)
  clear h3
  unfold verV
  go_enter Try.func25, Try.ntmps25
  go_wp2
  go_ret
  exact ⟨by rw [HM.out, ← HV.out]; rfl, bel1 _ _⟩
end Go.Proofs.Ytaeilfpaaogllaa
