/-
  The law BloomAsks, walked.
-/
import Derived.Test.YtfgcdmgbgadkgaaBlRMrg
import Derived.Test.YtfgcdmgbgadkgaaBlFrame
namespace Go.Proofs.Ytfgcdmgbgadkgaa
open Go.RowKit

/-- A region that draws its order, whose operations and callees give one value each in every world that has grown from W. -/
theorem wp_region_grown {P : Program} {id : Nat} {Q : Exit → Act → World → Prop} {a : Act} {w : World} {l : List Oper} (hm : P.follows .mixedOrders = true) (hB : Region.lexB .any l.toArray = true)
    (h : wpQuiet P l.toArray (fun w' => ∃ x : {x : World // Below w.heap.size w x}, w' = x.val) (fun a' => ∀ w', (∃ x : {x : World // Below w.heap.size w x}, w' = x.val) → Q .normal a' w') l a) : (Code.region id l.toArray true).wp P Q a w :=
  wp_region_quiet (C := fun w' => ∃ x : {x : World // Below w.heap.size w x}, w' = x.val) hm hB ⟨⟨w.drew, (Below.refl _ w).drew⟩, rfl⟩ (by simpa using h)
theorem sq_same (s : ByteArray) : (s.toList == s.toList) = true := by simp
theorem bigA (w : World) (a0 a1 : Option Addr) (len0 cap0 len1 cap1 : Nat) (key : ByteArray) (h : 1048576 < len0 ∨ 1048576 < len1) :
    Calls Try.prog 5 #[.slice a0 len0 cap0, .slice a1 len1 cap1, .string key] w fun e w' => e = .returned (.bool true) ∧ Below w.heap.size w w' := by
  by_cases h0 : 1048576 < len0
  · clear h
    go_enter Try.func5, Try.ntmps5
    go_wp2_with fail
    refine (blooms_any _).mono ?_
    rintro e w1 ⟨rfl, hb1⟩
    have B1 := Lib.hid hb1
    clear hb1
    go_wp2
    go_ret
    exact ⟨rfl, B1.out⟩
  · have h1 : 1048576 < len1 := by omega
    clear h
    go_enter Try.func5, Try.ntmps5
    go_wp2_with fail
    refine (blooms_any _).mono ?_
    rintro e w1 ⟨rfl, hb1⟩
    have B1 := Lib.hid hb1
    clear hb1
    go_wp2
    go_ret
    exact ⟨rfl, B1.out⟩
namespace bloomAsks
set_option maxRecDepth 100000 in
set_option maxHeartbeats 1600000 in
theorem walk (a0 : Option Addr) (len0 cap0 : Nat) (z0 : List Int) (a1 : Option Addr) (len1 cap1 : Nat) (z1 : List Int) (key : ByteArray) (w : World) (w0 : IsRow .u8 w a0 len0 cap0 z0) (w1 : IsRow .u8 w a1 len1 cap1 z1) (w2 : key.size ≤ maxLen) :
    Calls Try.prog 5 #[.slice a0 len0 cap0, .slice a1 len1 cap1, .string key] w fun e w' => e = .returned (.bool true) ∧ Below w.heap.size w w' := by
  by_cases hbig : 1048576 < len0 ∨ 1048576 < len1
  · exact bigA w a0 a1 len0 cap0 len1 cap1 key hbig
  obtain ⟨x, hxn, hx, hxb, hc0, -, hxnil⟩ := w0.byt
  obtain ⟨y, hyn, hy, hyb, hc1, -, hynil⟩ := w1.byt
  have hks : key.size ≤ 9223372036854775807 := by unfold maxLen at w2; omega
  have HC0 : Hid (∀ wx, Below w.heap.size w wx → (convert 30 9 (.slice a0 len0 cap0)).run Try.prog wx = .ok (.string (strOf x)) wx) := Lib.hid (fun wx h => conv_bytes (hx.keep h) hxb hxnil cap0 len0 hxn)
  have HC1 : Hid (∀ wx, Below w.heap.size w wx → (convert 30 9 (.slice a1 len1 cap1)).run Try.prog wx = .ok (.string (strOf y)) wx) := Lib.hid (fun wx h => conv_bytes (hy.keep h) hyb hynil cap1 len1 hyn)
  have HDM : Hid (∀ wx, Calls Try.prog 15 #[.string (strOf x), .string (strOf y)] wx (DocS wx (mergeR x y) (mergeE x y))) := Lib.hid (fun wx => by
    have h := docMerge_any (strOf x) (strOf y) (by rw [strOf_size]; omega) (by rw [strOf_size]; omega) wx
    rwa [natsOf_strOf hxb, natsOf_strOf hyb] at h)
  have HME : Hid (∀ wx, Below w.heap.size w wx → Calls Try.prog 16 #[.slice a0 len0 cap0, .slice a1 len1 cap1] wx (FreshE wx (mergeR x y) (mergeE x y))) := Lib.hid (fun wx h => merge_any wx a0 a1 cap0 cap1 len0 len1 x y hxn (hx.keep h) hxb (by omega) hyn (hy.keep h) hyb (by omega) hc1)
  have HM0 : Hid (∀ wx, Below w.heap.size w wx → Calls Try.prog 17 #[.slice a0 len0 cap0, .string key] wx fun e w' => e = .returned (.bool (mayB x (hashN (natsOf key)))) ∧ Below wx.heap.size wx w') := Lib.hid (fun wx h => may_any wx a0 cap0 len0 x hxn (hx.keep h) hxb (by omega) key hks)
  have HM1 : Hid (∀ wx, Below w.heap.size w wx → Calls Try.prog 17 #[.slice a1 len1 cap1, .string key] wx fun e w' => e = .returned (.bool (mayB y (hashN (natsOf key)))) ∧ Below wx.heap.size wx w') := Lib.hid (fun wx h => may_any wx a1 cap1 len1 y hyn (hy.keep h) hyb (by omega) key hks)
  have HD0 : Hid (∀ wx, Calls Try.prog 18 #[.string (strOf x), .string key] wx fun e w' => e = .returned (.bool (mayB x (hashN (natsOf key)))) ∧ Below wx.heap.size wx w') := Lib.hid (fun wx => by
    have h := docMay_any (strOf x) (by rw [strOf_size]; omega) key hks wx
    rwa [natsOf_strOf hxb] at h)
  have HD1 : Hid (∀ wx, Calls Try.prog 18 #[.string (strOf y), .string key] wx fun e w' => e = .returned (.bool (mayB y (hashN (natsOf key)))) ∧ Below wx.heap.size wx w') := Lib.hid (fun wx => by
    have h := docMay_any (strOf y) (by rw [strOf_size]; omega) key hks wx
    rwa [natsOf_strOf hyb] at h)
  have HRB := Lib.hid (mergeR_byte hxb hyb)
  clear hx hy hxb hyb hxnil hynil hxn hyn hc0 hc1
  generalize mayB x (hashN (natsOf key)) = m0 at *
  generalize mayB y (hashN (natsOf key)) = m1 at *
  generalize strOf x = SX at *
  generalize strOf y = SY at *
  generalize mergeR x y = R at *
  generalize mergeE x y = E at *
  have hc0 := HC0.out w (Below.refl _ _)
  have hc1 := HC1.out w (Below.refl _ _)
  have hl0 : decide ((1048576 : Int) < (len0 : Int)) = false := by simp; omega
  have hl1 : decide ((1048576 : Int) < (len1 : Int)) = false := by simp; omega
  go_enter Try.func5, Try.ntmps5
  go_wp2_with fail
  refine (HDM.out _).mono ?_
  rintro e v1 ⟨rfl, hb1⟩
  have B1 := Lib.hid hb1
  clear hb1 hc0 hc1 hl0 hl1
  go_wp2_with fail
  refine (HME.out _ B1.out).mono ?_
  rintro e v2 hF
  obtain ⟨am, cm, rfl, -, hb2, -, -, hcv⟩ := hF.conv HRB.out
  have B2 := Lib.hid (B1.out.trans (hb2.mono B1.out.size))
  have HCV := Lib.hid hcv
  clear hF hb2 hcv HDM HME
  generalize R.length = nr at *
  generalize strOf R = SR at *
  have q1 := sq_same SR
  have q2 : (E == E) = true := by simp
  have q3 : (m0 == m0) = true := by simp
  have q4 : (m1 == m1) = true := by simp
  have cB : Hid (∀ wx, Below v2.heap.size v2 wx → Calls Try.prog 10 #[] wx fun e w'' => e = .returned (.bool true) ∧ Below v2.heap.size v2 w'') := Lib.hid (fun wx hx => (blooms_any wx).mono fun _ _ ⟨he, hb⟩ => ⟨he, hx.trans (hb.mono hx.size)⟩)
  have cM0 : Hid (∀ wx, Below v2.heap.size v2 wx → Calls Try.prog 17 #[.slice a0 len0 cap0, .string key] wx fun e w'' => e = .returned (.bool m0) ∧ Below v2.heap.size v2 w'') := Lib.hid (fun wx hx => (HM0.out wx (B2.out.trans (hx.mono B2.out.size))).mono fun _ _ ⟨he, hb⟩ => ⟨he, hx.trans (hb.mono hx.size)⟩)
  have cM1 : Hid (∀ wx, Below v2.heap.size v2 wx → Calls Try.prog 17 #[.slice a1 len1 cap1, .string key] wx fun e w'' => e = .returned (.bool m1) ∧ Below v2.heap.size v2 w'') := Lib.hid (fun wx hx => (HM1.out wx (B2.out.trans (hx.mono B2.out.size))).mono fun _ _ ⟨he, hb⟩ => ⟨he, hx.trans (hb.mono hx.size)⟩)
  have cD0 : Hid (∀ wx, Below v2.heap.size v2 wx → Calls Try.prog 18 #[.string SX, .string key] wx fun e w'' => e = .returned (.bool m0) ∧ Below v2.heap.size v2 w'') := Lib.hid (fun wx hx => (HD0.out wx).mono fun _ _ ⟨he, hb⟩ => ⟨he, hx.trans (hb.mono hx.size)⟩)
  have cD1 : Hid (∀ wx, Below v2.heap.size v2 wx → Calls Try.prog 18 #[.string SY, .string key] wx fun e w'' => e = .returned (.bool m1) ∧ Below v2.heap.size v2 w'') := Lib.hid (fun wx hx => (HD1.out wx).mono fun _ _ ⟨he, hb⟩ => ⟨he, hx.trans (hb.mono hx.size)⟩)
  have HE0 : Hid (∀ wx, Below v2.heap.size v2 wx → (convert 30 9 (.slice a0 len0 cap0)).run Try.prog wx = .ok (.string SX) wx) := Lib.hid (fun wx hx => HC0.out wx (B2.out.trans (hx.mono B2.out.size)))
  have HE1 : Hid (∀ wx, Below v2.heap.size v2 wx → (convert 30 9 (.slice a1 len1 cap1)).run Try.prog wx = .ok (.string SY) wx) := Lib.hid (fun wx hx => HC1.out wx (B2.out.trans (hx.mono B2.out.size)))
  go_wp2_with fail
  refine wp_region_grown (by kernel_rfl) (by kernel_rfl) ?_
  repeat (first
    | go_big_quiet_skip
    | (go_big_quiet_want; go_big_quiet_op; first
        | go_big_quiet_on
        | (apply Exists.intro; refine ⟨fun _ _ => rfl, ?_⟩; go_big_quiet_on)
        | (apply Exists.intro; refine ⟨fun _ hx => ⟨rfl, hx⟩, ?_⟩; go_big_quiet_on)
        | (apply Exists.intro; refine ⟨by intro wx hx; first | (rw [HE0.out wx hx]; exact ⟨rfl, rfl⟩) | (rw [HE1.out wx hx]; exact ⟨rfl, rfl⟩) | (rw [HCV.out wx hx]; exact ⟨rfl, rfl⟩), ?_⟩; go_big_quiet_on)
        | (apply Exists.intro; refine ⟨by with_reducible first | exact cB.out | exact cM0.out | exact cM1.out | exact cD0.out | exact cD1.out, ?_⟩; go_big_quiet_on)))
  refine wpQuiet_nil ?_
  rintro wz ⟨xz, hxz⟩
  have HZ : Hid (Below v2.heap.size v2 wz) := Lib.hid (hxz ▸ xz.2)
  clear hxz xz
  go_wp2
  go_ret
  exact ⟨rfl, B2.out.trans (HZ.out.mono B2.out.size)⟩
end bloomAsks
end Go.Proofs.Ytfgcdmgbgadkgaa
