/-
  The law VarintPuts, walked.
-/
import Derived.Test.YtakiajapejblkaaVarRP
namespace Go.Proofs.Ytakiajapejblkaa
open Go.RowKit

set_option maxRecDepth 100000 in
set_option maxHeartbeats 400000 in
theorem rFold_any (m : Int) (hm : -9223372036854775808 ≤ m ∧ m ≤ 9223372036854775807) (w : World) :
    Calls Try.prog 14 #[.int .i64 m] w fun e w' => e = .returned (.int .u64 (foldN m : Int)) ∧ w = w' := by
  have HU : Hid ((m < 0 → (foldN m : Int) = -(m + 1) * 2 + 1) ∧ (¬ m < 0 → (foldN m : Int) = m * 2)) := Lib.hid ⟨fun h => by unfold foldN; rw [if_pos h]; omega, fun h => by unfold foldN; rw [if_neg h]; omega⟩
  generalize foldN m = F at *
  by_cases hneg : m < 0
  · have HV := Lib.hid (HU.out.1 hneg)
    clear HU
    go_enter Try.func14, Try.ntmps14
    go_wp2
    go_ret
    exact ⟨by rw [HV.out]; go_num, rfl⟩
  · have HV := Lib.hid (HU.out.2 hneg)
    clear HU
    go_enter Try.func14, Try.ntmps14
    go_wp2
    go_ret
    exact ⟨by rw [HV.out]; go_num, rfl⟩

/-- New bytes that convert to S. -/
def Gives (S : ByteArray) (wx : World) (e : Ending) (w' : World) : Prop :=
  ∃ a len cap, e = .returned (.slice a len cap) ∧ Below wx.heap.size wx w' ∧ ∀ W, Below w'.heap.size w' W → (convert 24 9 (.slice a len cap)).run Try.prog W = .ok (.string S) W
theorem FreshU.gives {w w' : World} {l : List Nat} {e : Ending} (h : FreshU w l e w') (hb : ∀ x ∈ l, x < 256) : Gives (strOf l) w e w' := by
  obtain ⟨v, rfl, hown, hbel⟩ := h
  obtain ⟨a, cap, rfl, hB, hn, _⟩ := byt_of_own hown
  exact ⟨a, _, cap, rfl, hbel, fun W hW => conv_bytes (hB.keep hW) hb hn cap _ rfl⟩

namespace varintPuts
set_option maxRecDepth 100000 in
set_option maxHeartbeats 4000000 in
theorem walk (a0 : Int) (a1 : Int) (a2 : ByteArray) (w0 : (Lit.int .u64 a0).wf = true) (w1 : (Lit.int .i64 a1).wf = true) (w2 : a2.size ≤ 140737488351232) (w : World) :
    Calls Try.prog 3 #[.int .u64 a0, .int .i64 a1, .string a2] w fun e w' => e = .returned (.bool true) ∧ Below w.heap.size w w' := by
  have hr := wf_i64 w1
  obtain ⟨n, rfl, hn⟩ := wf_u64 w0
  have fl := fold_lt a1 hr
  have c1 : Hid (∀ wx, Calls Try.prog 11 #[.int .u64 (n : Int)] wx (Gives (strOf (putL n)) wx)) := Lib.hid (fun wx => (Put_any wx n hn).mono fun _ _ h => h.gives (putL_byte n))
  have c2 := Lib.hid (fun wx => rPut_any (n + 1) n wx (by omega) hn)
  have c3 : Hid (∀ wx, Calls Try.prog 13 #[.int .i64 a1] wx (Gives (strOf (putL (foldN a1))) wx)) := Lib.hid (fun wx => (PutSigned_any wx a1 hr).mono fun _ _ h => h.gives (putL_byte (foldN a1)))
  have c4 := Lib.hid (fun wx => rFold_any a1 hr wx)
  have c5 := Lib.hid (fun wx => rPut_any (foldN a1 + 1) (foldN a1) wx (by omega) fl)
  have c6 : Hid (∀ wx, Calls Try.prog 15 #[.string a2] wx (Gives (strOf (putL a2.size ++ natsOf a2)) wx)) := Lib.hid (fun wx => (PutText_any wx a2 w2).mono fun _ _ h => h.gives (by
    intro x hx
    rcases List.mem_append.1 hx with h | h
    · exact putL_byte _ x h
    · exact natsOf_byte _ x h))
  have c7 := Lib.hid (fun wx => rText_any wx a2 w2)
  clear w0 w1 w2 fl
  generalize foldN a1 = m at *
  generalize strOf (putL n) = S1 at *
  generalize strOf (putL m) = S2 at *
  generalize strOf (putL a2.size ++ natsOf a2) = S3 at *
  go_enter Try.func3, Try.ntmps3
  go_wp2_with fail
  go_region_with (first
    | (go_at_call 10; (with_reducible refine (counts_any _).mono ?_); rintro e x1 ⟨rfl, b1⟩; have B1 : Hid (Below w.heap.size w x1) := Lib.hid (((Below.refl _ w).drew).trans b1); clear b1)
    | (go_at_call 11; (with_reducible refine (c1.out _).mono ?_); rintro e x2 ⟨p2, l2, q2, rfl, b2, k2⟩; have cv2 := k2 x2 (Below.refl _ _); have K2 := Lib.hid k2; have B2 : Hid (Below w.heap.size w x2) := Lib.hid (below_next B1.out b2); clear k2 b2)
    | (go_at_call 13; (with_reducible refine (c3.out _).mono ?_); rintro e x4 ⟨p4, l4, q4, rfl, b4, k4⟩; have cv4 := k4 x4 (Below.refl _ _); have K4 := Lib.hid k4; have B4 : Hid (Below w.heap.size w x4) := Lib.hid (below_next B3.out b4); clear k4 b4)
    | (go_at_call 14; (with_reducible refine (c4.out _).mono ?_); rintro e x9 ⟨rfl, rfl⟩)
    | (go_at_call 12; (with_reducible refine (c2.out _).mono ?_); rintro e x3 ⟨rfl, b3⟩; have cv3 := K2.out x3 b3; have B3 : Hid (Below w.heap.size w x3) := Lib.hid (below_next B2.out b3); clear b3)
    | (go_at_call 12; (with_reducible refine (c5.out _).mono ?_); rintro e x5 ⟨rfl, b5⟩; have cv5 := K4.out x5 b5; have B5 : Hid (Below w.heap.size w x5) := Lib.hid (below_next B4.out b5); clear b5)
    | (go_at_call 15; (with_reducible refine (c6.out _).mono ?_); rintro e x6 ⟨p6, l6, q6, rfl, b6, k6⟩; have cv6 := k6 x6 (Below.refl _ _); have K6 := Lib.hid k6; have B6 : Hid (Below w.heap.size w x6) := Lib.hid (below_next B5.out b6); clear k6 b6)
    | (go_at_call 16; (with_reducible refine (c7.out _).mono ?_); rintro e x7 ⟨rfl, b7⟩; have cv7 := K6.out x7 b7; have B7 : Hid (Below w.heap.size w x7) := Lib.hid (below_next B6.out b7); clear b7))
  all_goals
    go_wp2
    go_ret
    exact ⟨rfl, B7.out⟩
end varintPuts
end Go.Proofs.Ytakiajapejblkaa
