/-
  The law BloomBuilds, walked.
-/
import Derived.Test.YtfgcdmgbgadkgaaBlRBld
import Derived.Test.YtfgcdmgbgadkgaaBlFrame
namespace Go.Proofs.Ytfgcdmgbgadkgaa
open Go.RowKit
theorem seq_same (s : ByteArray) : (s.toList == s.toList) = true := by simp
namespace bloomBuilds
set_option maxRecDepth 100000 in
set_option maxHeartbeats 800000 in
theorem walk (a0 : Option Addr) (len0 cap0 : Nat) (ss : List ByteArray) (bits : Int) (w : World) (w0 : IsStrs w a0 len0 cap0 ss) (_w1 : (Lit.int .i64 bits).wf = true) :
    Calls Try.prog 4 #[.slice a0 len0 cap0, .int .i64 bits] w fun e w' => e = .returned (.bool true) ∧ Below w.heap.size w w' := by
  obtain ⟨hn, hs, hcap, hsz⟩ := w0
  by_cases hbig : 3000 < len0
  · clear hn hs hcap hsz
    go_enter Try.func4, Try.ntmps4
    go_wp2_with fail
    refine (blooms_any _).mono ?_
    rintro e w1 ⟨rfl, hb1⟩
    have B1 := Lib.hid hb1
    clear hb1
    go_wp2
    go_ret
    exact ⟨rfl, B1.out⟩
  · have H1 : Hid (∀ wx, Below w.heap.size w wx → Calls Try.prog 13 #[.slice a0 len0 cap0, .int .i64 bits] wx (DocS wx (buildR (ss.map natsOf) bits) (buildE bits))) := Lib.hid (fun wx h => docBuild_any wx a0 cap0 len0 ss hn (hs.keep h) hsz (by omega) bits)
    have H2 : Hid (∀ wx, Below w.heap.size w wx → Calls Try.prog 14 #[.slice a0 len0 cap0, .int .i64 bits] wx (FreshE wx (buildR (ss.map natsOf) bits) (buildE bits))) := Lib.hid (fun wx h => build_any wx a0 cap0 len0 ss hn (hs.keep h) hsz (by omega) bits)
    have HB := Lib.hid (buildR_byte (ss.map natsOf) bits)
    generalize buildR (ss.map natsOf) bits = L at *
    generalize buildE bits = E at *
    clear hn hs hcap hsz
    go_enter Try.func4, Try.ntmps4
    go_wp2_with fail
    refine (H1.out _ (Below.refl _ _)).mono ?_
    rintro e w1 ⟨rfl, hb1⟩
    have B1 := Lib.hid hb1
    clear hb1
    go_wp2_with fail
    refine (H2.out _ B1.out).mono ?_
    rintro e w2 hF
    obtain ⟨a, cap, rfl, -, hb2, -, -, hcv⟩ := hF.conv HB.out
    have B2 := Lib.hid (B1.out.trans (hb2.mono B1.out.size))
    have HC := Lib.hid hcv
    clear hF hb2 hcv
    go_wp2_with fail
    refine (blooms_any _).mono ?_
    rintro e w3 ⟨rfl, hb3⟩
    have hc := HC.out w3 hb3
    have B3 := Lib.hid (B2.out.trans (hb3.mono B2.out.size))
    have q1 := seq_same (strOf L)
    have q2 : (E == E) = true := by simp
    clear hb3
    generalize strOf L = SL at *
    generalize L.length = n at *
    go_wp2
    go_ret
    exact ⟨rfl, B3.out⟩
end bloomBuilds
end Go.Proofs.Ytfgcdmgbgadkgaa
