/-
  What keyed answers; the law IkeyOrders, walked.
-/
import Derived.Test.YtaeilfpaaogllaaIkPart
namespace Go.Proofs.Ytaeilfpaaogllaa
open Go.RowKit

theorem FreshE.conv {w w' : World} {L : List Nat} {E : Int} {e : Ending} (h : FreshE w L E e w') (hb : ∀ x ∈ L, x < 256) :
    ∃ a cap, e = .returned (.tuple #[.slice a L.length cap, .int .i64 E]) ∧ L.length ≤ cap ∧ Below w.heap.size w w' ∧ Byt w' a L ∧ (a = none → L = []) ∧ ∀ wx, Below w'.heap.size w' wx → (convert 24 9 (.slice a L.length cap)).run Try.prog wx = .ok (.string (strOf L)) wx := by
  obtain ⟨a, cap, rfl, h1, h2, h3, h4⟩ := h
  exact ⟨a, cap, rfl, h3, h4, h1, h2, fun wx hx => conv_bytes (h1.keep hx) hb h2 cap L.length rfl⟩
theorem kstr1 : natsOf ⟨#[97, 98, 99, 100]⟩ = [97, 98, 99, 100] := rfl
theorem kstr2 : natsOf ⟨#[97, 98, 122]⟩ = [97, 98, 122] := rfl
theorem part_ex : partS [97, 98, 99, 100] [97, 98, 122] = [97, 98, 100] := by
  have e : partS [97, 98, 99, 100] [97, 98, 122] = partF [97, 98, 99, 100] [97, 98, 122] 2 := by
    unfold partS; rw [if_pos (by decide)]; rfl
  rw [e]; unfold partF
  rw [if_pos (by decide), if_neg (by decide), if_pos (by decide)]; rfl
set_option maxRecDepth 100000 in
set_option maxHeartbeats 400000 in
theorem keyed_any (w : World) : Calls Try.prog 14 #[] w fun e w' => e = .returned (.bool true) ∧ Below w.heap.size w w' := by
  have HE : Hid (∀ wx, Calls Try.prog 11 #[.agg #[.string ⟨#[97]⟩, .int .i64 1, .int .i64 1]] wx (FreshE wx [97, 1, 1, 0, 0, 0, 0, 0, 0] 0)) := Lib.hid (fun wx => by
    have h := encode_any ⟨#[97]⟩ 1 1 wx
    rw [show encR ⟨#[97]⟩ 1 1 = [97, 1, 1, 0, 0, 0, 0, 0, 0] from rfl, show chkI ⟨#[97]⟩ 1 1 = 0 from rfl] at h
    exact h)
  have HP : Hid (∀ wx, Calls Try.prog 23 #[.string ⟨#[97, 98, 99, 100]⟩, .string ⟨#[97, 98, 122]⟩] wx fun e w' => e = .returned (.string ⟨#[97, 98, 100]⟩) ∧ Below wx.heap.size wx w') := Lib.hid (fun wx => by
    have h := part_any ⟨#[97, 98, 99, 100]⟩ ⟨#[97, 98, 122]⟩ (by decide) wx
    rw [kstr1, kstr2, part_ex] at h
    exact h)
  go_enter Try.func14, Try.ntmps14
  go_wp2_with fail
  refine (HE.out _).mono ?_
  rintro e w1 hF
  obtain ⟨a1, cap1, rfl, hlen, hb1, -, -, hcv⟩ := hF.conv (by simp)
  rw [show ([97, 1, 1, 0, 0, 0, 0, 0, 0] : List Nat).length = 9 from rfl] at hcv ⊢
  have hc1 := hcv w1 (Below.refl _ _)
  have HB1 := Lib.hid hb1
  have hse : (strOf [97, 1, 1, 0, 0, 0, 0, 0, 0]).toList = [97, 1, 1, 0, 0, 0, 0, 0, 0] := by rw [toList_eq]; rfl
  have hse2 : (⟨#[97, 98, 100]⟩ : ByteArray).toList = [97, 98, 100] := by rw [toList_eq]
  generalize strOf [97, 1, 1, 0, 0, 0, 0, 0, 0] = S at *
  clear hF hlen hb1 hcv
  go_wp2_with fail
  refine (HP.out _).mono ?_
  rintro e w2 ⟨rfl, hb2⟩
  have HB2 := Lib.hid hb2
  clear hb2
  go_wp2
  go_ret
  exact ⟨rfl, HB1.out.trans (HB2.out.mono HB1.out.size)⟩
end Go.Proofs.Ytaeilfpaaogllaa
