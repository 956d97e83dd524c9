/-
  What blooms answers; the laws BloomYes, BloomMerges: plain parts.
-/
import Derived.Test.YtfgcdmgbgadkgaaBlW5
namespace Go.Proofs.Ytfgcdmgbgadkgaa
open Go.RowKit

theorem FreshE.conv {w w' : World} {L : List Nat} {E : Int} {e : Ending} (h : FreshE w L E e w') (hb : ∀ x ∈ L, x < 256) :
    ∃ a cap, e = .returned (.tuple #[.slice a L.length cap, .int .i64 E]) ∧ L.length ≤ cap ∧ Below w.heap.size w w' ∧ Byt w' a L ∧ (a = none → L = []) ∧ ∀ wx, Below w'.heap.size w' wx → (convert 30 9 (.slice a L.length cap)).run Try.prog wx = .ok (.string (strOf L)) wx := by
  obtain ⟨a, cap, rfl, h1, h2, h3, h4⟩ := h
  exact ⟨a, cap, rfl, h3, h4, h1, h2, fun wx hx => conv_bytes (h1.keep hx) hb h2 cap L.length rfl⟩
theorem buildR_byte (ks : List (List Nat)) (bits : Int) : ∀ x ∈ buildR ks bits, x < 256 := by
  unfold buildR; split
  · exact buildL_byte _ _
  · simp
theorem build0 : buildR [] 10 = [0, 0, 0, 0, 0, 0, 0, 0, 6] := by decide +kernel
theorem may0 : mayB [0, 0, 0, 0, 0, 0, 0, 0, 6] (hashN [97]) = false := by decide +kernel
theorem build_last (ks : List (List Nat)) (B : Nat) : (buildL ks B).getD ((buildL ks B).length - 1) 0 = cntOf B := by
  rw [buildL_length]
  unfold buildL
  rw [List.getD_eq_getElem?_getD, List.getElem?_append_right (by simp)]; simp
theorem build_form (ks : List (List Nat)) (B : Nat) (hk : ks.length ≤ 100000) (hB : B ≤ 64) : formB (buildL ks B) = true := by
  unfold formB
  have h1 := cntOf_le B
  have h2 := sizOf_le ks.length B hk hB
  rw [build_last, buildL_length]
  simp; omega
theorem may_build (ks : List (List Nat)) (B : Nat) (hk : ks.length ≤ 100000) (hB : B ≤ 64) (k : List Nat) : mayB (buildL ks B) (hashN k) = (probesOf (hashN k) (cntOf B) (8 * sizOf ks.length B)).all (hasP (allP ks (cntOf B) (8 * sizOf ks.length B))) := by
  unfold mayB
  have h2 := sizOf_le ks.length B hk hB
  rw [build_form ks B hk hB, build_last, buildL_length, Nat.add_sub_cancel, Bool.not_true, Bool.false_or]
  rw [Bool.eq_iff_iff, List.all_eq_true, List.all_eq_true]
  have key : ∀ p ∈ probesOf (hashN k) (cntOf B) (8 * sizOf ks.length B), bitL (buildL ks B) p = hasP (allP ks (cntOf B) (8 * sizOf ks.length B)) p := by
    intro p hp
    unfold probesOf at hp
    obtain ⟨i, _, rfl⟩ := List.mem_map.1 hp
    exact bitL_map _ _ _ _ (probeN_lt _ _ _ (by omega))
  exact ⟨fun h p hp => by rw [← key p hp]; exact h p hp, fun h p hp => by rw [key p hp]; exact h p hp⟩
theorem may_member (ks : List (List Nat)) (B : Nat) (hk : ks.length ≤ 100000) (hB : B ≤ 64) (k : List Nat) (h : k ∈ ks) : mayB (buildL ks B) (hashN k) = true := by
  rw [may_build ks B hk hB, List.all_eq_true]
  intro p hp
  unfold hasP allP
  rw [List.contains_iff_mem, List.mem_flatMap]
  exact ⟨k, h, hp⟩
theorem hash_nil : hashN [] = 3164544308 := by decide +kernel
theorem strs_one (w : World) (s : ByteArray) (t : TypeId) : Strs (w.alloc (.cells #[.string s] t)) (some ⟨w.heap.size, 0, none⟩) [s] :=
  .inr ⟨w.heap.size, 0, rfl, by simp, fun i hi => by
    have : i = 0 := by simp at hi; exact hi
    subst this
    rw [World.cell?_alloc_mark]; rfl⟩
set_option maxRecDepth 100000 in
set_option maxHeartbeats 800000 in
theorem blooms_any (w : World) : Calls Try.prog 10 #[] w fun e w' => e = .returned (.bool true) ∧ Below w.heap.size w w' := by
  have HB0 : Hid (∀ wx, Calls Try.prog 14 #[.slice none 0 0, .int .i64 10] wx (FreshE wx [0, 0, 0, 0, 0, 0, 0, 0, 6] 0)) := Lib.hid (fun wx => by
    have h := build_any wx none 0 0 [] rfl (.inl rfl) (by simp) (by omega) 10
    rw [List.map_nil, build0, show buildE 10 = 0 from rfl] at h
    exact h)
  have HB1 : Hid (∀ wx wy : World, wy = wx.alloc (.cells #[.string ⟨#[97]⟩] 9) → Calls Try.prog 14 #[.slice (some ⟨wx.heap.size, 0, none⟩) 1 1, .int .i64 10] wy (FreshE wy (buildL [[97]] 10) 0)) := Lib.hid (fun wx wy e => by
    subst e
    have h := build_any _ (some ⟨wx.heap.size, 0, none⟩) 1 1 [⟨#[97]⟩] rfl (strs_one wx ⟨#[97]⟩ 9) (by intro s hs; simp at hs; subst hs; decide) (by omega) 10
    rw [show [(⟨#[97]⟩ : ByteArray)].map natsOf = [[97]] from rfl, show buildR [[97]] 10 = buildL [[97]] 10 from rfl, show buildE 10 = 0 from rfl] at h
    exact h)
  have HH : Hid (∀ wx, Calls Try.prog 11 #[.string ⟨#[]⟩] wx fun e w' => e = .returned (.int .u32 3164544308) ∧ Below wx.heap.size wx w') := Lib.hid (fun wx => by
    have h := hash_any ⟨#[]⟩ (by decide) wx
    rw [show natsOf ⟨#[]⟩ = [] from rfl, hash_nil] at h
    exact h)
  have hlb : ∀ x ∈ ([0, 0, 0, 0, 0, 0, 0, 0, 6] : List Nat), x < 256 := by simp
  go_enter Try.func10, Try.ntmps10
  go_wp2_with fail
  refine (HB0.out _).mono ?_
  rintro e w1 hF
  obtain ⟨a1, cap1, rfl, hlen, hb1, hy1, hn1, hcv⟩ := hF.conv hlb
  rw [show ([0, 0, 0, 0, 0, 0, 0, 0, 6] : List Nat).length = 9 from rfl] at hcv ⊢
  have HM1 : Hid (∀ wx, Below w1.heap.size w1 wx → Calls Try.prog 17 #[.slice a1 9 cap1, .string ⟨#[97]⟩] wx fun e w' => e = .returned (.bool false) ∧ Below wx.heap.size wx w') := Lib.hid (fun wx h => by
    have h := may_any wx a1 cap1 9 _ rfl (hy1.keep h) hlb (by omega) ⟨#[97]⟩ (by decide)
    rw [show natsOf ⟨#[97]⟩ = [97] from rfl, may0] at h
    exact h)
  have HCV := Lib.hid hcv
  have B1 := Lib.hid hb1
  clear hF hlen hb1 hy1 hn1 hcv HB0 hlb
  go_wp2_with fail
  refine (HB1.out _ _ rfl).mono ?_
  rintro e w2 hF
  obtain ⟨a2, cap2, rfl, hlen, hb2, hy2, hn2, -⟩ := hF.conv (buildL_byte _ _)
  have H12 : Hid (Below w1.heap.size w1 w2) := Lib.hid ((bel1 _ _).trans (hb2.mono (by simp)))
  have HM2 : Hid (∀ wx, Below w2.heap.size w2 wx → Calls Try.prog 17 #[.slice a2 (buildL [[97]] 10).length cap2, .string ⟨#[97]⟩] wx fun e w' => e = .returned (.bool true) ∧ Below wx.heap.size wx w') := Lib.hid (fun wx h => by
    have h := may_any wx a2 cap2 _ _ rfl (hy2.keep h) (buildL_byte _ _) (by decide +kernel) ⟨#[97]⟩ (by decide)
    rw [show natsOf ⟨#[97]⟩ = [97] from rfl, may_member [[97]] 10 (by decide) (by decide) [97] (by simp)] at h
    exact h)
  have hc2 := HCV.out w2 H12.out
  have B2 := Lib.hid (B1.out.trans (H12.out.mono B1.out.size))
  have hse : (strOf [0, 0, 0, 0, 0, 0, 0, 0, 6]).toList = [0, 0, 0, 0, 0, 0, 0, 0, 6] := by rw [toList_eq]; rfl
  generalize strOf [0, 0, 0, 0, 0, 0, 0, 0, 6] = S at *
  generalize (buildL [[97]] 10).length = n2 at *
  clear hF hlen hb2 hy2 hn2 HB1
  go_wp2_with fail
  refine (HM1.out _ H12.out).mono ?_
  rintro e w3 ⟨rfl, hb3⟩
  have B3 := Lib.hid (B2.out.trans (hb3.mono B2.out.size))
  have H23 := Lib.hid hb3
  clear hb3 HM1
  go_wp2_with fail
  refine (HM2.out _ H23.out).mono ?_
  rintro e w4 ⟨rfl, hb4⟩
  have B4 := Lib.hid (B3.out.trans (hb4.mono B3.out.size))
  clear hb4 HM2
  go_wp2_with fail
  refine (HH.out _).mono ?_
  rintro e w5 ⟨rfl, hb5⟩
  have B5 := Lib.hid (B4.out.trans (hb5.mono B4.out.size))
  clear hb5 HH
  go_wp2
  go_ret
  exact ⟨rfl, B5.out⟩
end Go.Proofs.Ytfgcdmgbgadkgaa
