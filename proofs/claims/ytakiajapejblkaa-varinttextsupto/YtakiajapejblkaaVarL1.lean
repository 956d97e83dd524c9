/-
  The laws VarintOrders and VarintFolds, walked.
-/
import Derived.Test.YtakiajapejblkaaVarW2
namespace Go.Proofs.Ytakiajapejblkaa
open Go.RowKit

theorem wf_u64 {a : Int} (h : (Lit.int .u64 a).wf = true) : ∃ n : Nat, a = n ∧ n < 18446744073709551616 := by
  simp [Lit.wf, IntKind.min, IntKind.max, IntKind.signed, IntKind.bits] at h
  exact ⟨a.toNat, by omega, by omega⟩
theorem wf_i64 {a : Int} (h : (Lit.int .i64 a).wf = true) : -9223372036854775808 ≤ a ∧ a ≤ 9223372036854775807 := by
  simp [Lit.wf, IntKind.min, IntKind.max, IntKind.signed, IntKind.bits] at h; omega
/-- New bytes, as a slice and as a text. -/
theorem FreshU.open {w w' : World} {l : List Nat} {e : Ending} (h : FreshU w l e w') (hb : ∀ x ∈ l, x < 256) :
    ∃ a cap, e = .returned (.slice a l.length cap) ∧ Below w.heap.size w w' ∧ l.length ≤ cap ∧ Byt w' a l ∧ ∀ wx, Below w'.heap.size w' wx → (convert 24 9 (.slice a l.length cap)).run Try.prog wx = .ok (.string (strOf l)) wx := by
  obtain ⟨v, rfl, hown, hbl⟩ := h
  obtain ⟨a, cap, rfl, hB, hn, hc⟩ := byt_of_own hown
  exact ⟨a, cap, rfl, hbl, hc, hB, fun wx hx => conv_bytes (hB.keep hx) hb hn cap _ rfl⟩
theorem decide_beq {p : Prop} [Decidable p] {x y : Int} (h : p ↔ x = y) : decide p = (x == y) := by
  by_cases e : x = y
  · rw [decide_eq_true (h.2 e)]; simp [e]
  · rw [decide_eq_false (fun k => e (h.1 k))]; simp [e]

namespace varintOrders
set_option maxRecDepth 100000 in
set_option maxHeartbeats 1600000 in
theorem walk (a0 a1 : Int) (w0 : (Lit.int .u64 a0).wf = true) (w1 : (Lit.int .u64 a1).wf = true) (w : World) :
    Calls Try.prog 8 #[.int .u64 a0, .int .u64 a1] w fun e w' => e = .returned (.bool true) ∧ Below w.heap.size w w' := by
  obtain ⟨a, rfl, ha⟩ := wf_u64 w0
  obtain ⟨b, rfl, hb⟩ := wf_u64 w1
  clear w0 w1
  have hs : -9223372036854775808 ≤ (a : Int) / 2 ∧ (a : Int) / 2 ≤ 9223372036854775807 := by omega
  have ht : -9223372036854775808 ≤ -((b : Int) / 2) ∧ -((b : Int) / 2) ≤ 9223372036854775807 := by omega
  have fs := fold_lt _ hs
  have ft := fold_lt _ ht
  have E1 : ((strOf (putL a)).toList == (strOf (putL b)).toList) = ((a : Int) == (b : Int)) := by
    rw [strEq (putL_byte _) (putL_byte _)]
    exact decide_beq ⟨fun h => by have := putL_inj ha hb h; omega, fun h => by have : a = b := by omega
                                                                               rw [this]⟩
  have E2 : ((strOf (putL (foldN ((a : Int) / 2)))).toList == (strOf (putL (foldN (-((b : Int) / 2))))).toList) = ((a : Int) / 2 == -((b : Int) / 2)) := by
    rw [strEq (putL_byte _) (putL_byte _)]
    exact decide_beq ⟨fun h => by have := congrArg unfoldI (putL_inj fs ft h); rwa [unfold_fold, unfold_fold] at this, fun h => by rw [h]⟩
  have l1 := putL_len10 a ha
  have m1 : a ≤ b → (putL a).length ≤ (putL b).length := putL_mono a b
  have m2 : b ≤ a → (putL b).length ≤ (putL a).length := putL_mono b a
  have m3 : (a : Int) / 2 < (b : Int) / 2 → (putL (foldN ((a : Int) / 2))).length ≤ (putL (foldN (-((b : Int) / 2)))).length := fun h => putL_mono _ _ (by unfold foldN; split <;> split <;> omega)
  have m4 : (b : Int) / 2 < (a : Int) / 2 → (putL (foldN (-((b : Int) / 2)))).length ≤ (putL (foldN ((a : Int) / 2))).length := fun h => putL_mono _ _ (by unfold foldN; split <;> split <;> omega)
  have K1 := Lib.hid (Put_any w a ha)
  have HPS := Lib.hid (fun wx => PutSigned_any wx ((a : Int) / 2) hs)
  have HPT := Lib.hid (fun wx => PutSigned_any wx (-((b : Int) / 2)) ht)
  have HE1 := Lib.hid E1
  have HE2 := Lib.hid E2
  have b1 := Lib.hid (putL_byte a)
  have b2 := Lib.hid (putL_byte b)
  have b3 := Lib.hid (putL_byte (foldN ((a : Int) / 2)))
  have b4 := Lib.hid (putL_byte (foldN (-((b : Int) / 2))))
  generalize putL a = X at *
  generalize hY : putL b = Y at *
  generalize putL (foldN ((a : Int) / 2)) = U at *
  generalize putL (foldN (-((b : Int) / 2))) = V at *
  have HY := Lib.hid hY
  clear E1 E2 fs ft hY hs ht
  go_enter Try.func8, Try.ntmps8
  go_wp2_with fail
  refine K1.out.mono ?_
  intro e wa hf
  obtain ⟨ax, cx, rfl, hb1, _, _, cv1⟩ := hf.open b1.out
  have HB1 := Lib.hid hb1
  have CV1 := Lib.hid cv1
  clear hf hb1 cv1
  go_wp2_with fail
  refine (Put_any wa b hb).mono ?_
  rw [HY.out]
  intro e wb hf
  obtain ⟨ay, cy, rfl, hb2, _, _, cv2⟩ := hf.open b2.out
  have HB2 := Lib.hid hb2
  have CV2 := Lib.hid cv2
  clear hf hb2 cv2
  go_wp2_with fail
  refine (HPS.out wb).mono ?_
  intro e wc hf
  obtain ⟨au, cu, rfl, hb3, _, _, cv3⟩ := hf.open b3.out
  have HB3 := Lib.hid hb3
  have CV3 := Lib.hid cv3
  clear hf hb3 cv3
  go_wp2_with fail
  refine (HPT.out wc).mono ?_
  intro e wd hf
  obtain ⟨av, cv, rfl, hb4, _, _, cv4⟩ := hf.open b4.out
  have HB4 := Lib.hid hb4
  have CV4 := Lib.hid cv4
  clear hf hb4 cv4
  go_wp2_with fail
  refine (counts_any wd).mono ?_
  rintro e we ⟨rfl, hb5⟩
  have q1 := CV1.out we (below_next (below_next (below_next HB2.out HB3.out) HB4.out) hb5)
  have q2 := CV2.out we (below_next (below_next HB3.out HB4.out) hb5)
  have q3 := CV3.out we (below_next HB4.out hb5)
  have q4 := CV4.out we hb5
  have HB5 := Lib.hid (below_next (below_next (below_next (below_next HB1.out HB2.out) HB3.out) HB4.out) hb5)
  have e1 := HE1.out
  have e2 := HE2.out
  clear hb5 CV1 CV2 CV3 CV4 HB1 HB2 HB3 HB4 HE1 HE2 b1 b2 b3 b4 K1 HPS HPT HY
  have D10 : Hid (Ending.returned (.bool (decide ((X.length : Int) ≤ 10))) = .returned (.bool true)) := Lib.hid (by rw [decide_eq_true (by omega)])
  by_cases c1 : a < b
  · have g1 := m1 (by omega)
    by_cases c3 : (a : Int) / 2 < (b : Int) / 2
    · have g3 := m3 c3
      clear m1 m2 m3 m4
      go_wp2
      all_goals (go_ret; exact ⟨D10.out, HB5.out⟩)
    · by_cases c4 : (b : Int) / 2 < (a : Int) / 2
      · have g4 := m4 c4
        clear m1 m2 m3 m4
        go_wp2
        all_goals (go_ret; exact ⟨D10.out, HB5.out⟩)
      · clear m1 m2 m3 m4
        go_wp2
        all_goals (go_ret; exact ⟨D10.out, HB5.out⟩)
  · by_cases c2 : b < a
    · have g2 := m2 (by omega)
      by_cases c3 : (a : Int) / 2 < (b : Int) / 2
      · have g3 := m3 c3
        clear m1 m2 m3 m4
        go_wp2
        all_goals (go_ret; exact ⟨D10.out, HB5.out⟩)
      · by_cases c4 : (b : Int) / 2 < (a : Int) / 2
        · have g4 := m4 c4
          clear m1 m2 m3 m4
          go_wp2
          all_goals (go_ret; exact ⟨D10.out, HB5.out⟩)
        · clear m1 m2 m3 m4
          go_wp2
          all_goals (go_ret; exact ⟨D10.out, HB5.out⟩)
    · have g0 : True := trivial
      by_cases c3 : (a : Int) / 2 < (b : Int) / 2
      · have g3 := m3 c3
        clear m1 m2 m3 m4
        go_wp2
        all_goals (go_ret; exact ⟨D10.out, HB5.out⟩)
      · by_cases c4 : (b : Int) / 2 < (a : Int) / 2
        · have g4 := m4 c4
          clear m1 m2 m3 m4
          go_wp2
          all_goals (go_ret; exact ⟨D10.out, HB5.out⟩)
        · clear m1 m2 m3 m4
          go_wp2
          all_goals (go_ret; exact ⟨D10.out, HB5.out⟩)
end varintOrders
namespace varintFolds
set_option maxRecDepth 100000 in
set_option maxHeartbeats 1600000 in
theorem walk (a0 : Int) (w0 : (Lit.int .i64 a0).wf = true) (w : World) :
    Calls Try.prog 9 #[.int .i64 a0] w fun e w' => e = .returned (.bool true) ∧ Below w.heap.size w w' := by
  have hr := wf_i64 w0
  clear w0
  have fl := fold_lt a0 hr
  have hg : getS (putL (foldN a0)) = (foldN a0, (putL (foldN a0)).length, 0) := by
    have := getS_put (foldN a0) [] fl; rwa [List.append_nil] at this
  have HG : Hid (tupS (getS (putL (foldN a0))) = .tuple #[.int .i64 a0, .int .i64 ((putL (foldN a0)).length : Int), .int .i64 0]) := Lib.hid (by
    rw [hg]; simp only [tupS, unfold_fold]; rfl)
  have hml := putL_len10 (foldN a0) fl
  have hmax : (putL (foldN a0)).length ≤ maxLen := by unfold maxLen; omega
  have HM := Lib.hid (putL_more (foldN a0))
  have b1 := Lib.hid (putL_byte (foldN a0))
  have K1 := Lib.hid (fun wx => PutSigned_any wx a0 hr)
  have K2 := Lib.hid (fun wx => Put_any wx (foldN a0) fl)
  have HU : Hid ((a0 < 0 → (foldN a0 : Int) = -(a0 + 1) * 2 + 1) ∧ (¬ a0 < 0 → (foldN a0 : Int) = a0 * 2)) := Lib.hid ⟨fun h => by unfold foldN; rw [if_pos h]; omega, fun h => by unfold foldN; rw [if_neg h]; omega⟩
  have GS := Lib.hid (fun (wx : World) (ax : Option Addr) (cx : Nat) (hB : Byt wx ax (putL (foldN a0))) (hc : (putL (foldN a0)).length ≤ cx) => getSigned_any wx ax cx _ _ rfl hB (putL_byte _) hc hmax)
  clear hg
  generalize putL (foldN a0) = X at *
  go_enter Try.func9, Try.ntmps9
  go_wp2_with fail
  refine (counts_any w).mono ?_
  rintro e wa ⟨rfl, hb1⟩
  have HB1 := Lib.hid hb1
  clear hb1
  by_cases hneg : a0 < 0
  · have HV := Lib.hid (HU.out.1 hneg)
    go_wp2_with fail
    refine (K1.out wa).mono ?_
    intro e wb hf
    obtain ⟨ax, cx, rfl, hb2, hc2, bx, cv1⟩ := hf.open b1.out
    have HB2 := Lib.hid (below_next HB1.out hb2)
    have CV1 := Lib.hid cv1
    have BX := Lib.hid bx
    clear hf hb2 cv1 bx
    go_wp2_with fail
    rw [← HV.out]
    refine (K2.out wb).mono ?_
    intro e wc hf
    obtain ⟨ay, cy, rfl, hb3, _, _, cv2⟩ := hf.open b1.out
    have q1 := CV1.out wc hb3
    have q2 := cv2 wc (Below.refl _ _)
    have BX2 := Lib.hid (BX.out.keep hb3)
    have HB3 := Lib.hid (below_next HB2.out hb3)
    clear hf hb3 cv2 CV1 BX
    go_wp2_with fail
    clear q1 q2
    go_loop [6] (fun i => ∃ k : Nat, k ≤ X.length ∧ i = .int .i64 (k : Int)) (fun i => X.length - (intOf i).toNat)
    case atStart => exact ⟨0, by omega, rfl⟩
    case round =>
      obtain ⟨k, hk, rfl⟩ := hrel
      by_cases hlt : k < X.length
      · obtain ⟨b, off, rfl, hcell⟩ := BX2.out.at hlt
        have hmore := HM.out k hlt
        generalize X[k] = c at *
        by_cases hl1 : k < X.length - 1
        · have h128 : 128 ≤ c := by rw [hmore]; exact hl1
          clear hmore
          have hl2 : (k : Int) < (X.length : Int) - 1 := by omega
          have hd : decide ((k : Int) < (X.length : Int) - 1) = true := decide_eq_true hl2
          have hd2 : decide (128 ≤ (c : Int)) = true := decide_eq_true (by omega)
          go_wp2
          go_round
          case rel => exact ⟨k + 1, by omega, by go_num⟩
          case measure => simp [intOf]; omega
        · have h128 : ¬ 128 ≤ c := by rw [hmore]; exact hl1
          clear hmore
          have hl2 : ¬ ((k : Int) < (X.length : Int) - 1) := by omega
          have hd : decide ((k : Int) < (X.length : Int) - 1) = false := decide_eq_false hl2
          have hd2 : decide (128 ≤ (c : Int)) = false := decide_eq_false (by omega)
          go_wp2
          go_round
          case rel => exact ⟨k + 1, by omega, by go_num⟩
          case measure => simp [intOf]; omega
      · go_wp2_with fail
        refine (GS.out wc ax cx BX2.out hc2).mono ?_
        rw [HG.out]
        rintro e w' ⟨rfl, rfl⟩
        go_wp2
        go_ret
        exact ⟨rfl, HB3.out⟩
  · have HV := Lib.hid (HU.out.2 (by omega))
    go_wp2_with fail
    refine (K1.out wa).mono ?_
    intro e wb hf
    obtain ⟨ax, cx, rfl, hb2, hc2, bx, cv1⟩ := hf.open b1.out
    have HB2 := Lib.hid (below_next HB1.out hb2)
    have CV1 := Lib.hid cv1
    have BX := Lib.hid bx
    clear hf hb2 cv1 bx
    go_wp2_with fail
    rw [← HV.out]
    refine (K2.out wb).mono ?_
    intro e wc hf
    obtain ⟨ay, cy, rfl, hb3, _, _, cv2⟩ := hf.open b1.out
    have q1 := CV1.out wc hb3
    have q2 := cv2 wc (Below.refl _ _)
    have BX2 := Lib.hid (BX.out.keep hb3)
    have HB3 := Lib.hid (below_next HB2.out hb3)
    clear hf hb3 cv2 CV1 BX
    go_wp2_with fail
    clear q1 q2
    go_loop [6] (fun i => ∃ k : Nat, k ≤ X.length ∧ i = .int .i64 (k : Int)) (fun i => X.length - (intOf i).toNat)
    case atStart => exact ⟨0, by omega, rfl⟩
    case round =>
      obtain ⟨k, hk, rfl⟩ := hrel
      by_cases hlt : k < X.length
      · obtain ⟨b, off, rfl, hcell⟩ := BX2.out.at hlt
        have hmore := HM.out k hlt
        generalize X[k] = c at *
        by_cases hl1 : k < X.length - 1
        · have h128 : 128 ≤ c := by rw [hmore]; exact hl1
          clear hmore
          have hl2 : (k : Int) < (X.length : Int) - 1 := by omega
          have hd : decide ((k : Int) < (X.length : Int) - 1) = true := decide_eq_true hl2
          have hd2 : decide (128 ≤ (c : Int)) = true := decide_eq_true (by omega)
          go_wp2
          go_round
          case rel => exact ⟨k + 1, by omega, by go_num⟩
          case measure => simp [intOf]; omega
        · have h128 : ¬ 128 ≤ c := by rw [hmore]; exact hl1
          clear hmore
          have hl2 : ¬ ((k : Int) < (X.length : Int) - 1) := by omega
          have hd : decide ((k : Int) < (X.length : Int) - 1) = false := decide_eq_false hl2
          have hd2 : decide (128 ≤ (c : Int)) = false := decide_eq_false (by omega)
          go_wp2
          go_round
          case rel => exact ⟨k + 1, by omega, by go_num⟩
          case measure => simp [intOf]; omega
      · go_wp2_with fail
        refine (GS.out wc ax cx BX2.out hc2).mono ?_
        rw [HG.out]
        rintro e w' ⟨rfl, rfl⟩
        go_wp2
        go_ret
        exact ⟨rfl, HB3.out⟩
end varintFolds
end Go.Proofs.Ytakiajapejblkaa
