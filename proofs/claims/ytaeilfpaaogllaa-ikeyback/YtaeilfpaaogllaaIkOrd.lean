/-
  The law IkeyOrders, walked.
-/
import Derived.Test.YtaeilfpaaogllaaIkFrame
namespace Go.Proofs.Ytaeilfpaaogllaa
open Go.RowKit

theorem sortR_byte (k : ByteArray) (s d : Int) : ∀ x ∈ sortR k s d, x < 256 := by
  unfold sortR; split
  · exact sortL_byte k s d
  · simp
theorem encR_byte (k : ByteArray) (s d : Int) : ∀ x ∈ encR k s d, x < 256 := by
  unfold encR; split
  · exact encL_byte k s d
  · simp
theorem eqv_yes {α : Type} {k k' : ByteArray} {s d s' d' : Int} (h : k.toList = k'.toList ∧ s = s' ∧ d = d') (a b : α) : (if k.toList = k'.toList then if s = s' then if d = d' then a else b else b else b) = a := by
  rw [if_pos h.1, if_pos h.2.1, if_pos h.2.2]
theorem eqv_no {α : Type} {k k' : ByteArray} {s d s' d' : Int} (h : ¬ (k.toList = k'.toList ∧ s = s' ∧ d = d')) (a b : α) : (if k.toList = k'.toList then if s = s' then if d = d' then a else b else b else b) = b := by
  repeat' split
  all_goals first | rfl | (rename_i h1 h2 h3; exact absurd ⟨h1, h2, h3⟩ h)
namespace ikeyOrders
set_option maxRecDepth 100000 in
set_option maxHeartbeats 800000 in
theorem walk (k0 : ByteArray) (s0 d0 : Int) (k1 : ByteArray) (s1 d1 : Int) (w : World) (_f0 : k0.size ≤ maxLen ∧ (Lit.int .i64 s0).wf = true ∧ (Lit.int .i64 d0).wf = true) (_f1 : k1.size ≤ maxLen ∧ (Lit.int .i64 s1).wf = true ∧ (Lit.int .i64 d1).wf = true) :
    Calls Try.prog 5 #[verV k0 s0 d0, verV k1 s1 d1] w fun e w' => e = .returned (.bool true) ∧ Below w.heap.size w w' := by
  have HS0 : Hid (∀ wx, Calls Try.prog 18 #[verV k0 s0 d0] wx (FreshE wx (sortR k0 s0 d0) (chkI k0 s0 d0))) := Lib.hid (sortable_any k0 s0 d0)
  have HS1 : Hid (∀ wx, Calls Try.prog 18 #[verV k1 s1 d1] wx (FreshE wx (sortR k1 s1 d1) (chkI k1 s1 d1))) := Lib.hid (sortable_any k1 s1 d1)
  have HL : Hid (∀ wx, Calls Try.prog 21 #[verV k0 s0 d0, verV k1 s1 d1] wx fun e w' => e = .returned (.bool (lessB k0 s0 d0 k1 s1 d1)) ∧ Below wx.heap.size wx w') := Lib.hid (less_any k0 s0 d0 k1 s1 d1)
  have HR : Hid (∀ wx, Calls Try.prog 22 #[verV k0 s0 d0, verV k1 s1 d1] wx fun e w' => e = .returned (.bool (lessB k0 s0 d0 k1 s1 d1)) ∧ Below wx.heap.size wx w') := Lib.hid (rless_any k0 s0 d0 k1 s1 d1)
  have HM : Hid (∀ wx, Calls Try.prog 21 #[verV k1 s1 d1, verV k0 s0 d0] wx fun e w' => e = .returned (.bool (lessB k1 s1 d1 k0 s0 d0)) ∧ Below wx.heap.size wx w') := Lib.hid (less_any k1 s1 d1 k0 s0 d0)
  have HEQ := Lib.hid (fun wx => run_ver_eq wx k0 k1 s0 d0 s1 d1)
  have HNE := Lib.hid (fun wx => run_ver_ne wx k0 k1 s0 d0 s1 d1)
  unfold verV at *
  have HV0 : Hid (VerAt ((w.alloc (.cells #[.string k0, .int .i64 s0, .int .i64 d0] 23)).alloc (.cells #[.string k1, .int .i64 s1, .int .i64 d1] 23)) w.heap.size k0 s0 d0) := Lib.hid ((verAt_new w k0 s0 d0 23).keep (bel1 _ _))
  have HV1 : Hid (VerAt ((w.alloc (.cells #[.string k0, .int .i64 s0, .int .i64 d0] 23)).alloc (.cells #[.string k1, .int .i64 s1, .int .i64 d1] 23)) (w.heap.size + 1) k1 s1 d1) := Lib.hid (by have := verAt_new (w.alloc (.cells #[.string k0, .int .i64 s0, .int .i64 d0] 23)) k1 s1 d1 23; simpa using this)
  go_enter Try.func5, Try.ntmps5
  go_wp2_with fail
  refine (keyed_any _).mono ?_
  rintro e wk ⟨rfl, hbk⟩
  have HBk : Hid (Below w.heap.size w wk) := Lib.hid ((bel2 _ _ _).trans (hbk.mono (by simp; omega)))
  have VK0 := Lib.hid (HV0.out.keep hbk)
  have VK1 := Lib.hid (HV1.out.keep hbk)
  obtain ⟨p0, p1, p2, -⟩ := VK0.out
  obtain ⟨q0, q1, q2, -⟩ := VK1.out
  clear hbk HV0 HV1
  go_wp2_with fail
  refine (HS0.out _).mono ?_
  rintro e w1 hF1
  obtain ⟨a1, cap1, rfl, hl1, hb1, -, -, hcv1⟩ := hF1.conv (sortR_byte _ _ _)
  have HB1 := Lib.hid (HBk.out.trans (hb1.mono HBk.out.size))
  have VL0 := Lib.hid (VK0.out.keep hb1)
  have VL1 := Lib.hid (VK1.out.keep hb1)
  clear p0 p1 p2 q0 q1 q2 VK0 VK1
  obtain ⟨p0, p1, p2, -⟩ := VL0.out
  obtain ⟨q0, q1, q2, -⟩ := VL1.out
  clear hF1 hb1 hl1 HBk
  go_wp2_with fail
  refine (HS1.out _).mono ?_
  rintro e w2 hF2
  obtain ⟨a2, cap2, rfl, hl2, hb2, -, -, hcv2⟩ := hF2.conv (sortR_byte _ _ _)
  have HB2 := Lib.hid (HB1.out.trans (hb2.mono HB1.out.size))
  have VM0 := Lib.hid (VL0.out.keep hb2)
  have VM1 := Lib.hid (VL1.out.keep hb2)
  have HC1 : Hid (∀ wx, Below w2.heap.size w2 wx → (convert 24 9 (.slice a1 (sortR k0 s0 d0).length cap1)).run Try.prog wx = .ok (.string (strOf (sortR k0 s0 d0))) wx) := Lib.hid (fun wx hx => hcv1 wx (hb2.trans (hx.mono hb2.size)))
  have HC2 := Lib.hid hcv2
  clear p0 p1 p2 q0 q1 q2 VL0 VL1
  obtain ⟨p0, p1, p2, -⟩ := VM0.out
  obtain ⟨q0, q1, q2, -⟩ := VM1.out
  clear hF2 hb2 hl2 HB1 hcv1 hcv2
  clear p0 p1 p2 q0 q1 q2
  go_wp2_with fail
  refine wp_region_grown (by kernel_rfl) (by kernel_rfl) ?_
  have cL : Hid (∀ wx, Below w2.heap.size w2 wx → Calls Try.prog 21 #[.agg #[.string k0, .int .i64 s0, .int .i64 d0], .agg #[.string k1, .int .i64 s1, .int .i64 d1]] wx fun e w'' => e = .returned (.bool (lessB k0 s0 d0 k1 s1 d1)) ∧ Below w2.heap.size w2 w'') := Lib.hid (fun wx hx => (HL.out wx).mono fun _ _ ⟨he, hb⟩ => ⟨he, hx.trans (hb.mono hx.size)⟩)
  have cR : Hid (∀ wx, Below w2.heap.size w2 wx → Calls Try.prog 22 #[.agg #[.string k0, .int .i64 s0, .int .i64 d0], .agg #[.string k1, .int .i64 s1, .int .i64 d1]] wx fun e w'' => e = .returned (.bool (lessB k0 s0 d0 k1 s1 d1)) ∧ Below w2.heap.size w2 w'') := Lib.hid (fun wx hx => (HR.out wx).mono fun _ _ ⟨he, hb⟩ => ⟨he, hx.trans (hb.mono hx.size)⟩)
  repeat (first
    | go_big_quiet_skip
    | (go_big_quiet_want; go_big_quiet_op; first
        | go_big_quiet_on
        | (apply Exists.intro; refine ⟨fun _ _ => rfl, ?_⟩; go_big_quiet_on)
        | (apply Exists.intro; refine ⟨fun _ hx => ⟨rfl, hx⟩, ?_⟩; go_big_quiet_on)
        | (refine ⟨.agg #[.string k0, .int .i64 s0, .int .i64 d0], by intro wx hx; have h := VM0.out.keep hx; simp only [h.c0, h.c1, h.c2, Result.andThen]; exact ⟨trivial, trivial⟩, ?_⟩; go_big_quiet_on)
        | (refine ⟨.agg #[.string k1, .int .i64 s1, .int .i64 d1], by intro wx hx; have h := VM1.out.keep hx; simp only [h.c0, h.c1, h.c2, Result.andThen]; exact ⟨trivial, trivial⟩, ?_⟩; go_big_quiet_on)
        | (apply Exists.intro; refine ⟨by with_reducible first | exact cL.out | exact cR.out, ?_⟩; go_big_quiet_on)))
  refine wpQuiet_nil ?_
  rintro wz ⟨x, hx⟩
  have hz : Below w2.heap.size w2 wz := hx ▸ x.2
  clear hx x
  have VZ0 := Lib.hid (VM0.out.keep hz)
  have VZ1 := Lib.hid (VM1.out.keep hz)
  have HZ := Lib.hid (HB2.out.trans (hz.mono HB2.out.size))
  have HD1 : Hid (∀ wx, Below wz.heap.size wz wx → (convert 24 9 (.slice a1 (sortR k0 s0 d0).length cap1)).run Try.prog wx = .ok (.string (strOf (sortR k0 s0 d0))) wx) := Lib.hid (fun wx hx => HC1.out wx (hz.trans (hx.mono hz.size)))
  have HD2 : Hid (∀ wx, Below wz.heap.size wz wx → (convert 24 9 (.slice a2 (sortR k1 s1 d1).length cap2)).run Try.prog wx = .ok (.string (strOf (sortR k1 s1 d1))) wx) := Lib.hid (fun wx hx => HC2.out wx (hz.trans (hx.mono hz.size)))
  clear hz VM0 VM1 HB2 HC1 HC2 cL cR HS0 HS1
  by_cases h0 : okV k0 s0 d0
  · by_cases h1 : okV k1 s1 d1
    · have e0 := chk_yes h0
      have e1 := chk_yes h1
      have g1 : sortR k0 s0 d0 = sortL k0 s0 d0 := if_pos h0
      have g2 : sortR k1 s1 d1 = sortL k1 s1 d1 := if_pos h1
      have fls : Op.bytesLess (strOf (sortR k0 s0 d0)).toList (strOf (sortR k1 s1 d1)).toList = lessB k0 s0 d0 k1 s1 d1 := by
        rw [less_strOf (sortR_byte _ _ _) (sortR_byte _ _ _), g1, g2, lex_sort h0 h1]
      have feq : ((strOf (sortR k0 s0 d0)).toList == (strOf (sortR k1 s1 d1)).toList) = sameV k0 s0 d0 k1 s1 d1 := by
        rw [strEq (sortR_byte _ _ _) (sortR_byte _ _ _), g1, g2]
        exact decide_eq_decide.2 (sort_inj h0 h1)
      have fcs : (sameV k0 s0 d0 k1 s1 d1 = true ∧ lessB k0 s0 d0 k1 s1 d1 = false ∧ Hid (k0.toList = k1.toList ∧ s0 = s1 ∧ d0 = d1)) ∨ (sameV k0 s0 d0 k1 s1 d1 = false ∧ lessB k1 s1 d1 k0 s0 d0 = !lessB k0 s0 d0 k1 s1 d1 ∧ Hid (¬ (k0.toList = k1.toList ∧ s0 = s1 ∧ d0 = d1))) := by
        by_cases hs : k0 = k1 ∧ s0 = s1 ∧ d0 = d1
        · left
          refine ⟨decide_eq_true hs, ?_, Lib.hid ⟨by rw [hs.1], hs.2⟩⟩
          obtain ⟨rfl, rfl, rfl⟩ := hs
          unfold lessB; simp
        · right
          refine ⟨decide_eq_false hs, ?_, Lib.hid (fun h => hs ⟨toList_inj' h.1, h.2⟩)⟩
          rw [← lex_sort h0 h1, ← lex_sort h1 h0]
          exact lexN_asym _ _ (fun e => hs ((sort_inj h0 h1).1 e))
      rw [e0, e1]
      clear e0 e1 g1 g2 h0 h1
      generalize lessB k0 s0 d0 k1 s1 d1 = bl at *
      generalize lessB k1 s1 d1 k0 s0 d0 = bm at *
      generalize sameV k0 s0 d0 k1 s1 d1 = bs at *
      generalize strOf (sortR k0 s0 d0) = S0 at *
      generalize strOf (sortR k1 s1 d1) = S1 at *
      generalize (sortR k0 s0 d0).length = n0 at *
      generalize (sortR k1 s1 d1).length = n1 at *
      obtain ⟨p0, p1, p2, -⟩ := VZ0.out
      obtain ⟨q0, q1, q2, -⟩ := VZ1.out
      go_wp2_with fail
      refine (HL.out _).mono ?_
      rintro e w5 ⟨rfl, hb5⟩
      have VY0 := Lib.hid (VZ0.out.keep hb5)
      have VY1 := Lib.hid (VZ1.out.keep hb5)
      have HY := Lib.hid (HZ.out.trans (hb5.mono HZ.out.size))
      have HE1 : Hid (∀ wx, Below w5.heap.size w5 wx → (convert 24 9 (.slice a1 n0 cap1)).run Try.prog wx = .ok (.string S0) wx) := Lib.hid (fun wx hx => HD1.out wx (hb5.trans (hx.mono hb5.size)))
      have HE2 : Hid (∀ wx, Below w5.heap.size w5 wx → (convert 24 9 (.slice a2 n1 cap2)).run Try.prog wx = .ok (.string S1) wx) := Lib.hid (fun wx hx => HD2.out wx (hb5.trans (hx.mono hb5.size)))
      clear hb5 p0 p1 p2 q0 q1 q2 VZ0 VZ1 HZ HD1 HD2
      go_wp2_with fail
      refine wp_region_grown (by kernel_rfl) (by kernel_rfl) ?_
      have cM : Hid (∀ wx, Below w5.heap.size w5 wx → Calls Try.prog 21 #[.agg #[.string k1, .int .i64 s1, .int .i64 d1], .agg #[.string k0, .int .i64 s0, .int .i64 d0]] wx fun e w'' => e = .returned (.bool bm) ∧ Below w5.heap.size w5 w'') := Lib.hid (fun wx hx => (HM.out wx).mono fun _ _ ⟨he, hb⟩ => ⟨he, hx.trans (hb.mono hx.size)⟩)
      have cR : Hid (∀ wx, Below w5.heap.size w5 wx → Calls Try.prog 22 #[.agg #[.string k0, .int .i64 s0, .int .i64 d0], .agg #[.string k1, .int .i64 s1, .int .i64 d1]] wx fun e w'' => e = .returned (.bool bl) ∧ Below w5.heap.size w5 w'') := Lib.hid (fun wx hx => (HR.out wx).mono fun _ _ ⟨he, hb⟩ => ⟨he, hx.trans (hb.mono hx.size)⟩)
      rcases fcs with ⟨rfl, rfl, FS⟩ | ⟨rfl, rfl, FN⟩
      · repeat (first
          | go_big_quiet_skip
          | (go_big_quiet_want; go_big_quiet_op; first
              | go_big_quiet_on
              | (apply Exists.intro; refine ⟨fun _ _ => rfl, ?_⟩; go_big_quiet_on)
              | (apply Exists.intro; refine ⟨fun _ hx => ⟨rfl, hx⟩, ?_⟩; go_big_quiet_on)
              | (refine ⟨.agg #[.string k0, .int .i64 s0, .int .i64 d0], by intro wx hx; have h := VY0.out.keep hx; simp only [h.c0, h.c1, h.c2, Result.andThen]; exact ⟨trivial, trivial⟩, ?_⟩; go_big_quiet_on)
              | (refine ⟨.agg #[.string k1, .int .i64 s1, .int .i64 d1], by intro wx hx; have h := VY1.out.keep hx; simp only [h.c0, h.c1, h.c2, Result.andThen]; exact ⟨trivial, trivial⟩, ?_⟩; go_big_quiet_on)
              | (apply Exists.intro; refine ⟨by intro wx hx; first | (rw [HE1.out wx hx]; exact ⟨rfl, rfl⟩) | (rw [HE2.out wx hx]; exact ⟨rfl, rfl⟩), ?_⟩; go_big_quiet_on)
              | (apply Exists.intro; refine ⟨by with_reducible first | exact cM.out | exact cR.out, ?_⟩; go_big_quiet_on)
              | (refine ⟨.bool true, ?_, ?_⟩; (intro wx hx; rw [eqv_yes FS.out]; exact ⟨rfl, rfl⟩); go_big_quiet_on)
              | (refine ⟨.bool false, ?_, ?_⟩; (intro wx hx; rw [eqv_yes FS.out]; exact ⟨rfl, rfl⟩); go_big_quiet_on)))
        refine wpQuiet_nil ?_
        rintro wz ⟨x, hx⟩
        have HZ2 : Hid (Below w5.heap.size w5 wz) := Lib.hid (hx ▸ x.2)
        clear hx x
        go_wp2
        go_ret
        exact ⟨rfl, HY.out.trans (HZ2.out.mono HY.out.size)⟩
      · cases bl
        all_goals
          repeat (first
            | go_big_quiet_skip
            | (go_big_quiet_want; go_big_quiet_op; first
                | go_big_quiet_on
                | (apply Exists.intro; refine ⟨fun _ _ => rfl, ?_⟩; go_big_quiet_on)
                | (apply Exists.intro; refine ⟨fun _ hx => ⟨rfl, hx⟩, ?_⟩; go_big_quiet_on)
                | (refine ⟨.agg #[.string k0, .int .i64 s0, .int .i64 d0], by intro wx hx; have h := VY0.out.keep hx; simp only [h.c0, h.c1, h.c2, Result.andThen]; exact ⟨trivial, trivial⟩, ?_⟩; go_big_quiet_on)
                | (refine ⟨.agg #[.string k1, .int .i64 s1, .int .i64 d1], by intro wx hx; have h := VY1.out.keep hx; simp only [h.c0, h.c1, h.c2, Result.andThen]; exact ⟨trivial, trivial⟩, ?_⟩; go_big_quiet_on)
                | (apply Exists.intro; refine ⟨by intro wx hx; first | (rw [HE1.out wx hx]; exact ⟨rfl, rfl⟩) | (rw [HE2.out wx hx]; exact ⟨rfl, rfl⟩), ?_⟩; go_big_quiet_on)
                | (apply Exists.intro; refine ⟨by with_reducible first | exact cM.out | exact cR.out, ?_⟩; go_big_quiet_on)
                | (refine ⟨.bool false, ?_, ?_⟩; (intro wx hx; rw [eqv_no FN.out]; exact ⟨rfl, rfl⟩); go_big_quiet_on)
                | (refine ⟨.bool true, ?_, ?_⟩; (intro wx hx; rw [eqv_no FN.out]; exact ⟨rfl, rfl⟩); go_big_quiet_on)))
          refine wpQuiet_nil ?_
          rintro wz ⟨x, hx⟩
          have HZ2 : Hid (Below w5.heap.size w5 wz) := Lib.hid (hx ▸ x.2)
          clear hx x
          go_wp2
          go_ret
          exact ⟨rfl, HY.out.trans (HZ2.out.mono HY.out.size)⟩
    · have e0 := chk_yes h0
      have e1 := chk_no h1
      rw [e0, e1]
      go_wp2
      go_ret
      exact ⟨rfl, HZ.out⟩
  · have e0 := chk_no h0
    rw [e0]
    go_wp2
    go_ret
    exact ⟨rfl, HZ.out⟩
end ikeyOrders
end Go.Proofs.Ytaeilfpaaogllaa
