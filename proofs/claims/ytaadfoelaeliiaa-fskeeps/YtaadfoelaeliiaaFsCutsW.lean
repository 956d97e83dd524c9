/-
  The law FsCuts, walked.
-/
import Derived.Test.YtaadfoelaeliiaaFsY1
import Derived.Laws.Concat
namespace Go.Proofs.Ytaadfoelaeliiaa
open Go.RowKit Go.Maps

/-- A slice of ints that came in, with the bound on its bytes. -/
def IsRowI (w : World) (a : Option Addr) (len cap : Nat) (zs : List Int) : Prop := IsRow .i64 w a len cap zs ∧ cap * 8 ≤ 140737488351232
theorem IsRow.keep {k : IntKind} {w w' : World} {a : Option Addr} {len cap : Nat} {zs : List Int} (h : IsRow k w a len cap zs) (hb : Below w.heap.size w w') : IsRow k w' a len cap zs := by
  rcases h with h | ⟨x, h1, h2, h3, h4, h5, h6⟩
  · exact .inl h
  · refine .inr ⟨x, h1, h2, h3, h4, fun i hi => ?_, h6⟩
    have hc := h5 i hi
    exact (hb.cell (p := x.add i) (World.block_lt_of_cell? w _ hc)).trans hc
namespace fsCuts

set_option maxRecDepth 100000 in
set_option maxHeartbeats 1000000 in
theorem walk (a0 a1 : ByteArray) (a2 : Option Addr) (len2 cap2 : Nat) (z2 : List Int) (W : World) (y0 : a0.size ≤ 140737488351232) (y1 : a1.size ≤ 140737488351232) (w2 : IsRowI W a2 len2 cap2 z2) :
    Calls Try.prog 5 #[.string a0, .string a1, .slice a2 len2 cap2] W fun e w' => e = .returned (.bool true) ∧ Below W.heap.size W w' := by
  obtain ⟨k0, hk0⟩ : ∃ k0, min a0.size 3000 = k0 := ⟨_, rfl⟩
  obtain ⟨k1, hk1⟩ : ∃ k1, min a1.size 3000 = k1 := ⟨_, rfl⟩
  have hm0 := fun ts t wx => run_min2 (P := Try.prog) (w := wx) ts t (a0.size : Int) 3000 (k0 : Int) (by omega)
  have hm1 := fun ts t wx => run_min2 (P := Try.prog) (w := wx) ts t (a1.size : Int) 3000 (k1 : Int) (by omega)
  have l0 : k0 ≤ a0.size := by omega
  have l1 : k1 ≤ a1.size := by omega
  have HK0 := Lib.hid (show k0 ≤ 3000 by omega)
  have HK1 := Lib.hid (show k1 ≤ 3000 by omega)
  have HF0 := Lib.hid (files_any W)
  have HW2 := Lib.hid w2
  clear hk0 hk1 w2
  go_enter Try.func5, Try.ntmps5
  go_wp2_with fail
  refine HF0.out.mono ?_
  rintro e W1 ⟨rfl, b1⟩
  have HS := Lib.hid (show Stay (fun k => k < W.heap.size) W W1 from Stay.of_below b1)
  clear b1 HF0
  go_wp2_with fail
  go_region
  go_wp2_with fail
  have HN := Lib.hid (fx_new (G := fun k => k < W.heap.size) W1.drew 1048576 (by omega) (fun k hk => Nat.lt_of_lt_of_le hk HS.out.size))
  replace HS := Lib.hid (HS.out.trans (show Stay (fun k => k < W.heap.size) W1 W1.drew from Stay.drewN _ W1 1))
  refine HN.out.mono ?_
  rintro e W2 ⟨rfl, h1, b1⟩
  replace HS := Lib.hid (HS.out.trans (Stay.of_below b1))
  have HF := Lib.hid h1
  have pl := h1.lt
  clear h1 b1 HN
  obtain ⟨s, hs⟩ : ∃ s, a0.extract 0 k0 = s := ⟨_, rfl⟩
  obtain ⟨t, ht⟩ : ∃ t, a1.extract 0 k1 = t := ⟨_, rfl⟩
  have hss : s.size ≤ 3000 := by rw [← hs, ByteArray.size_extract]; have := HK0.out; omega
  have hts : t.size ≤ 3000 := by rw [← ht, ByteArray.size_extract]; have := HK1.out; omega
  rw [hs, ht]
  have hS1 := natsOf_length s
  have hT1 := natsOf_length t
  have HS1 := Lib.hid hS1
  have HT1 := Lib.hid hT1
  have HSS := Lib.hid hss
  have HTS := Lib.hid hts
  clear hs ht hss hts hS1 hT1
  have HC := Lib.hid (fxQ (fx_create HF.out nA (by decide)) one_new)
  go_wp2_with fail
  refine HC.out.mono ?_
  rintro e W3 ⟨rfl, hF, hS⟩
  replace HS := Lib.hid (HS.out.trans hS)
  replace HF := Lib.hid hF
  replace pl := hF.lt
  clear hF hS HC
  obtain ⟨capT, wT, hcv, hap⟩ := fx_append_text HF.out nA (by decide) s (by have := HSS.out; omega)
  have HC := Lib.hid (fxQ hap (one_append (l := []) (q := 0) (by have := HS1.out; have := HSS.out; simp; omega)))
  clear hap
  go_wp2_with fail
  refine HC.out.mono ?_
  rintro e W4 ⟨rfl, hF, hS⟩
  replace HS := Lib.hid (HS.out.trans hS)
  replace HF := Lib.hid hF
  replace pl := hF.lt
  clear hF hS HC hcv
  have HC := Lib.hid (fxQ (fx_sync HF.out nA) (one_sync _ _ _ _))
  go_wp2_with fail
  refine HC.out.mono ?_
  rintro e W5 ⟨rfl, hF, hS⟩
  replace HS := Lib.hid (HS.out.trans hS)
  replace HF := Lib.hid hF
  replace pl := hF.lt
  clear hF hS HC
  have HC := Lib.hid (fxQ (fx_syncDir HF.out) (one_syncDir _ _ _ _))
  go_wp2_with fail
  refine HC.out.mono ?_
  rintro e W6 ⟨rfl, hF, hS⟩
  replace HS := Lib.hid (HS.out.trans hS)
  replace HF := Lib.hid hF
  replace pl := hF.lt
  clear hF hS HC
  obtain ⟨capT, wT, hcv, hap⟩ := fx_append_text HF.out nA (by rw [one_top]; decide) t (by have := HTS.out; omega)
  have HC := Lib.hid (fxQ hap (one_append (by have := HS1.out; have := HSS.out; have := HT1.out; have := HTS.out; simp; omega)))
  clear hap
  go_wp2_with fail
  refine HC.out.mono ?_
  rintro e W7 ⟨rfl, hF, hS⟩
  replace HS := Lib.hid (HS.out.trans hS)
  replace HF := Lib.hid hF
  replace pl := hF.lt
  clear hF hS HC hcv
  obtain ⟨adP, capP, wP, hcp, hbP, hpP, hlP⟩ := copy_picks (HW2.out.1.keep (HS.out.below (Nat.le_refl _) (fun k hk => hk))) HW2.out.2
  have HC := Lib.hid (fx_crash_in (cap := capP) HF.out (by rw [one_top]; decide) hbP hpP hlP)
  clear hbP hpP hlP
  go_wp2_with (at_builtin; refine wpList_app_run rfl rfl hcp rfl rfl ?_)
  refine HC.out.mono ?_
  rintro e W8 ⟨rfl, hF, hS⟩
  replace HS := Lib.hid (HS.out.trans hS)
  replace HF := Lib.hid hF
  replace pl := hF.lt
  clear hF hS HC hcp
  obtain ⟨b, hb1, hb2, hb3, hb4, hb5⟩ := cutL_spec (s := natsOf s) (m := natsOf t) (z2.take len2).tail
  rw [List.nil_append] at HF
  have HF8 : Hid (Fx (fun k => k < W.heap.size) W8 W1.drew.heap.size (one b b.length [] [([97], 0)])) := Lib.hid (by
    have := HF.out
    rw [one_crash, hb1] at this
    exact this)
  rw [HS1.out] at hb2 hb4 hb5
  have hlen : (natsOf s ++ natsOf t).length = s.size + t.size := by rw [List.length_append, HS1.out, HT1.out]
  rw [hlen] at hb3
  have hbb : ∀ x ∈ b, x < 256 := fun x hx => ((HF8.out.ok).fil (b, b.length) (by simp [one])).2.2 x hx
  have hbl : b.length ≤ 1048576 := by have := HSS.out; have := HTS.out; omega
  have HR := Lib.hid (fxRd (fx_read HF8.out nA 0 1048576) (one_read hbl).1 (one_read hbl).2)
  clear HF hb1
  obtain ⟨nb, hnb⟩ : ∃ nb, b.length = nb := ⟨_, rfl⟩
  have HB4 := Lib.hid hb4
  have HB5 := Lib.hid hb5
  have HBB := Lib.hid hbb
  clear hb4 hb5 hbb hlen
  go_wp2_with fail
  refine HR.out.mono ?_
  rintro e W9 ⟨ad, cap, rfl, hby, hnone, hcap, hnew, hbel, hF⟩
  have HS0 := Lib.hid (HS.out.trans (Stay.of_below hbel))
  have HF := Lib.hid hF
  have HBY := Lib.hid hby
  have HNO := Lib.hid hnone
  have HNW := Lib.hid hnew
  have hsl1 := run_cut_to (w := W9) (a := ad) nb cap s.size (by omega)
  have hcv1 := conv_begin hby HBB.out hnone cap s.size hb2
  rw [HB4.out, strOf_natsOf] at hcv1
  have HAL := Lib.hid (show natsOf (s ++ t) = natsOf s ++ natsOf t by unfold natsOf; rw [ByteArray.data_append]; simp)
  have has : (s ++ t).size = s.size + t.size := ByteArray.size_append
  rw [hnb] at hcap hb2 hb3 hbl ⊢
  have HNB := Lib.hid hnb
  replace HS := Lib.hid (Stay.refl (fun k => k < W.heap.size ∨ (W8.heap.size ≤ k ∧ k < W9.heap.size)) W9)
  clear hby hnone hnew hbel hF hnb HR HF8 pl
  have pl := HF.out.lt
  have hadd := fun wx => run_string_add_sum (P := Try.prog) (w := wx) s t (by have := HSS.out; have := HTS.out; omega)
  obtain ⟨al, hal⟩ : ∃ al, s ++ t = al := ⟨_, rfl⟩
  rw [hal] at HAL has
  simp only [hal] at hadd
  clear hal
  by_cases hgt : s.size < nb
  · have HB5' := Lib.hid (HB5.out (by rw [HNB.out]; exact hgt))
    rw [HNB.out] at HB5'
    obtain ⟨k, hk⟩ : ∃ k, nb - 1 = k := ⟨_, rfl⟩
    rw [hk] at HB5'
    have hkn : k < nb := by omega
    have hsk : s.size ≤ k := by omega
    have hka : k < al.size := by omega
    have hkb : k < b.length := by rw [HNB.out]; exact hkn
    have hwr1 : IntKind.i64.wrap ((nb : Int) - 1) = (k : Int) := by rw [IntWalk.i64_in _ (by omega)]; omega
    have hwr2 : wrap64 ((nb : Int) - 1) = (k : Int) := by unfold wrap64; omega
    have hsl2 := fun wx => run_cut_to (w := wx) (a := ad) nb cap k (by omega)
    have hcvb := fun m => conv_begin (HBY.out.drewN m) HBB.out HNO.out cap k (by omega)
    have hxs : strOf (b.take k) = al.extract 0 k := by
      rw [extract_str _ _ _ (by omega), List.drop_zero, HAL.out, HB5'.out.1]
    rw [hxs] at hcvb
    obtain ⟨bb, off, hadd2, hcl⟩ := HBY.out.at hkb
    subst hadd2
    have hxy : b[k] = (al[k]).toNat ∨ b[k] = (al[k]).toNat ^^^ 85 := by
      have h := HB5'.out.2
      have e1 : b.getD k 0 = b[k] := by rw [List.getD_eq_getElem?_getD, List.getElem?_eq_getElem hkb]; rfl
      have e2 : (natsOf s ++ natsOf t).getD k 0 = (al[k]).toNat := by
        rw [← HAL.out, List.getD_eq_getElem?_getD, List.getElem?_eq_getElem (by rw [natsOf_length]; exact hka)]
        exact natsOf_get al k hka
      rw [e1, e2] at h; exact h
    have h256 := (al[k]).toNat_lt
    generalize b[k] = x at hxy hcl
    have hkl : k ≤ al.size := by omega
    have hnl : nb ≤ al.size := by omega
    clear hxs hk has hb3
    rcases hxy with rfl | hxy
    · clear h256
      go_wp2_with fail
      go_quiet (fail)
      replace HF := Lib.hid (HF.out.drewN nq)
      replace HS := Lib.hid (HS.out.trans (Stay.drewN _ _ nq))
      replace pl := HF.out.lt
      clear hsl1 hcv1 hsl2 hcvb
      obtain ⟨adP, capP, wP, hcp, hbP, hpP, hlP⟩ := copy_picks (HW2.out.1.keep ((HS0.out.trans (HS.out.mono (fun k hk => .inl hk))).below (Nat.le_refl _) (fun k hk => hk))) HW2.out.2
      have HC := Lib.hid (fx_crash_in (cap := capP) HF.out (by rw [one_top]; decide) hbP hpP hlP)
      clear hbP hpP hlP
      go_wp2_with (at_builtin; refine wpList_app_run rfl rfl hcp rfl rfl ?_)
      refine HC.out.mono ?_
      rintro e W10 ⟨rfl, hF, hS⟩
      replace HS := Lib.hid (HS.out.trans hS)
      replace HF := Lib.hid hF
      replace pl := hF.lt
      clear hF hS HC hcp
      have HF10 : Hid (Fx (fun k => k < W.heap.size ∨ (W8.heap.size ≤ k ∧ k < W9.heap.size)) W10 W1.drew.heap.size (one b b.length [] [([97], 0)])) := Lib.hid (by
        have := HF.out
        rw [one_crash, cutL_same] at this
        exact this)
      have HR := Lib.hid (fxRd (fx_read HF10.out nA 0 1048576) (one_read (by rw [HNB.out]; exact hbl)).1 (one_read (by rw [HNB.out]; exact hbl)).2)
      rw [HNB.out] at HR
      go_wp2_with fail
      refine HR.out.mono ?_
      rintro e W11 ⟨ad2, cap3, he, hby2, hnone2, hcap2, hnew2, hbel2, hF2⟩
      rw [HNB.out] at he
      subst he
      have hcv2 := conv_begin hby2 HBB.out hnone2 cap3 nb (by rw [HNB.out]; exact Nat.le_refl _)
      have hby3 := (HS.out.trans (Stay.of_below hbel2)).byt HBY.out (fun b off he => .inr (HNW.out b off he))
      have hcv3 := conv_begin hby3 HBB.out HNO.out cap nb (by rw [HNB.out]; exact Nat.le_refl _)
      have HE := Lib.hid (((HS0.out.trans (HS.out.mono (fun k hk => .inl hk))).trans (Stay.of_below hbel2)).below (Nat.le_refl _) (fun k hk => hk))
      generalize strOf (b.take nb) = sb at *
      clear hby2 hnone2 hcap2 hnew2 hbel2 hF2 hby3 HR
      go_wp2
      go_ret
      exact ⟨rfl, HE.out⟩
    · have hne : ¬ (x = (al[k]).toNat) ∨ x = (al[k]).toNat := by omega
      rcases hne with hne | rfl
      · have hxor := bits_xor85 _ h256
        rw [← hxy] at hxor
        have hd1 : ((x : Int) != ((al[k]).toNat : Int)) = true := by simp; omega
        have hd2 : ((x : Int) == ((al[k]).toNat : Int)) = false := by simp; omega
        clear hxy h256
        go_wp2_with fail
        go_quiet (fail)
        replace HF := Lib.hid (HF.out.drewN nq)
        replace HS := Lib.hid (HS.out.trans (Stay.drewN _ _ nq))
        replace pl := HF.out.lt
        clear hsl1 hcv1 hsl2 hcvb
        obtain ⟨adP, capP, wP, hcp, hbP, hpP, hlP⟩ := copy_picks (HW2.out.1.keep ((HS0.out.trans (HS.out.mono (fun k hk => .inl hk))).below (Nat.le_refl _) (fun k hk => hk))) HW2.out.2
        have HC := Lib.hid (fx_crash_in (cap := capP) HF.out (by rw [one_top]; decide) hbP hpP hlP)
        clear hbP hpP hlP
        go_wp2_with (at_builtin; refine wpList_app_run rfl rfl hcp rfl rfl ?_)
        refine HC.out.mono ?_
        rintro e W10 ⟨rfl, hF, hS⟩
        replace HS := Lib.hid (HS.out.trans hS)
        replace HF := Lib.hid hF
        replace pl := hF.lt
        clear hF hS HC hcp
        have HF10 : Hid (Fx (fun k => k < W.heap.size ∨ (W8.heap.size ≤ k ∧ k < W9.heap.size)) W10 W1.drew.heap.size (one b b.length [] [([97], 0)])) := Lib.hid (by
          have := HF.out
          rw [one_crash, cutL_same] at this
          exact this)
        have HR := Lib.hid (fxRd (fx_read HF10.out nA 0 1048576) (one_read (by rw [HNB.out]; exact hbl)).1 (one_read (by rw [HNB.out]; exact hbl)).2)
        rw [HNB.out] at HR
        go_wp2_with fail
        refine HR.out.mono ?_
        rintro e W11 ⟨ad2, cap3, he, hby2, hnone2, hcap2, hnew2, hbel2, hF2⟩
        rw [HNB.out] at he
        subst he
        have hcv2 := conv_begin hby2 HBB.out hnone2 cap3 nb (by rw [HNB.out]; exact Nat.le_refl _)
        have hby3 := (HS.out.trans (Stay.of_below hbel2)).byt HBY.out (fun b off he => .inr (HNW.out b off he))
        have hcv3 := conv_begin hby3 HBB.out HNO.out cap nb (by rw [HNB.out]; exact Nat.le_refl _)
        have HE := Lib.hid (((HS0.out.trans (HS.out.mono (fun k hk => .inl hk))).trans (Stay.of_below hbel2)).below (Nat.le_refl _) (fun k hk => hk))
        generalize strOf (b.take nb) = sb at *
        clear hby2 hnone2 hcap2 hnew2 hbel2 hF2 hby3 HR
        go_wp2
        go_ret
        exact ⟨rfl, HE.out⟩
      · exfalso
        have key : ∀ y : Fin 256, y.val ≠ y.val ^^^ 85 := by decide +kernel
        exact key ⟨_, h256⟩ hxy
  · have hge : ¬ (s.size < nb) := hgt
    clear hgt
    go_wp2_with fail
    go_quiet (fail)
    replace HF := Lib.hid (HF.out.drewN nq)
    replace HS := Lib.hid (HS.out.trans (Stay.drewN _ _ nq))
    replace pl := HF.out.lt
    clear hsl1 hcv1
    obtain ⟨adP, capP, wP, hcp, hbP, hpP, hlP⟩ := copy_picks (HW2.out.1.keep ((HS0.out.trans (HS.out.mono (fun k hk => .inl hk))).below (Nat.le_refl _) (fun k hk => hk))) HW2.out.2
    have HC := Lib.hid (fx_crash_in (cap := capP) HF.out (by rw [one_top]; decide) hbP hpP hlP)
    clear hbP hpP hlP
    go_wp2_with (at_builtin; refine wpList_app_run rfl rfl hcp rfl rfl ?_)
    refine HC.out.mono ?_
    rintro e W10 ⟨rfl, hF, hS⟩
    replace HS := Lib.hid (HS.out.trans hS)
    replace HF := Lib.hid hF
    replace pl := hF.lt
    clear hF hS HC hcp
    have HF10 : Hid (Fx (fun k => k < W.heap.size ∨ (W8.heap.size ≤ k ∧ k < W9.heap.size)) W10 W1.drew.heap.size (one b b.length [] [([97], 0)])) := Lib.hid (by
      have := HF.out
      rw [one_crash, cutL_same] at this
      exact this)
    have HR := Lib.hid (fxRd (fx_read HF10.out nA 0 1048576) (one_read (by rw [HNB.out]; exact hbl)).1 (one_read (by rw [HNB.out]; exact hbl)).2)
    rw [HNB.out] at HR
    go_wp2_with fail
    refine HR.out.mono ?_
    rintro e W11 ⟨ad2, cap3, he, hby2, hnone2, hcap2, hnew2, hbel2, hF2⟩
    rw [HNB.out] at he
    subst he
    have hcv2 := conv_begin hby2 HBB.out hnone2 cap3 nb (by rw [HNB.out]; exact Nat.le_refl _)
    have hby3 := (HS.out.trans (Stay.of_below hbel2)).byt HBY.out (fun b off he => .inr (HNW.out b off he))
    have hcv3 := conv_begin hby3 HBB.out HNO.out cap nb (by rw [HNB.out]; exact Nat.le_refl _)
    have HE := Lib.hid (((HS0.out.trans (HS.out.mono (fun k hk => .inl hk))).trans (Stay.of_below hbel2)).below (Nat.le_refl _) (fun k hk => hk))
    generalize strOf (b.take nb) = sb at *
    clear hby2 hnone2 hcap2 hnew2 hbel2 hF2 hby3 HR
    go_wp2
    go_ret
    exact ⟨rfl, HE.out⟩
end fsCuts
end Go.Proofs.Ytaadfoelaeliiaa
