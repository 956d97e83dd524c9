/-
  The law FsArms, walked.
-/
import Derived.Test.YtaadfoelaeliiaaFsZ3
import Derived.Test.YtaadfoelaeliiaaFsRenW
import Derived.Test.YtaadfoelaeliiaaFsFrame
namespace Go.Proofs.Ytaadfoelaeliiaa
open Go.RowKit Go.Maps
/-- Picks that were laid anew. -/
theorem picks_build (w : World) (l : List Int) (hl : l.length < 100) : PicksG (fun k => w.heap.size ≤ k ∧ k < (w.alloc (.cells (i64s l).toArray 3)).heap.size) (w.alloc (.cells (i64s l).toArray 3)) (some ⟨w.heap.size, 0, none⟩) l := by
  refine ⟨.inr ⟨w.heap.size, 0, rfl, fun i hi => ?_⟩, fun b off he => by cases he; simp, by omega⟩
  rw [Nat.zero_add, cell_of_row _ _ _ _ _ _ (heap_alloc_new w _)]
  simp [i64s, hi]
namespace fsArms

set_option maxRecDepth 100000 in
set_option maxHeartbeats 4000000 in
theorem walk (a0 : Int) (a1 : Option Addr) (len1 cap1 : Nat) (W : World) (_ : (Lit.int .i64 a0).wf = true) (w1 : IsDeeds W a1 len1 cap1) :
    Calls Try.prog 7 #[.int .i64 a0, .slice a1 len1 cap1] W fun e w' => e = .returned (.bool true) ∧ Below W.heap.size W w' := by
  obtain ⟨n, hR1, hR2, hR3, -⟩ := modU a0 50 (by omega) (by omega)
  have hn : n < 50 := by omega
  have kc := fun (w : World) (C : Array Value) (n c : Nat) => Lib.run_convert_bytes_const (P := Try.prog) w 49 5 C n c Try.underlying49 Try.underlying5
  have HF0 := Lib.hid (files_any W)
  have HW1 := Lib.hid w1
  clear w1 hR1
  go_enter Try.func7, Try.ntmps7
  go_wp2_with fail
  refine HF0.out.mono ?_
  rintro e W1 ⟨rfl, b1⟩
  have HS := Lib.hid (show Stay (fun k => k < W.heap.size) W W1 from Stay.of_below b1)
  have HN := Lib.hid (fx_new (G := fun k => k < W.heap.size) W1 1048576 (by omega) (fun k hk => Nat.lt_of_lt_of_le hk HS.out.size))
  clear b1 HF0
  go_wp2_with fail
  refine HN.out.mono ?_
  rintro e W2 ⟨rfl, h1, b1⟩
  replace HS := Lib.hid (HS.out.trans (Stay.of_below b1))
  have HF := Lib.hid h1
  have pl := h1.lt
  clear h1 b1 HN
  obtain ⟨pb, hpb⟩ : ∃ pb, W1.heap.size = pb := ⟨_, rfl⟩
  rw [hpb] at HF pl ⊢
  clear hpb
  have HC := Lib.hid (fxQ (fx_create HF.out nA (by decide)) one_new)
  go_wp2_with fail
  refine HC.out.mono ?_
  rintro e W3 ⟨rfl, hF, hS⟩
  replace HS := Lib.hid (HS.out.trans hS)
  replace HF := Lib.hid hF
  replace pl := hF.lt
  clear hF hS HC
  have HC := Lib.hid (fxA (fx_arm HF.out (n : Int) (by omega)) rfl)
  go_wp2_with fail
  refine HC.out.mono ?_
  rintro e W4 ⟨rfl, hF, hS⟩
  replace HS := Lib.hid (HS.out.trans hS)
  replace HF := Lib.hid hF
  replace pl := hF.lt
  clear hF hS HC
  have HAR := Lib.hid (armd_new n)
  obtain ⟨st, hst⟩ : ∃ st, (one [] 0 [.create [97] 0] []).arm (n : Int) = st := ⟨_, rfl⟩
  rw [hst] at HF HAR
  clear hst hR2 hR3
  go_wp2_with fail
  go_loopw [7, 8, 9, 10] (fun u7 _ _ _ wr => ∃ (i : Nat) (a : A), u7 = .int .i64 i ∧ i ≤ 60 ∧ i ≤ len1 ∧ Fx (fun k => k < W.heap.size) wr pb a ∧ Stay (fun k => k < W.heap.size) W wr ∧ Armd a i n) (fun u7 _ _ _ _ => 60 - (intOf u7).toNat)
  case atStart => exact ⟨0, st, rfl, Nat.zero_le _, Nat.zero_le _, HF.out, HS.out, HAR.out⟩
  case round =>
    obtain ⟨i, a, rfl, hi60, hil, hF, hS, hA⟩ := hrel
    have HFr := Lib.hid hF
    have HSr := Lib.hid hS
    have HAr := Lib.hid hA
    have plr := hF.lt
    clear hF hS hA HF HS HAR pl
    by_cases hin : i < len1 ∧ i < 60
    · obtain ⟨hin, hi2⟩ := hin
      obtain ⟨b, off, hab, hblt, d, hd⟩ := HW1.out.2.2 i hin
      have hcell := (hd.keep (HSr.out.below (Nat.le_refl _) (fun k hk => hk)) hblt).c0
      subst hab
      generalize d.call = c at *
      clear hd
      have hmod : (IntKind.u64.wrap c).tmod 3 = 0 ∨ (IntKind.u64.wrap c).tmod 3 = 1 ∨ (IntKind.u64.wrap c).tmod 3 = 2 := by
        rw [u64_val, Int.tmod_eq_emod_of_nonneg (by omega)]; omega
      rcases hmod with hmod | hmod | hmod
      · obtain ⟨a', ha', hA'⟩ := HAr.out.app (by omega)
        have HA' := Lib.hid hA'
        have HZ := Lib.hid hA'.sizeE
        have HO := Lib.hid hA'.off
        by_cases hlt : i < n
        · rw [if_pos hlt] at ha'
          rw [if_neg (by omega)] at HZ
          rw [decide_eq_false (by omega)] at HO
          have HAP := Lib.hid ha'
          clear ha' hA'
          have HF := HFr
          have HS := HSr
          have pl := plr
          have HC := Lib.hid (fxQ (fx_append_new (m := 1) (c := 1) HF.out nA (by have := HAr.out.top; omega) [120] rfl (by decide) (by decide) (1, 2) rfl) HAP.out)
          go_wp2_with fail
          refine HC.out.mono ?_
          rintro e W5 ⟨rfl, hF, hS⟩
          replace HS := Lib.hid (HS.out.trans hS)
          replace HF := Lib.hid hF
          replace pl := hF.lt
          clear hF hS HC
          obtain ⟨zz, hzz⟩ := fx_size_E HF.out nA HZ.out
          have HZ2 := Lib.hid hzz
          have HOF := Lib.hid (fx_off HF.out)
          rw [HO.out] at HOF
          clear hzz
          go_wp2_with fail
          refine HZ2.out.mono ?_
          rintro e W6 ⟨rfl, rfl⟩
          go_wp2_with fail
          refine HOF.out.mono ?_
          rintro e W6 ⟨rfl, rfl⟩
          go_wp2
          go_roundw
          case rel => exact ⟨i + 1, a', by go_num, by omega, by omega, HF.out, HS.out, HA'.out⟩
          case measure => simp [intOf]; omega
        · rw [if_neg hlt] at ha'
          rw [if_pos (by omega)] at HZ
          rw [decide_eq_true (by omega)] at HO
          have HAP := Lib.hid ha'
          clear ha' hA'
          have HF := HFr
          have HS := HSr
          have pl := plr
          have HC := Lib.hid (fxQ (fx_append_new (m := 1) (c := 1) HF.out nA (by have := HAr.out.top; omega) [120] rfl (by decide) (by decide) (1, 2) rfl) HAP.out)
          go_wp2_with fail
          refine HC.out.mono ?_
          rintro e W5 ⟨rfl, hF, hS⟩
          replace HS := Lib.hid (HS.out.trans hS)
          replace HF := Lib.hid hF
          replace pl := hF.lt
          clear hF hS HC
          obtain ⟨zz, hzz⟩ := fx_size_E HF.out nA HZ.out
          have HZ2 := Lib.hid hzz
          have HOF := Lib.hid (fx_off HF.out)
          rw [HO.out] at HOF
          clear hzz
          go_wp2_with fail
          refine HZ2.out.mono ?_
          rintro e W6 ⟨rfl, rfl⟩
          go_wp2_with fail
          refine HOF.out.mono ?_
          rintro e W6 ⟨rfl, rfl⟩
          go_wp2
          go_roundw
          case rel => exact ⟨i + 1, a', by go_num, by omega, by omega, HF.out, HS.out, HA'.out⟩
          case measure => simp [intOf]; omega
      · obtain ⟨a', ha', hA'⟩ := HAr.out.sync
        have HA' := Lib.hid hA'
        have HZ := Lib.hid hA'.sizeE
        have HO := Lib.hid hA'.off
        by_cases hlt : i < n
        · rw [if_pos hlt] at ha'
          rw [if_neg (by omega)] at HZ
          rw [decide_eq_false (by omega)] at HO
          have HAP := Lib.hid ha'
          clear ha' hA'
          have HF := HFr
          have HS := HSr
          have pl := plr
          have HC := Lib.hid (fxQ (fx_sync HF.out nA) HAP.out)
          go_wp2_with fail
          refine HC.out.mono ?_
          rintro e W5 ⟨rfl, hF, hS⟩
          replace HS := Lib.hid (HS.out.trans hS)
          replace HF := Lib.hid hF
          replace pl := hF.lt
          clear hF hS HC
          obtain ⟨zz, hzz⟩ := fx_size_E HF.out nA HZ.out
          have HZ2 := Lib.hid hzz
          have HOF := Lib.hid (fx_off HF.out)
          rw [HO.out] at HOF
          clear hzz
          go_wp2_with fail
          refine HZ2.out.mono ?_
          rintro e W6 ⟨rfl, rfl⟩
          go_wp2_with fail
          refine HOF.out.mono ?_
          rintro e W6 ⟨rfl, rfl⟩
          go_wp2
          go_roundw
          case rel => exact ⟨i + 1, a', by go_num, by omega, by omega, HF.out, HS.out, HA'.out⟩
          case measure => simp [intOf]; omega
        · rw [if_neg hlt] at ha'
          rw [if_pos (by omega)] at HZ
          rw [decide_eq_true (by omega)] at HO
          have HAP := Lib.hid ha'
          clear ha' hA'
          have HF := HFr
          have HS := HSr
          have pl := plr
          have HC := Lib.hid (fxQ (fx_sync HF.out nA) HAP.out)
          go_wp2_with fail
          refine HC.out.mono ?_
          rintro e W5 ⟨rfl, hF, hS⟩
          replace HS := Lib.hid (HS.out.trans hS)
          replace HF := Lib.hid hF
          replace pl := hF.lt
          clear hF hS HC
          obtain ⟨zz, hzz⟩ := fx_size_E HF.out nA HZ.out
          have HZ2 := Lib.hid hzz
          have HOF := Lib.hid (fx_off HF.out)
          rw [HO.out] at HOF
          clear hzz
          go_wp2_with fail
          refine HZ2.out.mono ?_
          rintro e W6 ⟨rfl, rfl⟩
          go_wp2_with fail
          refine HOF.out.mono ?_
          rintro e W6 ⟨rfl, rfl⟩
          go_wp2
          go_roundw
          case rel => exact ⟨i + 1, a', by go_num, by omega, by omega, HF.out, HS.out, HA'.out⟩
          case measure => simp [intOf]; omega
      · obtain ⟨a', ha', hA'⟩ := HAr.out.syncDir
        have HA' := Lib.hid hA'
        have HZ := Lib.hid hA'.sizeE
        have HO := Lib.hid hA'.off
        by_cases hlt : i < n
        · rw [if_pos hlt] at ha'
          rw [if_neg (by omega)] at HZ
          rw [decide_eq_false (by omega)] at HO
          have HAP := Lib.hid ha'
          clear ha' hA'
          have HF := HFr
          have HS := HSr
          have pl := plr
          have HC := Lib.hid (fxQ (fx_syncDir HF.out) HAP.out)
          go_wp2_with fail
          refine HC.out.mono ?_
          rintro e W5 ⟨rfl, hF, hS⟩
          replace HS := Lib.hid (HS.out.trans hS)
          replace HF := Lib.hid hF
          replace pl := hF.lt
          clear hF hS HC
          obtain ⟨zz, hzz⟩ := fx_size_E HF.out nA HZ.out
          have HZ2 := Lib.hid hzz
          have HOF := Lib.hid (fx_off HF.out)
          rw [HO.out] at HOF
          clear hzz
          go_wp2_with fail
          refine HZ2.out.mono ?_
          rintro e W6 ⟨rfl, rfl⟩
          go_wp2_with fail
          refine HOF.out.mono ?_
          rintro e W6 ⟨rfl, rfl⟩
          go_wp2
          go_roundw
          case rel => exact ⟨i + 1, a', by go_num, by omega, by omega, HF.out, HS.out, HA'.out⟩
          case measure => simp [intOf]; omega
        · rw [if_neg hlt] at ha'
          rw [if_pos (by omega)] at HZ
          rw [decide_eq_true (by omega)] at HO
          have HAP := Lib.hid ha'
          clear ha' hA'
          have HF := HFr
          have HS := HSr
          have pl := plr
          have HC := Lib.hid (fxQ (fx_syncDir HF.out) HAP.out)
          go_wp2_with fail
          refine HC.out.mono ?_
          rintro e W5 ⟨rfl, hF, hS⟩
          replace HS := Lib.hid (HS.out.trans hS)
          replace HF := Lib.hid hF
          replace pl := hF.lt
          clear hF hS HC
          obtain ⟨zz, hzz⟩ := fx_size_E HF.out nA HZ.out
          have HZ2 := Lib.hid hzz
          have HOF := Lib.hid (fx_off HF.out)
          rw [HO.out] at HOF
          clear hzz
          go_wp2_with fail
          refine HZ2.out.mono ?_
          rintro e W6 ⟨rfl, rfl⟩
          go_wp2_with fail
          refine HOF.out.mono ?_
          rintro e W6 ⟨rfl, rfl⟩
          go_wp2
          go_roundw
          case rel => exact ⟨i + 1, a', by go_num, by omega, by omega, HF.out, HS.out, HA'.out⟩
          case measure => simp [intOf]; omega
    · by_cases hin1 : i < len1
      · have hi2 : ¬ (i < 60) := by omega
        have HF := HFr
        have HS := HSr
        have pl := plr
        have HC := Lib.hid (fx_crash_in (cap := 2) (n := 2) HF.out (by have := HAr.out.top; omega) (bel1 wr _) (picks_build wr [9, 9] (by decide)) rfl)
        go_wp2_with fail
        refine HC.out.mono ?_
        rintro e W5 ⟨rfl, hF, hS⟩
        replace HS := Lib.hid (HS.out.trans hS)
        replace HF := Lib.hid hF
        replace pl := hF.lt
        clear hF hS HC
        have HOF := Lib.hid (fx_off HF.out)
        go_wp2_with fail
        refine HOF.out.mono ?_
        rintro e W6 ⟨rfl, rfl⟩
        obtain ⟨a2, ha2⟩ := crash_syncDir a [9, 9]
        have HA2 := Lib.hid ha2
        clear ha2
        have HC := Lib.hid (fxQ (fx_syncDir HF.out) HA2.out)
        go_wp2_with fail
        refine HC.out.mono ?_
        rintro e W7 ⟨rfl, hF, hS⟩
        replace HS := Lib.hid (HS.out.trans hS)
        replace HF := Lib.hid hF
        replace pl := hF.lt
        clear hF hS HC
        go_wp2
        go_ret
        exact ⟨rfl, HS.out.below (Nat.le_refl _) (fun k hk => hk)⟩
      · have HF := HFr
        have HS := HSr
        have pl := plr
        have HC := Lib.hid (fx_crash_in (cap := 2) (n := 2) HF.out (by have := HAr.out.top; omega) (bel1 wr _) (picks_build wr [9, 9] (by decide)) rfl)
        go_wp2_with fail
        refine HC.out.mono ?_
        rintro e W5 ⟨rfl, hF, hS⟩
        replace HS := Lib.hid (HS.out.trans hS)
        replace HF := Lib.hid hF
        replace pl := hF.lt
        clear hF hS HC
        have HOF := Lib.hid (fx_off HF.out)
        go_wp2_with fail
        refine HOF.out.mono ?_
        rintro e W6 ⟨rfl, rfl⟩
        obtain ⟨a2, ha2⟩ := crash_syncDir a [9, 9]
        have HA2 := Lib.hid ha2
        clear ha2
        have HC := Lib.hid (fxQ (fx_syncDir HF.out) HA2.out)
        go_wp2_with fail
        refine HC.out.mono ?_
        rintro e W7 ⟨rfl, hF, hS⟩
        replace HS := Lib.hid (HS.out.trans hS)
        replace HF := Lib.hid hF
        replace pl := hF.lt
        clear hF hS HC
        go_wp2
        go_ret
        exact ⟨rfl, HS.out.below (Nat.le_refl _) (fun k hk => hk)⟩
end fsArms
end Go.Proofs.Ytaadfoelaeliiaa
