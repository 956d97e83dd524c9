/-
  The law FsRenames, walked.
-/
import Derived.Test.YtaadfoelaeliiaaFsZ2
import Derived.Test.YtaadfoelaeliiaaFsRoomW
namespace Go.Proofs.Ytaadfoelaeliiaa
open Go.RowKit Go.Maps
def swapV (a0 a1 : ByteArray) (k : Int) (ad : Option Addr) (len cap : Nat) : Value := .agg #[.string a0, .string a1, .int .i64 k, .slice ad len cap]
theorem fxA {G : Nat → Prop} {f : FuncId} {args : Array Value} {w W : World} {pb : Nat} {a a' : A} (h : Calls Try.prog f args W fun e w' => e = .returned (.tuple #[]) ∧ Fx G w' pb a ∧ Stay G w w') (h1 : a = a') :
    Calls Try.prog f args W fun e w' => e = .returned (.tuple #[]) ∧ Fx G w' pb a' ∧ Stay G w w' := by subst h1; exact h
theorem stay_cell {G : Nat → Prop} {w w' : World} (h : Stay G w w') {b i : Nat} {v : Value} (hb : b < w.heap.size) (hG : G b) (hc : w.cell? ⟨b, i, none⟩ = some v) : w'.cell? ⟨b, i, none⟩ = some v :=
  (World.cell?_of_block (a := ⟨b, i, none⟩) (h.block b hb hG)).trans hc
theorem str_eq {s t : ByteArray} : (s.toList == t.toList) = decide (s = t) := by
  have h := @str_ne s t
  rw [bne] at h
  by_cases e : s = t
  · subst e; simp
  · rw [decide_eq_true (show s ≠ t from e)] at h
    rw [decide_eq_false e]
    cases hx : (s.toList == t.toList) with
    | false => rfl
    | true => rw [hx] at h; cases h
theorem fx_size_any {G : Nat → Prop} {w : World} {pb : Nat} {a : A} (h : Fx G w pb a) (s : ByteArray) : ∃ z E : Int, Calls Try.prog 30 #[bp pb, .string s] w fun e w' => e = .returned (.tuple #[.int .i64 z, .int .i64 E]) ∧ w = w' := ⟨_, _, fx_size h s⟩
theorem fx_size_E {G : Nat → Prop} {w : World} {pb : Nat} {a : A} (h : Fx G w pb a) (s : ByteArray) {E : Int} (hE : a.sizeE s.data.toList = E) : ∃ z : Int, Calls Try.prog 30 #[bp pb, .string s] w fun e w' => e = .returned (.tuple #[.int .i64 z, .int .i64 E]) ∧ w = w' := by
  subst hE; exact ⟨_, fx_size h s⟩
namespace fsRenames

set_option maxRecDepth 100000 in
set_option maxHeartbeats 2000000 in
theorem walk (a0 a1 : ByteArray) (k : Int) (ad : Option Addr) (len cap : Nat) (zs : List Int) (W : World) (wr : IsRowI W ad len cap zs) :
    Calls Try.prog 6 #[swapV a0 a1 k ad len cap] W fun e w' => e = .returned (.bool true) ∧ Below W.heap.size W w' := by
  obtain ⟨k0, hk0⟩ : ∃ k0, min a0.size 500 = k0 := ⟨_, rfl⟩
  obtain ⟨k1, hk1⟩ : ∃ k1, min a1.size 500 = k1 := ⟨_, rfl⟩
  have hm0 := fun ts t wx => run_min2 (P := Try.prog) (w := wx) ts t (a0.size : Int) 500 (k0 : Int) (by omega)
  have hm1 := fun ts t wx => run_min2 (P := Try.prog) (w := wx) ts t (a1.size : Int) 500 (k1 : Int) (by omega)
  have l0 : k0 ≤ a0.size := by omega
  have l1 : k1 ≤ a1.size := by omega
  have HK0 := Lib.hid (show k0 ≤ 500 by omega)
  have HK1 := Lib.hid (show k1 ≤ 500 by omega)
  have HWR := Lib.hid wr
  clear hk0 hk1 wr
  unfold swapV
  go_enter Try.func6, Try.ntmps6
  go_wp2_with fail
  -- BODY
  obtain ⟨Wb, hWb⟩ : ∃ Wb, W.alloc (.cells #[.string a0, .string a1, .int .i64 k, .slice ad len cap] 58) = Wb := ⟨_, rfl⟩
  rw [hWb]
  have hbb : Wb.heap[W.heap.size]? = some (.cells #[.string a0, .string a1, .int .i64 k, .slice ad len cap] 58 (0, 0)) := by rw [← hWb]; exact heap_alloc_new W _
  have q0 : Wb.cell? ⟨W.heap.size, 0, none⟩ = some (.string a0) := by rw [cell_of_row _ _ 0 _ _ _ hbb]; rfl
  have q1 : Wb.cell? ⟨W.heap.size, 1, none⟩ = some (.string a1) := by rw [cell_of_row _ _ 1 _ _ _ hbb]; rfl
  have q2 : Wb.cell? ⟨W.heap.size, 2, none⟩ = some (.int .i64 k) := by rw [cell_of_row _ _ 2 _ _ _ hbb]; rfl
  have q3 : Wb.cell? ⟨W.heap.size, 3, none⟩ = some (.slice ad len cap) := by rw [cell_of_row _ _ 3 _ _ _ hbb]; rfl
  have HWB := Lib.hid (show Below W.heap.size W Wb by rw [← hWb]; exact bel1 W _)
  have HWS := Lib.hid (show Wb.heap.size = W.heap.size + 1 by rw [← hWb]; simp)
  have HQ2 := Lib.hid q2
  have HQ3 := Lib.hid q3
  have HQ := Lib.hid (And.intro q0 q1)
  clear hWb hbb q0 q1 q2 q3
  refine (files_any Wb).mono ?_
  rintro e W1 ⟨rfl, b1⟩
  have HS := Lib.hid (show Stay (fun k => k < Wb.heap.size) Wb W1 from Stay.of_below b1)
  have hlt : W.heap.size < Wb.heap.size := by rw [HWS.out]; omega
  have q0 := stay_cell HS.out hlt hlt HQ.out.1
  have q1 := stay_cell HS.out hlt hlt HQ.out.2
  clear b1
  go_wp2_with fail
  go_region
  go_wp2_with fail
  have HN := Lib.hid (fx_new (G := fun k => k < Wb.heap.size) W1.drew 1048576 (by omega) (fun k hk => Nat.lt_of_lt_of_le hk HS.out.size))
  replace HS := Lib.hid (HS.out.trans (show Stay (fun k => k < Wb.heap.size) W1 W1.drew from Stay.drewN _ W1 1))
  refine HN.out.mono ?_
  rintro e W2 ⟨rfl, h1, b1⟩
  replace HS := Lib.hid (HS.out.trans (Stay.of_below b1))
  have HF := Lib.hid h1
  have pl := h1.lt
  clear h1 b1 HN q0 q1
  obtain ⟨s, hs⟩ : ∃ s, a0.extract 0 k0 = s := ⟨_, rfl⟩
  obtain ⟨t, ht⟩ : ∃ t, a1.extract 0 k1 = t := ⟨_, rfl⟩
  have hss : s.size ≤ 500 := by rw [← hs, ByteArray.size_extract]; have := HK0.out; omega
  have hts : t.size ≤ 500 := by rw [← ht, ByteArray.size_extract]; have := HK1.out; omega
  rw [hs, ht]
  have HS1 := Lib.hid (natsOf_length s)
  have HT1 := Lib.hid (natsOf_length t)
  have HSS := Lib.hid hss
  have HTS := Lib.hid hts
  clear hs ht hss hts
  obtain ⟨pb, hpb⟩ : ∃ pb, W1.drew.heap.size = pb := ⟨_, rfl⟩
  rw [hpb] at HF pl ⊢
  clear hpb hm0 hm1 l0 l1
  have HC := Lib.hid (fxQ (fx_create HF.out nCur (by decide)) r0_new)
  go_wp2_with fail
  refine HC.out.mono ?_
  rintro e W3 ⟨rfl, hF, hS⟩
  replace HS := Lib.hid (HS.out.trans hS)
  replace HF := Lib.hid hF
  replace pl := hF.lt
  clear hF hS HC
  obtain ⟨capT, wT, hcv, hap⟩ := fx_append_text HF.out nCur (by decide) s (by have := HSS.out; omega)
  have HC := Lib.hid (fxQ hap (r0_append (l := []) (q := 0) (by have := HS1.out; have := HSS.out; simp; omega)))
  clear hap
  go_wp2_with fail
  refine HC.out.mono ?_
  rintro e W4 ⟨rfl, hF, hS⟩
  replace HS := Lib.hid (HS.out.trans hS)
  replace HF := Lib.hid hF
  replace pl := hF.lt
  clear hF hS HC hcv
  have HC := Lib.hid (fxQ (fx_sync HF.out nCur) (r0_sync _ _ _ _))
  go_wp2_with fail
  refine HC.out.mono ?_
  rintro e W5 ⟨rfl, hF, hS⟩
  replace HS := Lib.hid (HS.out.trans hS)
  replace HF := Lib.hid hF
  replace pl := hF.lt
  clear hF hS HC
  have HC := Lib.hid (fxQ (fx_syncDir HF.out) (r0_syncDir _ _ _ _))
  go_wp2_with fail
  refine HC.out.mono ?_
  rintro e W6 ⟨rfl, hF, hS⟩
  replace HS := Lib.hid (HS.out.trans hS)
  replace HF := Lib.hid hF
  replace pl := hF.lt
  clear hF hS HC
  rw [List.nil_append] at HF
  have q2 := stay_cell HS.out hlt hlt HQ2.out
  obtain ⟨K, hK1, hK2, hK3, -⟩ := modU k 8 (by omega) (by omega)
  have HKL := Lib.hid hK1
  clear hK1
  have HC := Lib.hid (fxA (fx_arm HF.out (K : Int) (by have := HKL.out; omega)) (r0_arm _ _ _))
  go_wp2_with fail
  refine HC.out.mono ?_
  rintro e W7 ⟨rfl, hF, hS⟩
  replace HS := Lib.hid (HS.out.trans hS)
  replace HF := Lib.hid hF
  replace pl := hF.lt
  clear hF hS HC
  clear q2 hK2 hK3
  rcases (show K = 0 ∨ K = 1 ∨ K = 2 ∨ K = 3 ∨ K = 4 ∨ ∃ r, K = r + 5 by
    by_cases h : K ≤ 4
    · omega
    · exact .inr (.inr (.inr (.inr (.inr ⟨K - 5, by omega⟩))))) with rfl | rfl | rfl | rfl | rfl | ⟨r, rfl⟩
  · skip
    have HC := Lib.hid (fxQ (fx_create HF.out nTmp (by rw [rs_top]; decide)) (create_down (natsOf s) _))
    go_wp2_with fail
    refine HC.out.mono ?_
    rintro e W8 ⟨rfl, hF, hS⟩
    replace HS := Lib.hid (HS.out.trans hS)
    replace HF := Lib.hid hF
    replace pl := hF.lt
    clear hF hS HC
    have q3 := stay_cell HS.out hlt hlt HQ3.out
    have hl3 := Nat.lt_of_lt_of_le hlt HS.out.size
    obtain ⟨adP, capP, wP, hcp, hbP, hpP, hlP⟩ := copy_picks (HWR.out.1.keep (HWB.out.trans (HS.out.below (by omega) (fun k hk => by omega)))) HWR.out.2
    have HC := Lib.hid (fx_crash_in (cap := capP) HF.out (by rw [rs_top]; decide) hbP hpP hlP)
    clear hbP hpP hlP
    go_wp2_with (at_builtin; refine wpList_app_run rfl rfl hcp rfl rfl ?_)
    refine HC.out.mono ?_
    rintro e W13 ⟨rfl, hF, hS⟩
    replace HS := Lib.hid (HS.out.trans hS)
    replace HF := Lib.hid hF
    replace pl := hF.lt
    clear hF hS HC hcp
    clear q3 hl3
    have HR := Lib.hid (fxRd (fx_read HF.out nCur 0 1048576) (sees_0 (natsOf s) true 0 (zs.take len) (by have := HS1.out; have := HSS.out; omega)).1 (sees_0 (natsOf s) true 0 (zs.take len) (by have := HS1.out; have := HSS.out; omega)).2)
    go_wp2_with fail
    refine HR.out.mono ?_
    rintro e W14 ⟨ad2, cap2, he, hby, hnone, hcap, hnew, hbel, hF⟩
    rw [natsOf_length] at he
    subst he
    have hcv := conv_bytes hby (natsOf_byte _) hnone cap2 _ (natsOf_length _)
    rw [strOf_natsOf] at hcv
    have HE := Lib.hid (show Below W.heap.size W W14 from (HWB.out.trans ((HS.out.trans (Stay.of_below hbel)).below (by omega) (fun k hk => by omega))))
    obtain ⟨zz, zE, hzz⟩ := fx_size_any hF nTmp
    have HZ := Lib.hid hzz
    clear hzz
    clear hby hnone hcap hnew hbel hF HR
    go_wp2_with fail
    refine HZ.out.mono ?_
    rintro e W15 ⟨rfl, rfl⟩
    go_wp2
    go_ret
    exact ⟨rfl, HE.out⟩
  · skip
    have HC := Lib.hid (fxQ (fx_create HF.out nTmp (by rw [rs_top]; decide)) (create_up (natsOf s) 0 _))
    go_wp2_with fail
    refine HC.out.mono ?_
    rintro e W8 ⟨rfl, hF, hS⟩
    replace HS := Lib.hid (HS.out.trans hS)
    replace HF := Lib.hid hF
    replace pl := hF.lt
    clear hF hS HC
    obtain ⟨capT, wT, hcv, hap⟩ := fx_append_text HF.out nTmp (by rw [rs_top]; decide) t (by have := HTS.out; omega)
    have HC := Lib.hid (fxQ hap (append_down (natsOf s) (natsOf t) _ (by have := HS1.out; have := HSS.out; have := HT1.out; have := HTS.out; omega)))
    clear hap
    go_wp2_with fail
    refine HC.out.mono ?_
    rintro e W9 ⟨rfl, hF, hS⟩
    replace HS := Lib.hid (HS.out.trans hS)
    replace HF := Lib.hid hF
    replace pl := hF.lt
    clear hF hS HC hcv
    have q3 := stay_cell HS.out hlt hlt HQ3.out
    have hl3 := Nat.lt_of_lt_of_le hlt HS.out.size
    obtain ⟨adP, capP, wP, hcp, hbP, hpP, hlP⟩ := copy_picks (HWR.out.1.keep (HWB.out.trans (HS.out.below (by omega) (fun k hk => by omega)))) HWR.out.2
    have HC := Lib.hid (fx_crash_in (cap := capP) HF.out (by rw [rs_top]; decide) hbP hpP hlP)
    clear hbP hpP hlP
    go_wp2_with (at_builtin; refine wpList_app_run rfl rfl hcp rfl rfl ?_)
    refine HC.out.mono ?_
    rintro e W13 ⟨rfl, hF, hS⟩
    replace HS := Lib.hid (HS.out.trans hS)
    replace HF := Lib.hid hF
    replace pl := hF.lt
    clear hF hS HC hcp
    clear q3 hl3
    have HR := Lib.hid (fxRd (fx_read HF.out nCur 0 1048576) (sees_1 (natsOf s) true 0 (zs.take len) _ (by have := HS1.out; have := HSS.out; omega)).1 (sees_1 (natsOf s) true 0 (zs.take len) _ (by have := HS1.out; have := HSS.out; omega)).2)
    go_wp2_with fail
    refine HR.out.mono ?_
    rintro e W14 ⟨ad2, cap2, he, hby, hnone, hcap, hnew, hbel, hF⟩
    rw [natsOf_length] at he
    subst he
    have hcv := conv_bytes hby (natsOf_byte _) hnone cap2 _ (natsOf_length _)
    rw [strOf_natsOf] at hcv
    have HE := Lib.hid (show Below W.heap.size W W14 from (HWB.out.trans ((HS.out.trans (Stay.of_below hbel)).below (by omega) (fun k hk => by omega))))
    obtain ⟨zz, zE, hzz⟩ := fx_size_any hF nTmp
    have HZ := Lib.hid hzz
    clear hzz
    clear hby hnone hcap hnew hbel hF HR
    go_wp2_with fail
    refine HZ.out.mono ?_
    rintro e W15 ⟨rfl, rfl⟩
    go_wp2
    go_ret
    exact ⟨rfl, HE.out⟩
  · skip
    have HC := Lib.hid (fxQ (fx_create HF.out nTmp (by rw [rs_top]; decide)) (create_up (natsOf s) 1 _))
    go_wp2_with fail
    refine HC.out.mono ?_
    rintro e W8 ⟨rfl, hF, hS⟩
    replace HS := Lib.hid (HS.out.trans hS)
    replace HF := Lib.hid hF
    replace pl := hF.lt
    clear hF hS HC
    obtain ⟨capT, wT, hcv, hap⟩ := fx_append_text HF.out nTmp (by rw [rs_top]; decide) t (by have := HTS.out; omega)
    have HC := Lib.hid (fxQ hap (append_up (natsOf s) (natsOf t) 0 _ (by have := HS1.out; have := HSS.out; have := HT1.out; have := HTS.out; omega)))
    clear hap
    go_wp2_with fail
    refine HC.out.mono ?_
    rintro e W9 ⟨rfl, hF, hS⟩
    replace HS := Lib.hid (HS.out.trans hS)
    replace HF := Lib.hid hF
    replace pl := hF.lt
    clear hF hS HC hcv
    have HC := Lib.hid (fxQ (fx_sync HF.out nTmp) (sync_down (natsOf s) (natsOf t) _))
    go_wp2_with fail
    refine HC.out.mono ?_
    rintro e W10 ⟨rfl, hF, hS⟩
    replace HS := Lib.hid (HS.out.trans hS)
    replace HF := Lib.hid hF
    replace pl := hF.lt
    clear hF hS HC
    have q3 := stay_cell HS.out hlt hlt HQ3.out
    have hl3 := Nat.lt_of_lt_of_le hlt HS.out.size
    obtain ⟨adP, capP, wP, hcp, hbP, hpP, hlP⟩ := copy_picks (HWR.out.1.keep (HWB.out.trans (HS.out.below (by omega) (fun k hk => by omega)))) HWR.out.2
    have HC := Lib.hid (fx_crash_in (cap := capP) HF.out (by rw [rs_top]; decide) hbP hpP hlP)
    clear hbP hpP hlP
    go_wp2_with (at_builtin; refine wpList_app_run rfl rfl hcp rfl rfl ?_)
    refine HC.out.mono ?_
    rintro e W13 ⟨rfl, hF, hS⟩
    replace HS := Lib.hid (HS.out.trans hS)
    replace HF := Lib.hid hF
    replace pl := hF.lt
    clear hF hS HC hcp
    clear q3 hl3
    have HR := Lib.hid (fxRd (fx_read HF.out nCur 0 1048576) (sees_1 (natsOf s) true 0 (zs.take len) _ (by have := HS1.out; have := HSS.out; omega)).1 (sees_1 (natsOf s) true 0 (zs.take len) _ (by have := HS1.out; have := HSS.out; omega)).2)
    go_wp2_with fail
    refine HR.out.mono ?_
    rintro e W14 ⟨ad2, cap2, he, hby, hnone, hcap, hnew, hbel, hF⟩
    rw [natsOf_length] at he
    subst he
    have hcv := conv_bytes hby (natsOf_byte _) hnone cap2 _ (natsOf_length _)
    rw [strOf_natsOf] at hcv
    have HE := Lib.hid (show Below W.heap.size W W14 from (HWB.out.trans ((HS.out.trans (Stay.of_below hbel)).below (by omega) (fun k hk => by omega))))
    obtain ⟨zz, zE, hzz⟩ := fx_size_any hF nTmp
    have HZ := Lib.hid hzz
    clear hzz
    clear hby hnone hcap hnew hbel hF HR
    go_wp2_with fail
    refine HZ.out.mono ?_
    rintro e W15 ⟨rfl, rfl⟩
    go_wp2
    go_ret
    exact ⟨rfl, HE.out⟩
  · skip
    have HC := Lib.hid (fxQ (fx_create HF.out nTmp (by rw [rs_top]; decide)) (create_up (natsOf s) 2 _))
    go_wp2_with fail
    refine HC.out.mono ?_
    rintro e W8 ⟨rfl, hF, hS⟩
    replace HS := Lib.hid (HS.out.trans hS)
    replace HF := Lib.hid hF
    replace pl := hF.lt
    clear hF hS HC
    obtain ⟨capT, wT, hcv, hap⟩ := fx_append_text HF.out nTmp (by rw [rs_top]; decide) t (by have := HTS.out; omega)
    have HC := Lib.hid (fxQ hap (append_up (natsOf s) (natsOf t) 1 _ (by have := HS1.out; have := HSS.out; have := HT1.out; have := HTS.out; omega)))
    clear hap
    go_wp2_with fail
    refine HC.out.mono ?_
    rintro e W9 ⟨rfl, hF, hS⟩
    replace HS := Lib.hid (HS.out.trans hS)
    replace HF := Lib.hid hF
    replace pl := hF.lt
    clear hF hS HC hcv
    have HC := Lib.hid (fxQ (fx_sync HF.out nTmp) (sync_up (natsOf s) (natsOf t) 0 _))
    go_wp2_with fail
    refine HC.out.mono ?_
    rintro e W10 ⟨rfl, hF, hS⟩
    replace HS := Lib.hid (HS.out.trans hS)
    replace HF := Lib.hid hF
    replace pl := hF.lt
    clear hF hS HC
    have HC := Lib.hid (fxQ (fx_rename HF.out nTmp nCur (by rw [rs_top]; decide)) (rename_down (natsOf s) (natsOf t) _))
    go_wp2_with fail
    refine HC.out.mono ?_
    rintro e W11 ⟨rfl, hF, hS⟩
    replace HS := Lib.hid (HS.out.trans hS)
    replace HF := Lib.hid hF
    replace pl := hF.lt
    clear hF hS HC
    have q3 := stay_cell HS.out hlt hlt HQ3.out
    have hl3 := Nat.lt_of_lt_of_le hlt HS.out.size
    obtain ⟨adP, capP, wP, hcp, hbP, hpP, hlP⟩ := copy_picks (HWR.out.1.keep (HWB.out.trans (HS.out.below (by omega) (fun k hk => by omega)))) HWR.out.2
    have HC := Lib.hid (fx_crash_in (cap := capP) HF.out (by rw [rs_top]; decide) hbP hpP hlP)
    clear hbP hpP hlP
    go_wp2_with (at_builtin; refine wpList_app_run rfl rfl hcp rfl rfl ?_)
    refine HC.out.mono ?_
    rintro e W13 ⟨rfl, hF, hS⟩
    replace HS := Lib.hid (HS.out.trans hS)
    replace HF := Lib.hid hF
    replace pl := hF.lt
    clear hF hS HC hcp
    clear q3 hl3
    have HR := Lib.hid (fxRd (fx_read HF.out nCur 0 1048576) (sees_1 (natsOf s) true 0 (zs.take len) _ (by have := HS1.out; have := HSS.out; omega)).1 (sees_1 (natsOf s) true 0 (zs.take len) _ (by have := HS1.out; have := HSS.out; omega)).2)
    go_wp2_with fail
    refine HR.out.mono ?_
    rintro e W14 ⟨ad2, cap2, he, hby, hnone, hcap, hnew, hbel, hF⟩
    rw [natsOf_length] at he
    subst he
    have hcv := conv_bytes hby (natsOf_byte _) hnone cap2 _ (natsOf_length _)
    rw [strOf_natsOf] at hcv
    have HE := Lib.hid (show Below W.heap.size W W14 from (HWB.out.trans ((HS.out.trans (Stay.of_below hbel)).below (by omega) (fun k hk => by omega))))
    obtain ⟨zz, zE, hzz⟩ := fx_size_any hF nTmp
    have HZ := Lib.hid hzz
    clear hzz
    clear hby hnone hcap hnew hbel hF HR
    go_wp2_with fail
    refine HZ.out.mono ?_
    rintro e W15 ⟨rfl, rfl⟩
    go_wp2
    go_ret
    exact ⟨rfl, HE.out⟩
  · skip
    have HC := Lib.hid (fxQ (fx_create HF.out nTmp (by rw [rs_top]; decide)) (create_up (natsOf s) 3 _))
    go_wp2_with fail
    refine HC.out.mono ?_
    rintro e W8 ⟨rfl, hF, hS⟩
    replace HS := Lib.hid (HS.out.trans hS)
    replace HF := Lib.hid hF
    replace pl := hF.lt
    clear hF hS HC
    obtain ⟨capT, wT, hcv, hap⟩ := fx_append_text HF.out nTmp (by rw [rs_top]; decide) t (by have := HTS.out; omega)
    have HC := Lib.hid (fxQ hap (append_up (natsOf s) (natsOf t) 2 _ (by have := HS1.out; have := HSS.out; have := HT1.out; have := HTS.out; omega)))
    clear hap
    go_wp2_with fail
    refine HC.out.mono ?_
    rintro e W9 ⟨rfl, hF, hS⟩
    replace HS := Lib.hid (HS.out.trans hS)
    replace HF := Lib.hid hF
    replace pl := hF.lt
    clear hF hS HC hcv
    have HC := Lib.hid (fxQ (fx_sync HF.out nTmp) (sync_up (natsOf s) (natsOf t) 1 _))
    go_wp2_with fail
    refine HC.out.mono ?_
    rintro e W10 ⟨rfl, hF, hS⟩
    replace HS := Lib.hid (HS.out.trans hS)
    replace HF := Lib.hid hF
    replace pl := hF.lt
    clear hF hS HC
    have HC := Lib.hid (fxQ (fx_rename HF.out nTmp nCur (by rw [rs_top]; decide)) (rename_up (natsOf s) (natsOf t) 0 _))
    go_wp2_with fail
    refine HC.out.mono ?_
    rintro e W11 ⟨rfl, hF, hS⟩
    replace HS := Lib.hid (HS.out.trans hS)
    replace HF := Lib.hid hF
    replace pl := hF.lt
    clear hF hS HC
    have HC := Lib.hid (fxQ (fx_syncDir HF.out) (syncDir_down (natsOf s) (natsOf t) _))
    go_wp2_with fail
    refine HC.out.mono ?_
    rintro e W12 ⟨rfl, hF, hS⟩
    replace HS := Lib.hid (HS.out.trans hS)
    replace HF := Lib.hid hF
    replace pl := hF.lt
    clear hF hS HC
    have q3 := stay_cell HS.out hlt hlt HQ3.out
    have hl3 := Nat.lt_of_lt_of_le hlt HS.out.size
    obtain ⟨adP, capP, wP, hcp, hbP, hpP, hlP⟩ := copy_picks (HWR.out.1.keep (HWB.out.trans (HS.out.below (by omega) (fun k hk => by omega)))) HWR.out.2
    have HC := Lib.hid (fx_crash_in (cap := capP) HF.out (by rw [rs_top]; decide) hbP hpP hlP)
    clear hbP hpP hlP
    go_wp2_with (at_builtin; refine wpList_app_run rfl rfl hcp rfl rfl ?_)
    refine HC.out.mono ?_
    rintro e W13 ⟨rfl, hF, hS⟩
    replace HS := Lib.hid (HS.out.trans hS)
    replace HF := Lib.hid hF
    replace pl := hF.lt
    clear hF hS HC hcp
    clear q3 hl3
    rcases sees_2 (natsOf s) (natsOf t) true 0 (zs.take len) (by have := HS1.out; have := HSS.out; omega) (by have := HT1.out; have := HTS.out; omega) with hse | hse
    · have HR := Lib.hid (fxRd (fx_read HF.out nCur 0 1048576) (hse).1 (hse).2)
      go_wp2_with fail
      refine HR.out.mono ?_
      rintro e W14 ⟨ad2, cap2, he, hby, hnone, hcap, hnew, hbel, hF⟩
      rw [natsOf_length] at he
      subst he
      have hcv := conv_bytes hby (natsOf_byte _) hnone cap2 _ (natsOf_length _)
      rw [strOf_natsOf] at hcv
      have HE := Lib.hid (show Below W.heap.size W W14 from (HWB.out.trans ((HS.out.trans (Stay.of_below hbel)).below (by omega) (fun k hk => by omega))))
      obtain ⟨zz, zE, hzz⟩ := fx_size_any hF nTmp
      have HZ := Lib.hid hzz
      clear hzz
      clear hby hnone hcap hnew hbel hF HR
      go_wp2_with fail
      refine HZ.out.mono ?_
      rintro e W15 ⟨rfl, rfl⟩
      go_wp2
      go_ret
      exact ⟨rfl, HE.out⟩
    · have HR := Lib.hid (fxRd (fx_read HF.out nCur 0 1048576) (hse).1 (hse).2)
      go_wp2_with fail
      refine HR.out.mono ?_
      rintro e W14 ⟨ad2, cap2, he, hby, hnone, hcap, hnew, hbel, hF⟩
      rw [natsOf_length] at he
      subst he
      have hcv := conv_bytes hby (natsOf_byte _) hnone cap2 _ (natsOf_length _)
      rw [strOf_natsOf] at hcv
      have HE := Lib.hid (show Below W.heap.size W W14 from (HWB.out.trans ((HS.out.trans (Stay.of_below hbel)).below (by omega) (fun k hk => by omega))))
      obtain ⟨zz, zE, hzz⟩ := fx_size_any hF nTmp
      have HZ := Lib.hid hzz
      clear hzz
      clear hby hnone hcap hnew hbel hF HR
      go_wp2_with fail
      refine HZ.out.mono ?_
      rintro e W15 ⟨rfl, rfl⟩
      by_cases hst : t = s
      · subst hst
        go_wp2
        go_ret
        exact ⟨rfl, HE.out⟩
      · have hd1 := @str_eq t s
        rw [decide_eq_false hst] at hd1
        have hd2 := @str_ne t s
        rw [decide_eq_true (show t ≠ s from hst)] at hd2
        go_wp2
        go_ret
        exact ⟨rfl, HE.out⟩
  · skip
    have HC := Lib.hid (fxQ (fx_create HF.out nTmp (by rw [rs_top]; decide)) (create_up (natsOf s) (r + 4) _))
    go_wp2_with fail
    refine HC.out.mono ?_
    rintro e W8 ⟨rfl, hF, hS⟩
    replace HS := Lib.hid (HS.out.trans hS)
    replace HF := Lib.hid hF
    replace pl := hF.lt
    clear hF hS HC
    obtain ⟨capT, wT, hcv, hap⟩ := fx_append_text HF.out nTmp (by rw [rs_top]; decide) t (by have := HTS.out; omega)
    have HC := Lib.hid (fxQ hap (append_up (natsOf s) (natsOf t) (r + 3) _ (by have := HS1.out; have := HSS.out; have := HT1.out; have := HTS.out; omega)))
    clear hap
    go_wp2_with fail
    refine HC.out.mono ?_
    rintro e W9 ⟨rfl, hF, hS⟩
    replace HS := Lib.hid (HS.out.trans hS)
    replace HF := Lib.hid hF
    replace pl := hF.lt
    clear hF hS HC hcv
    have HC := Lib.hid (fxQ (fx_sync HF.out nTmp) (sync_up (natsOf s) (natsOf t) (r + 2) _))
    go_wp2_with fail
    refine HC.out.mono ?_
    rintro e W10 ⟨rfl, hF, hS⟩
    replace HS := Lib.hid (HS.out.trans hS)
    replace HF := Lib.hid hF
    replace pl := hF.lt
    clear hF hS HC
    have HC := Lib.hid (fxQ (fx_rename HF.out nTmp nCur (by rw [rs_top]; decide)) (rename_up (natsOf s) (natsOf t) (r + 1) _))
    go_wp2_with fail
    refine HC.out.mono ?_
    rintro e W11 ⟨rfl, hF, hS⟩
    replace HS := Lib.hid (HS.out.trans hS)
    replace HF := Lib.hid hF
    replace pl := hF.lt
    clear hF hS HC
    have HC := Lib.hid (fxQ (fx_syncDir HF.out) (syncDir_up (natsOf s) (natsOf t) r _))
    go_wp2_with fail
    refine HC.out.mono ?_
    rintro e W12 ⟨rfl, hF, hS⟩
    replace HS := Lib.hid (HS.out.trans hS)
    replace HF := Lib.hid hF
    replace pl := hF.lt
    clear hF hS HC
    have q3 := stay_cell HS.out hlt hlt HQ3.out
    have hl3 := Nat.lt_of_lt_of_le hlt HS.out.size
    obtain ⟨adP, capP, wP, hcp, hbP, hpP, hlP⟩ := copy_picks (HWR.out.1.keep (HWB.out.trans (HS.out.below (by omega) (fun k hk => by omega)))) HWR.out.2
    have HC := Lib.hid (fx_crash_in (cap := capP) HF.out (by rw [rs_top]; decide) hbP hpP hlP)
    clear hbP hpP hlP
    go_wp2_with (at_builtin; refine wpList_app_run rfl rfl hcp rfl rfl ?_)
    refine HC.out.mono ?_
    rintro e W13 ⟨rfl, hF, hS⟩
    replace HS := Lib.hid (HS.out.trans hS)
    replace HF := Lib.hid hF
    replace pl := hF.lt
    clear hF hS HC hcp
    clear q3 hl3
    have hse := sees_3 (natsOf s) (natsOf t) false r (zs.take len) (by have := HT1.out; have := HTS.out; omega)
    have HR := Lib.hid (fxRd (fx_read HF.out nCur 0 1048576) (hse.1).1 (hse.1).2)
    go_wp2_with fail
    refine HR.out.mono ?_
    rintro e W14 ⟨ad2, cap2, he, hby, hnone, hcap, hnew, hbel, hF⟩
    rw [natsOf_length] at he
    subst he
    have hcv := conv_bytes hby (natsOf_byte _) hnone cap2 _ (natsOf_length _)
    rw [strOf_natsOf] at hcv
    have HE := Lib.hid (show Below W.heap.size W W14 from (HWB.out.trans ((HS.out.trans (Stay.of_below hbel)).below (by omega) (fun k hk => by omega))))
    have hzE := hse.2
    change A.sizeE _ nTmp.data.toList = 7 at hzE
    obtain ⟨zz, hzz⟩ := fx_size_E hF nTmp hzE
    have HZ := Lib.hid hzz
    clear hzz hzE hse
    clear hby hnone hcap hnew hbel hF HR
    go_wp2_with fail
    refine HZ.out.mono ?_
    rintro e W15 ⟨rfl, rfl⟩
    by_cases hst : t = s
    · subst hst
      go_wp2
      go_ret
      exact ⟨rfl, HE.out⟩
    · have hd1 := @str_eq t s
      rw [decide_eq_false hst] at hd1
      have hd2 := @str_ne t s
      rw [decide_eq_true (show t ≠ s from hst)] at hd2
      go_wp2
      go_ret
      exact ⟨rfl, HE.out⟩
end fsRenames
end Go.Proofs.Ytaadfoelaeliiaa
