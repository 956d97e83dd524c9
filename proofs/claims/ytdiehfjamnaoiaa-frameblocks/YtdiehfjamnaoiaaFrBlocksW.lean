/-
  The law FrameBlocks, walked.
-/
import Derived.Test.YtdiehfjamnaoiaaFrShift
import Derived.Test.YtdiehfjamnaoiaaFrCutsW
namespace Go.Proofs.Ytdiehfjamnaoiaa
open Go.RowKit

theorem frameL_mod {n m : Nat} (h : n % 128 = m % 128) (r : List Nat) : Frm.frameL n r = Frm.frameL m r := by
  unfold Frm.frameL Frm.gap Frm.room Frm.left; rw [h]
theorem run_strs_from1 {w : World} {g : Nat} (len cap : Nat) (h1 : 1 ≤ len) (_h2 : len ≤ cap) (hc : 2 ≤ cap) :
    (Instr.slice 31 (.slice (some ⟨g, 0, none⟩) len cap) (some (.int .i64 1)) none none).run Try.prog w = .ok (.slice (some ⟨g, 1, none⟩) (len - 1) (cap - 1)) w := by
  have hel : Try.prog.elem 31 = 9 := by kernel_rfl
  have h := run_slice_l (P := Try.prog) w 31 (some ⟨g, 0, none⟩) len cap (by rw [hel]; exact Try.underlying31) .i64 1 (by omega) (by omega)
  rw [hel] at h
  refine Eq.trans h ?_
  have hne : ¬ cap = 1 := by omega
  simp [go_sem, sliced, hne, addr_add]
theorem modMi (x : Int) (n : Nat) (hp : 0 < n) (hb : n ≤ 9223372036854775807) : ∃ k : Nat, k < n ∧ wrap64 ((IntKind.u64.wrap x).tmod (n : Int)) = (k : Int) ∧ IntKind.i64.wrap ((IntKind.u64.wrap x).tmod (n : Int)) = (k : Int) := by
  obtain ⟨k, h1, h2⟩ := modM x n hp hb
  refine ⟨k, h1, h2, ?_⟩
  rw [← h2]
  simp [IntKind.wrap, wrap64, IntKind.bits, IntKind.signed]; split <;> omega
namespace frameBlocks
set_option maxRecDepth 100000 in
set_option maxHeartbeats 4000000 in
theorem walk (x0 n0 : Int) (a0 : Option Addr) (len0 cap0 : Nat) (z0 : List Int) (W : World) (w0 : IsRow .u8 W a0 len0 cap0 z0) :
    Calls Try.prog 9 #[.agg #[.int .i64 x0, .int .i64 n0, .slice a0 len0 cap0]] W fun e w' => e = .returned (.bool true) ∧ Below W.heap.size W w' := by
  have hnil : a0 = none → len0 = 0 ∧ cap0 = 0 := fun e => by
    rcases w0 with ⟨_, h1, h2, _⟩ | ⟨x, h, _⟩
    · exact ⟨h1, h2⟩
    · rw [e] at h; cases h
  obtain ⟨l, hln, hl, hlb, hc0, hcm, _⟩ := w0.byt
  have hlen : len0 ≤ 9223372036854775807 := by unfold maxLen at hcm; omega
  have HL := Lib.hid hl
  have HLN := Lib.hid hln
  have HLB := Lib.hid hlb
  have HNL : Hid (a0 = none → l = [] ∧ cap0 = 0) := Lib.hid (fun e => ⟨List.length_eq_zero_iff.1 (by rw [hln]; exact (hnil e).1), (hnil e).2⟩)
  obtain ⟨A, hA, hAe⟩ := modMi x0 100000 (by omega) (by omega)
  obtain ⟨N, hN, hNe⟩ := modMi n0 1000 (by omega) (by omega)
  have hA1 : wrap64 ((IntKind.u64.wrap x0).tmod 100000) = (A : Int) := hAe.1
  have hA2 : IntKind.i64.wrap ((IntKind.u64.wrap x0).tmod 100000) = (A : Int) := hAe.2
  have hN1 : wrap64 ((IntKind.u64.wrap n0).tmod 1000) = (N : Int) := hNe.1
  have hN2 : IntKind.i64.wrap ((IntKind.u64.wrap n0).tmod 1000) = (N : Int) := hNe.2
  obtain ⟨W1, hW1⟩ : ∃ W1, W.alloc (.cells #[.int .i64 x0, .int .i64 n0, .slice a0 len0 cap0] 46) = W1 := ⟨_, rfl⟩
  have hb1 : Below W.heap.size W W1 := by rw [← hW1]; exact below_alloc (Nat.le_refl _) _
  have hcl : ∀ i v, (#[Value.int .i64 x0, .int .i64 n0, .slice a0 len0 cap0] : Array Value)[i]? = some v → W1.cell? ⟨W.heap.size, i, none⟩ = some v := fun i v h => by
    rw [← hW1, cell_of_row _ _ _ _ _ _ (heap_alloc_new W _)]; exact h
  have hbl : W.heap.size < W1.heap.size := by rw [← hW1]; simp
  have HQ : Hid (∀ wx : World, Below W1.heap.size W1 wx → wx.cell? ⟨W.heap.size, 0, none⟩ = some (.int .i64 x0) ∧ wx.cell? ⟨W.heap.size, 1, none⟩ = some (.int .i64 n0) ∧ wx.cell? ⟨W.heap.size, 2, none⟩ = some (.slice a0 len0 cap0) ∧ Byt wx a0 l) := Lib.hid (fun wx h => by
    exact ⟨(h.cell (p := ⟨W.heap.size, 0, none⟩) hbl).trans (hcl 0 _ rfl), (h.cell (p := ⟨W.heap.size, 1, none⟩) hbl).trans (hcl 1 _ rfl), (h.cell (p := ⟨W.heap.size, 2, none⟩) hbl).trans (hcl 2 _ rfl), (HL.out.keep hb1).keep h⟩)
  have HB1 := Lib.hid hb1
  have s1 := hb1.size
  have HF := Lib.hid (fun wx => framed_any wx)
  have HFR : Hid (∀ wx (n : Nat), n ≤ 9223372036854775807 → len0 ≤ 3000 → Below W1.heap.size W1 wx → Calls Try.prog 12 #[.int .i64 (n : Int), .slice a0 len0 cap0] wx (FrameV wx (Frm.frameL n l))) := Lib.hid (fun wx n hn hl3 h => by
    have := Frame_any wx n hn a0 cap0 l (HQ.out wx h).2.2.2 HLB.out (by rw [HLN.out]; exact hc0) HNL.out (by rw [HLN.out]; omega)
    rw [HLN.out] at this; exact this)
  clear hl hln hlb hAe hNe hcl hb1 hnil w0
  go_enter Try.func9, Try.ntmps9
  go_wp2_with fail
  refine (HF.out _).mono ?_
  rintro e W2 ⟨rfl, hb2⟩
  have HB2 := Lib.hid hb2
  have s2 := hb2.size
  obtain ⟨c20, c21, c22, _⟩ := HQ.out W2 hb2
  clear hb2 hW1
  by_cases h3 : 3000 < len0
  · go_wp2_with fail
    refine (HF.out _).mono ?_
    rintro e W3 ⟨rfl, hb3⟩
    have HE := Lib.hid ((HB1.out.trans (HB2.out.mono s1)).trans (hb3.mono (by omega)))
    clear hb3
    go_wp2
    go_ret
    exact ⟨rfl, HE.out⟩
  · go_wp2_with fail
    go_quiet (fail)
    have hb2' : Below W1.heap.size W1 (W2.drewN nq) := HB2.out.trans (below_drewN _ _ _)
    obtain ⟨d20, d21, d22, _⟩ := HQ.out _ hb2'
    have HB2' := Lib.hid hb2'
    have HC4 := Lib.hid (HFR.out (W2.drewN nq) A (by omega) (by omega) hb2')
    clear c20 c21 c22 hb2'
    generalize W2.drewN nq = W3 at *
    have s3 := HB2'.out.size
    go_wp2_with fail
    refine HC4.out.mono ?_
    rintro e W4 ⟨va, rfl, hoa, hb4⟩
    obtain ⟨FA, hFA⟩ : ∃ FA, Frm.frameL A l = FA := ⟨_, rfl⟩
    rw [hFA] at hoa
    obtain ⟨aa, ca, rfl, hya, hna, hca⟩ := byt_of_own hoa
    have hFAb : ∀ x ∈ FA, x < 256 := by rw [← hFA]; exact Frm.frameL_byte HLB.out
    have hB4 : Below W1.heap.size W1 W4 := HB2'.out.trans (hb4.mono s3)
    obtain ⟨d40, d41, d42, _⟩ := HQ.out _ hB4
    have s4 := hB4.size
    have hm := HFR.out W4 (A + 128 * N) (by omega) (by omega) hB4
    rw [frameL_mod (n := A + 128 * N) (m := A) (by omega), hFA, show (((A + 128 * N : Nat)) : Int) = (A : Int) + 128 * (N : Int) by push_cast; rfl] at hm
    have HM := Lib.hid hm
    have HYA := Lib.hid hya
    have HFAB := Lib.hid hFAb
    have HNA := Lib.hid hna
    have HB4 := Lib.hid hB4
    have HFAE := Lib.hid hFA
    clear hm hya hFAb hna hB4 hoa hb4 hFA hca HC4 d20 d21 d22
    go_wp2_with fail
    refine HM.out.mono ?_
    rintro e W5 ⟨vb, rfl, hob, hb5⟩
    obtain ⟨ab, cb, rfl, hyb, hnb, hcb⟩ := byt_of_own hob
    have hB5 : Below W1.heap.size W1 W5 := HB4.out.trans (hb5.mono s4)
    have hcva := conv_bytes (HYA.out.keep hb5) HFAB.out HNA.out ca FA.length rfl
    have hcvb := conv_bytes hyb HFAB.out hnb cb FA.length rfl
    have HB5 := Lib.hid hB5
    have s5 := hB5.size
    obtain ⟨K, hK⟩ : ∃ K, 1 + N % 5 = K := ⟨_, rfl⟩
    have hK5 : 1 ≤ K ∧ K ≤ 5 := by omega
    have hKI : 121 * (1 + (N : Int) % 5) = ((121 * K : Nat) : Int) := by omega
    have hKI2 : (1 + (N : Int) % 5) = ((K : Nat) : Int) := by omega
    have hKI3 : 121 * (K : Int) = ((121 * K : Nat) : Int) := by omega
    obtain ⟨T, hT⟩ : ∃ T, strOf FA = T := ⟨_, rfl⟩
    rw [hT] at hcva hcvb
    have kmk := run_make_zs (121 * K) (by omega)
    obtain ⟨M, hM⟩ : ∃ M, 121 * K = M := ⟨_, rfl⟩
    rw [hM] at kmk hKI hKI3
    have hM605 : M ≤ 605 := by omega
    obtain ⟨W6, hW6⟩ : ∃ W6, W5.alloc (.cells (madeCells #[.int .u8 0] M) 5) = W6 := ⟨_, rfl⟩
    have hb6 : Below W5.heap.size W5 W6 := by rw [← hW6]; exact below_alloc (Nat.le_refl _) _
    have hFr := Frame_any W6 0 (by omega) (some ⟨W5.heap.size, 0, none⟩) M (zs M) (by rw [← hW6]; exact zs_made W5 M) (zs_byte M) (by rw [zs_len]; omega) (fun h => by cases h) (by rw [zs_len]; omega)
    rw [zs_len] at hFr
    have hF2l : (Frm.frameL 0 (zs M)).length = 128 * K := by
      rw [frame_len, zs_len, show Frm.gap 0 = 0 from rfl, show Frm.room 0 = 121 from rfl]
      split <;> omega
    obtain ⟨F2, hF2⟩ : ∃ F2, Frm.frameL 0 (zs M) = F2 := ⟨_, rfl⟩
    obtain ⟨L2, hL2⟩ : ∃ L2, F2.length = L2 := ⟨_, rfl⟩
    rw [hF2] at hFr hF2l
    have hF2b : ∀ x ∈ F2, x < 256 := by rw [← hF2]; exact Frm.frameL_byte (zs_byte M)
    have hL2K : L2 = 128 * K := by rw [← hL2]; exact hF2l
    have hL2m : ((L2 : Int) % 128 != 0) = false := by simp; omega
    have hB6 : Below W1.heap.size W1 W6 := hB5.trans (hb6.mono s5)
    have HFR6 := Lib.hid hFr
    have HB6 := Lib.hid hB6
    have s6 := hB6.size
    have HF2 := Lib.hid hF2
    have HL2 := Lib.hid hL2
    have HF2B := Lib.hid hF2b
    have HL2K := Lib.hid hL2K
    clear hob hyb hnb hcb hb5 hB5 hT hFr hF2 hL2 hF2b hF2l hb6 hB6 hM hK d40 d41 d42 HM HYA HNA hL2K
    go_wp2_with fail
    clear hW6 kmk hcva hcvb
    refine HFR6.out.mono ?_
    rintro e W7 ⟨vf, rfl, hof, hb7⟩
    rw [HL2.out] at hof
    obtain ⟨af, cf, hvf, hyf, hnf, hcf⟩ := byt_of_own hof
    rw [HL2.out] at hvf hcf
    subst hvf
    have hafn : af ≠ none := fun e => by
      have h := hnf e
      have h2 := HL2.out
      have h3 := HL2K.out
      rw [h] at h2
      have : (0 : Nat) = L2 := h2
      omega
    have hB7 : Below W1.heap.size W1 W7 := HB6.out.trans (hb7.mono s6)
    obtain ⟨d70, d71, d72, _⟩ := HQ.out _ hB7
    have s7 := hB7.size
    have hc7 := HFR.out W7 L2 (by have := HL2K.out; omega) (by omega) hB7
    obtain ⟨FC, hFC⟩ : ∃ FC, Frm.frameL L2 l = FC := ⟨_, rfl⟩
    have hFC0 : Frm.frameL 0 l = FC := by rw [← hFC]; exact frameL_mod (by have := HL2K.out; omega) l
    obtain ⟨LC, hLC⟩ : ∃ LC, FC.length = LC := ⟨_, rfl⟩
    have hfl := Frm.frameL_len L2 l
    have hfp := Frm.frameL_pos L2 l
    rw [hFC, hLC, HLN.out] at hfl
    rw [hFC, hLC] at hfp
    have hFCb : ∀ x ∈ FC, x < 256 := by rw [← hFC]; exact Frm.frameL_byte HLB.out
    have hsc1 : Frm.scanR 0 (F2 ++ FC) 0 [] false = ([zs M, l], L2 + LC) := by
      rw [← HF2.out, Frm.scan_frame, HF2.out, HL2.out, Nat.zero_add]
      have h := Frm.scan_frame L2 l [] L2
      rw [List.append_nil, hFC, hLC, Frm.scan_nil] at h
      rw [h]
    have hsc2 : Frm.scanR 0 FC 0 [] false = ([l], LC) := by
      have h := Frm.scan_frame 0 l [] 0
      rw [List.append_nil, hFC0, hLC, Frm.scan_nil, Nat.zero_add] at h
      exact h
    rw [hFC] at hc7
    have HC7 := Lib.hid hc7
    have HYF := Lib.hid hyf
    have HB7 := Lib.hid hB7
    have HLC := Lib.hid hLC
    have HFCB := Lib.hid hFCb
    have HS1 := Lib.hid hsc1
    have HS2 := Lib.hid hsc2
    have hL2K := HL2K.out
    have hLle : L2 ≤ 640 := by omega
    clear hL2K hof hyf hnf hcf hb7 hB7 hc7 hFC hFC0 hLC hFCb hsc1 hsc2 HFR6
    go_wp2_with fail
    refine HC7.out.mono ?_
    rintro e W8 ⟨vc, rfl, hoc, hb8⟩
    rw [HLC.out] at hoc
    obtain ⟨ac, cc, hvc, hyc, hnc, hcc⟩ := byt_of_own hoc
    rw [HLC.out] at hvc hcc
    subst hvc
    have hacn : ac ≠ none := fun e => by
      have h := hnc e
      have h2 := HLC.out
      rw [h] at h2
      have : (0 : Nat) = LC := h2
      omega
    have hB8 : Below W1.heap.size W1 W8 := HB7.out.trans (hb8.mono s7)
    have s8 := hB8.size
    have hn8 := below_alloc (B := W8.heap.size) (w := W8) (Nat.le_refl _) (.cells #[] 5)
    obtain ⟨v1, W9, r1, o1, b1, -⟩ := appU W8.heap.size (W8.alloc (.cells #[] 5)) _ [] F2 0 af cf (own_new0 W8 W8.heap.size 5 (Nat.le_refl _)) ((HYF.out.keep hb8).keep hn8) (fun e => absurd e hafn) (by simp) (by rw [HL2.out]; omega)
    rw [HL2.out, Nat.zero_add, List.nil_append] at o1
    rw [HL2.out] at r1
    have hb9 : Below W8.heap.size W8 W9 := hn8.trans b1
    have s9 := hb9.size
    obtain ⟨v2, W10, r2, o2, b2, -⟩ := appU W8.heap.size W9 v1 F2 FC L2 ac cc o1 (hyc.low.keep hb9).byt (fun e => absurd e hacn) s9 (by rw [HLC.out]; omega)
    rw [HLC.out] at r2 o2
    have hb10 : Below W8.heap.size W8 W10 := hb9.trans b2
    obtain ⟨a2, c2, hv2, hy2, _, hc2⟩ := byt_of_own o2
    rw [List.length_append, HL2.out, HLC.out] at hv2 hc2
    subst hv2
    have hsc := Scan_any W10 a2 c2 (F2 ++ FC) hy2 (fun x hx => by
      rcases List.mem_append.1 hx with h | h
      · exact HF2B.out x h
      · exact HFCB.out x h) (by rw [List.length_append, HL2.out, HLC.out]; exact hc2) (by rw [List.length_append, HL2.out, HLC.out]; omega)
    rw [HS1.out, List.length_append, HL2.out, HLC.out] at hsc
    have HSC := Lib.hid hsc
    have hB10 : Below W1.heap.size W1 W10 := hB8.trans (hb10.mono s8)
    have HB10 := Lib.hid hB10
    have s10 := hB10.size
    have HYC := Lib.hid (hyc.keep hb10)
    clear hoc hyc hnc hb8 hB8 hn8 o1 b1 hb9 o2 b2 hb10 hy2 hc2 hsc hB10 HYF HC7 d70 d71 d72
    go_wp2_with (at_builtin; first | refine wpList_app_run rfl rfl r1 rfl rfl ?_ | refine wpList_app_run rfl rfl r2 rfl rfl ?_)
    refine HSC.out.mono ?_
    rintro e W11 ⟨v11, rfl, ho11, hb11⟩
    obtain ⟨g1, c1, hv11, _, hg1⟩ := ho11.form (Nat.succ_pos 1)
    subst hv11
    obtain ⟨a11, c11, e11, hl11, hst11, hc11⟩ := strs_of_own ho11
    injection e11 with e111 _ e113
    subst e111 e113
    have hc11' : 2 ≤ c1 := hc11
    have hB11 : Below W1.heap.size W1 W11 := HB10.out.trans (hb11.mono s10)
    have s11 := hB11.size
    have hsc2 := Scan_any W11 ac cc FC (HYC.out.keep hb11) HFCB.out (by rw [HLC.out]; exact hcc) (by rw [HLC.out]; omega)
    rw [HS2.out, HLC.out] at hsc2
    have HSC2 := Lib.hid hsc2
    have HST := Lib.hid hst11
    have HB11 := Lib.hid hB11
    dsimp only
    clear hsc2 hst11 hB11 hb11 ho11 hc11 hl11 HSC HYC
    go_wp2_with fail
    refine HSC2.out.mono ?_
    rintro e X7 ⟨v12, rfl, ho12, hb12⟩
    obtain ⟨sb, c12, hv12, _, hsb⟩ := ho12.form (Nat.succ_pos 0)
    subst hv12
    obtain ⟨a12, c12', e12, hl12, hst12, hc12⟩ := strs_of_own ho12
    injection e12 with e121 _ e123
    subst e121 e123
    have hB12 : Below W1.heap.size W1 X7 := HB11.out.trans (hb12.mono s11)
    have s12 := hB12.size
    obtain ⟨R, hR⟩ : ∃ R, strOf l = R := ⟨_, rfl⟩
    have hsq : X7.cell? ⟨sb, 0, none⟩ = some (.string R) := by
      rcases hst12 with h | ⟨b, off, e, _, h⟩
      · cases h
      · cases e
        have := h 0 (by show 0 < 1; omega)
        rw [← hR]; exact this
    have HQ7 : Hid (∀ wx : World, Below X7.heap.size X7 wx → wx.cell? ⟨sb, 0, none⟩ = some (.string R) ∧ wx.cell? ⟨W.heap.size, 2, none⟩ = some (.slice a0 len0 cap0) ∧ (convert 22 9 (.slice a0 len0 cap0)).run Try.prog wx = .ok (.string R) wx) := Lib.hid (fun wx h => by
      obtain ⟨_, _, q2, q3⟩ := HQ.out wx (hB12.trans (h.mono s12))
      refine ⟨(h.cell (p := ⟨sb, 0, none⟩) hsb).trans hsq, q2, ?_⟩
      have := conv_bytes q3 HLB.out (fun e => (HNL.out e).1) cap0 len0 HLN.out
      rw [hR] at this; exact this)
    have hst1 : Strs X7.drew (some ⟨g1, 1, none⟩) [R] := by
      rcases (HST.out.keep hb12).keep (below_drewN _ _ 1) with h | ⟨b, off, e, hlt, h⟩
      · cases h
      · cases e
        refine .inr ⟨_, _, rfl, hlt, fun i hi => ?_⟩
        have hi0 : i = 0 := by simpa using hi
        subst hi0
        have := h 1 (by show 1 < 2; omega)
        show _ = some (Value.string R)
        rw [← hR]; exact this
    have hst2 : Strs X7.drew (some ⟨sb, 0, none⟩) [R] := by
      have := hst12.keep (below_drewN _ X7 1)
      rw [← hR]; exact this
    have hT := Texts_any X7.drew (some ⟨g1, 1, none⟩) (some ⟨sb, 0, none⟩) 1 1 (c1 - 1) c12 [R] [R] hst1 hst2 rfl rfl (by omega) (by omega)
    rw [decide_eq_true rfl] at hT
    have HTX := Lib.hid hT
    have hfrom : ∀ wx : World, (Instr.slice 31 (.slice (some ⟨g1, 0, none⟩) 2 c1) (some (.int .i64 1)) none none).run Try.prog wx = .ok (.slice (some ⟨g1, 1, none⟩) 1 (c1 - 1)) wx := fun wx => run_strs_from1 (w := wx) 2 c1 (by omega) hc11' hc11'
    have HE := Lib.hid (HB1.out.trans (hB12.mono s1))
    have sW := HE.out.size
    have hwr : IntKind.i64.wrap ((L2 : Int) + (LC : Int)) = (L2 : Int) + (LC : Int) := by rw [IntKind.wrap_i64]; omega
    dsimp only
    clear hT hst1 hst2 hsq hR hst12 ho12 hb12 hB12 hl12 hc12 HSC2 HST
    go_wp2_with fail
    refine wp_region_held_drew (S := fun w' => Below X7.heap.size X7 w') (by kernel_rfl) (below_drewN _ _ 1) (fun hHeld => ?_)
    refine wpAnyH_take (i := 0) (v := ?_) rfl (by kernel_rfl) (by kernel_rfl) (by kernel_rfl) (fun _ _ _ h => h) (Or.inl ⟨by rfl, ?_⟩) hHeld ?_
    rotate_left
    · (intro wx hSw; (try dsimp only at hSw); first | (go_simp; done) | (go_simp; with_reducible rfl))
    simp only [Act.put, List.getElem_toArray, List.getElem_cons_zero, List.setIfInBounds_toArray, List.set_cons_zero, List.set_cons_succ]
    refine wpAnyH_take (i := 1) (v := ?_) rfl (by kernel_rfl) (by kernel_rfl) (by kernel_rfl) (fun _ _ _ h => h) (Or.inl ⟨by rfl, ?_⟩) hHeld ?_
    rotate_left
    · (intro wx hSw; (try dsimp only at hSw); first | (go_simp; done) | (go_simp; with_reducible rfl))
    simp only [Act.put, List.getElem_toArray, List.getElem_cons_zero, List.getElem_cons_succ, List.setIfInBounds_toArray, List.set_cons_zero, List.set_cons_succ]
    refine wpAnyH_take (i := 2) (v := ?_) rfl (by kernel_rfl) (by kernel_rfl) (by kernel_rfl) (fun _ _ _ h => h) (Or.inl ⟨by rfl, ?_⟩) hHeld ?_
    rotate_left
    · (intro wx hSw; (try dsimp only at hSw); first | (go_simp; done) | (go_simp; with_reducible rfl))
    simp only [Act.put, List.getElem_toArray, List.getElem_cons_zero, List.getElem_cons_succ, List.setIfInBounds_toArray, List.set_cons_zero, List.set_cons_succ]
    refine wpAnyH_take (i := 3) (v := ?_) rfl (by kernel_rfl) (by kernel_rfl) (by kernel_rfl) (fun _ _ _ h => h) (Or.inl ⟨by rfl, ?_⟩) hHeld ?_
    rotate_left
    · (intro wx hSw; (try dsimp only at hSw); first | (go_simp; done) | (go_simp; with_reducible rfl))
    simp only [Act.put, List.getElem_toArray, List.getElem_cons_zero, List.getElem_cons_succ, List.setIfInBounds_toArray, List.set_cons_zero, List.set_cons_succ]
    refine wpAnyH_take (i := 4) (v := ?_) rfl (by kernel_rfl) (by kernel_rfl) (by kernel_rfl) (fun _ _ _ h => h) (Or.inl ⟨by rfl, ?_⟩) hHeld ?_
    rotate_left
    · (intro wx hSw; (try dsimp only at hSw); first | (go_simp; done) | (go_simp; with_reducible rfl))
    simp only [Act.put, List.getElem_toArray, List.getElem_cons_zero, List.getElem_cons_succ, List.setIfInBounds_toArray, List.set_cons_zero, List.set_cons_succ]
    refine wpAnyH_take (i := 5) (v := ?_) rfl (by kernel_rfl) (by kernel_rfl) (by kernel_rfl) (fun _ _ _ h => h) (Or.inl ⟨by rfl, ?_⟩) hHeld ?_
    rotate_left
    · (intro wx hSw; (try dsimp only at hSw); first | (go_simp; done) | (go_simp; with_reducible rfl))
    simp only [Act.put, List.getElem_toArray, List.getElem_cons_zero, List.getElem_cons_succ, List.setIfInBounds_toArray, List.set_cons_zero, List.set_cons_succ]
    refine wpAnyH_take (i := 6) (v := ?_) rfl (by kernel_rfl) (by kernel_rfl) (by kernel_rfl) (fun _ _ _ h => h) (Or.inl ⟨by rfl, ?_⟩) hHeld ?_
    rotate_left
    · (intro wx hSw; (try dsimp only at hSw); first | (go_simp; done) | (go_simp; with_reducible rfl))
    simp only [Act.put, List.getElem_toArray, List.getElem_cons_zero, List.getElem_cons_succ, List.setIfInBounds_toArray, List.set_cons_zero, List.set_cons_succ]
    refine wpAnyH_ready (rs := [7]) (by kernel_rfl) (by simp) ?_
    refine AllReadyH.cons rfl (fun K hK => ?_) AllReadyH.nil
    go_simp
    refine (HTX.out).mono ?_
    rintro e X8 ⟨rfl, hb8⟩
    have HB8 := Lib.hid hb8
    clear hb8 HTX
    try go_wp2_with fail
    refine hK.out _ _ ((below_drewN _ _ 1).trans HB8.out) (fun hHeld => ?_)
    clear hK K
    try simp only [Act.put, List.setIfInBounds_toArray, List.set_cons_zero, List.set_cons_succ]
    refine wpAnyH_take (i := 8) (v := ?_) rfl (by kernel_rfl) (by kernel_rfl) (by kernel_rfl) (fun _ _ _ h => h) (Or.inl ⟨by rfl, ?_⟩) hHeld ?_
    rotate_left
    · (intro wx hSw; (try dsimp only at hSw); first | (go_simp; done) | (go_simp; with_reducible rfl))
    simp only [Act.put, List.getElem_toArray, List.getElem_cons_zero, List.getElem_cons_succ, List.setIfInBounds_toArray, List.set_cons_zero, List.set_cons_succ]
    refine wpAnyH_take (i := 9) (v := ?_) rfl (by kernel_rfl) (by kernel_rfl) (by kernel_rfl) (fun _ _ _ h => h) (Or.inl ⟨by rfl, ?_⟩) hHeld ?_
    rotate_left
    · (intro wx hSw; (try dsimp only at hSw); first | (go_simp; done) | (go_simp; with_reducible rfl))
    simp only [Act.put, List.getElem_toArray, List.getElem_cons_zero, List.getElem_cons_succ, List.setIfInBounds_toArray, List.set_cons_zero, List.set_cons_succ]
    refine wpAnyH_take (i := 10) (v := ?_) rfl (by kernel_rfl) (by kernel_rfl) (by kernel_rfl) (fun _ _ _ h => h) (Or.inl ⟨by rfl, ?_⟩) hHeld ?_
    rotate_left
    · (intro wx hSw; (try dsimp only at hSw); first | (go_simp; done) | (go_simp; with_reducible rfl))
    simp only [Act.put, List.getElem_toArray, List.getElem_cons_zero, List.getElem_cons_succ, List.setIfInBounds_toArray, List.set_cons_zero, List.set_cons_succ]
    refine wpAnyH_take (i := 11) (v := ?_) rfl (by kernel_rfl) (by kernel_rfl) (by kernel_rfl) (fun _ _ _ h => h) (Or.inl ⟨by rfl, ?_⟩) hHeld ?_
    rotate_left
    · (intro wx hSw; (try dsimp only at hSw); first | (go_simp; done) | (go_simp; with_reducible rfl))
    simp only [Act.put, List.getElem_toArray, List.getElem_cons_zero, List.getElem_cons_succ, List.setIfInBounds_toArray, List.set_cons_zero, List.set_cons_succ]
    refine wpAnyH_take (i := 12) (v := ?_) rfl (by kernel_rfl) (by kernel_rfl) (by kernel_rfl) (fun _ _ _ h => h) (Or.inl ⟨by rfl, ?_⟩) hHeld ?_
    rotate_left
    · (intro wx hSw; (try dsimp only at hSw); first | (go_simp; done) | (go_simp; with_reducible rfl))
    simp only [Act.put, List.getElem_toArray, List.getElem_cons_zero, List.getElem_cons_succ, List.setIfInBounds_toArray, List.set_cons_zero, List.set_cons_succ]
    refine wpAnyH_take (i := 13) (v := ?_) rfl (by kernel_rfl) (by kernel_rfl) (by kernel_rfl) (fun _ _ _ h => h) (Or.inl ⟨by rfl, ?_⟩) hHeld ?_
    rotate_left
    · (intro wx hSw; (try dsimp only at hSw); first | (go_simp; done) | (go_simp; with_reducible rfl))
    simp only [Act.put, List.getElem_toArray, List.getElem_cons_zero, List.getElem_cons_succ, List.setIfInBounds_toArray, List.set_cons_zero, List.set_cons_succ]
    refine wpAnyH_take (i := 14) (v := ?_) rfl (by kernel_rfl) (by kernel_rfl) (by kernel_rfl) (fun _ _ _ h => h) (Or.inl ⟨by rfl, ?_⟩) hHeld ?_
    rotate_left
    · (intro wx hSw; (try dsimp only at hSw); first | (go_simp; done) | (go_simp; with_reducible rfl))
    simp only [Act.put, List.getElem_toArray, List.getElem_cons_zero, List.getElem_cons_succ, List.setIfInBounds_toArray, List.set_cons_zero, List.set_cons_succ]
    refine wpAnyH_take (i := 15) (v := ?_) rfl (by kernel_rfl) (by kernel_rfl) (by kernel_rfl) (fun _ _ _ h => h) (Or.inl ⟨by rfl, ?_⟩) hHeld ?_
    rotate_left
    · (intro wx hSw; obtain ⟨hq0, hq1, hq2⟩ := HQ7.out wx hSw; first | (go_simp; done) | (go_simp; with_reducible rfl))
    simp only [Act.put, List.getElem_toArray, List.getElem_cons_zero, List.getElem_cons_succ, List.setIfInBounds_toArray, List.set_cons_zero, List.set_cons_succ]
    refine wpAnyH_take (i := 16) (v := ?_) rfl (by kernel_rfl) (by kernel_rfl) (by kernel_rfl) (fun _ _ _ h => h) (Or.inl ⟨by rfl, ?_⟩) hHeld ?_
    rotate_left
    · (intro wx hSw; obtain ⟨hq0, hq1, hq2⟩ := HQ7.out wx hSw; first | (go_simp; done) | (go_simp; with_reducible rfl))
    simp only [Act.put, List.getElem_toArray, List.getElem_cons_zero, List.getElem_cons_succ, List.setIfInBounds_toArray, List.set_cons_zero, List.set_cons_succ]
    refine wpAnyH_take (i := 17) (v := ?_) rfl (by kernel_rfl) (by kernel_rfl) (by kernel_rfl) (fun _ _ _ h => h) (Or.inl ⟨by rfl, ?_⟩) hHeld ?_
    rotate_left
    · (intro wx hSw; obtain ⟨hq0, hq1, hq2⟩ := HQ7.out wx hSw; first | (go_simp; done) | (go_simp; with_reducible rfl))
    simp only [Act.put, List.getElem_toArray, List.getElem_cons_zero, List.getElem_cons_succ, List.setIfInBounds_toArray, List.set_cons_zero, List.set_cons_succ]
    refine wpAnyH_take (i := 18) (v := ?_) rfl (by kernel_rfl) (by kernel_rfl) (by kernel_rfl) (fun _ _ _ h => h) (Or.inl ⟨by rfl, ?_⟩) hHeld ?_
    rotate_left
    · (intro wx hSw; obtain ⟨hq0, hq1, hq2⟩ := HQ7.out wx hSw; first | (go_simp; done) | (go_simp; with_reducible rfl))
    simp only [Act.put, List.getElem_toArray, List.getElem_cons_zero, List.getElem_cons_succ, List.setIfInBounds_toArray, List.set_cons_zero, List.set_cons_succ]
    refine wpAnyH_take (i := 19) (v := ?_) rfl (by kernel_rfl) (by kernel_rfl) (by kernel_rfl) (fun _ _ _ h => h) (Or.inl ⟨by rfl, ?_⟩) hHeld ?_
    rotate_left
    · (intro wx hSw; obtain ⟨hq0, hq1, hq2⟩ := HQ7.out wx hSw; first | (go_simp; done) | (go_simp; with_reducible rfl))
    simp only [Act.put, List.getElem_toArray, List.getElem_cons_zero, List.getElem_cons_succ, List.setIfInBounds_toArray, List.set_cons_zero, List.set_cons_succ]
    refine wpAnyH_take (i := 20) (v := ?_) rfl (by kernel_rfl) (by kernel_rfl) (by kernel_rfl) (fun _ _ _ h => h) (Or.inl ⟨by rfl, ?_⟩) hHeld ?_
    rotate_left
    · (intro wx hSw; obtain ⟨hq0, hq1, hq2⟩ := HQ7.out wx hSw; first | (go_simp; done) | (go_simp; with_reducible rfl))
    simp only [Act.put, List.getElem_toArray, List.getElem_cons_zero, List.getElem_cons_succ, List.setIfInBounds_toArray, List.set_cons_zero, List.set_cons_succ]
    refine wpAnyH_take (i := 21) (v := ?_) rfl (by kernel_rfl) (by kernel_rfl) (by kernel_rfl) (fun _ _ _ h => h) (Or.inl ⟨by rfl, ?_⟩) hHeld ?_
    rotate_left
    · (intro wx hSw; (try dsimp only at hSw); first | (go_simp; done) | (go_simp; with_reducible rfl))
    simp only [Act.put, List.getElem_toArray, List.getElem_cons_zero, List.getElem_cons_succ, List.setIfInBounds_toArray, List.set_cons_zero, List.set_cons_succ]
    refine wpAnyH_take (i := 22) (v := ?_) rfl (by kernel_rfl) (by kernel_rfl) (by kernel_rfl) (fun _ _ _ h => h) (Or.inl ⟨by rfl, ?_⟩) hHeld ?_
    rotate_left
    · (intro wx hSw; (try dsimp only at hSw); first | (go_simp; done) | (go_simp; with_reducible rfl))
    simp only [Act.put, List.getElem_toArray, List.getElem_cons_zero, List.getElem_cons_succ, List.setIfInBounds_toArray, List.set_cons_zero, List.set_cons_succ]
    refine wpAnyH_take (i := 23) (v := ?_) rfl (by kernel_rfl) (by kernel_rfl) (by kernel_rfl) (fun _ _ _ h => h) (Or.inl ⟨by rfl, ?_⟩) hHeld ?_
    rotate_left
    · (intro wx hSw; (try dsimp only at hSw); first | (go_simp; done) | (go_simp; with_reducible rfl))
    simp only [Act.put, List.getElem_toArray, List.getElem_cons_zero, List.getElem_cons_succ, List.setIfInBounds_toArray, List.set_cons_zero, List.set_cons_succ]
    refine wpAnyH_take (i := 24) (v := ?_) rfl (by kernel_rfl) (by kernel_rfl) (by kernel_rfl) (fun _ _ _ h => h) (Or.inl ⟨by rfl, ?_⟩) hHeld ?_
    rotate_left
    · (intro wx hSw; (try dsimp only at hSw); first | (go_simp; done) | (go_simp; with_reducible rfl))
    simp only [Act.put, List.getElem_toArray, List.getElem_cons_zero, List.getElem_cons_succ, List.setIfInBounds_toArray, List.set_cons_zero, List.set_cons_succ]
    refine wpAnyH_take (i := 25) (v := ?_) rfl (by kernel_rfl) (by kernel_rfl) (by kernel_rfl) (fun _ _ _ h => h) (Or.inl ⟨by rfl, ?_⟩) hHeld ?_
    rotate_left
    · (intro wx hSw; (try dsimp only at hSw); first | (go_simp; done) | (go_simp; with_reducible rfl))
    simp only [Act.put, List.getElem_toArray, List.getElem_cons_zero, List.getElem_cons_succ, List.setIfInBounds_toArray, List.set_cons_zero, List.set_cons_succ]
    refine wpAnyH_take (i := 26) (v := ?_) rfl (by kernel_rfl) (by kernel_rfl) (by kernel_rfl) (fun _ _ _ h => h) (Or.inl ⟨by rfl, ?_⟩) hHeld ?_
    rotate_left
    · (intro wx hSw; (try dsimp only at hSw); first | (go_simp; done) | (go_simp; with_reducible rfl))
    simp only [Act.put, List.getElem_toArray, List.getElem_cons_zero, List.getElem_cons_succ, List.setIfInBounds_toArray, List.set_cons_zero, List.set_cons_succ]
    refine wpAnyH_take (i := 27) (v := ?_) rfl (by kernel_rfl) (by kernel_rfl) (by kernel_rfl) (fun _ _ _ h => h) (Or.inl ⟨by rfl, ?_⟩) hHeld ?_
    rotate_left
    · (intro wx hSw; (try dsimp only at hSw); first | (go_simp; done) | (go_simp; with_reducible rfl))
    simp only [Act.put, List.getElem_toArray, List.getElem_cons_zero, List.getElem_cons_succ, List.setIfInBounds_toArray, List.set_cons_zero, List.set_cons_succ]
    refine wpAnyH_take (i := 28) (v := ?_) rfl (by kernel_rfl) (by kernel_rfl) (by kernel_rfl) (fun _ _ _ h => h) (Or.inl ⟨by rfl, ?_⟩) hHeld ?_
    rotate_left
    · (intro wx hSw; (try dsimp only at hSw); first | (go_simp; done) | (go_simp; with_reducible rfl))
    simp only [Act.put, List.getElem_toArray, List.getElem_cons_zero, List.getElem_cons_succ, List.setIfInBounds_toArray, List.set_cons_zero, List.set_cons_succ]
    refine wpAnyH_take (i := 29) (v := ?_) rfl (by kernel_rfl) (by kernel_rfl) (by kernel_rfl) (fun _ _ _ h => h) (Or.inl ⟨by rfl, ?_⟩) hHeld ?_
    rotate_left
    · (intro wx hSw; (try dsimp only at hSw); first | (go_simp; done) | (go_simp; with_reducible rfl))
    simp only [Act.put, List.getElem_toArray, List.getElem_cons_zero, List.getElem_cons_succ, List.setIfInBounds_toArray, List.set_cons_zero, List.set_cons_succ]
    refine wpAnyH_take (i := 30) (v := ?_) rfl (by kernel_rfl) (by kernel_rfl) (by kernel_rfl) (fun _ _ _ h => h) (Or.inl ⟨by rfl, ?_⟩) hHeld ?_
    rotate_left
    · (intro wx hSw; (try dsimp only at hSw); first | (go_simp; done) | (go_simp; with_reducible rfl))
    simp only [Act.put, List.getElem_toArray, List.getElem_cons_zero, List.getElem_cons_succ, List.setIfInBounds_toArray, List.set_cons_zero, List.set_cons_succ]
    refine wpAnyH_take (i := 31) (v := ?_) rfl (by kernel_rfl) (by kernel_rfl) (by kernel_rfl) (fun _ _ _ h => h) (Or.inl ⟨by rfl, ?_⟩) hHeld ?_
    rotate_left
    · (intro wx hSw; (try dsimp only at hSw); first | (go_simp; done) | (go_simp; with_reducible rfl))
    simp only [Act.put, List.getElem_toArray, List.getElem_cons_zero, List.getElem_cons_succ, List.setIfInBounds_toArray, List.set_cons_zero, List.set_cons_succ]
    refine wpAnyH_done (by kernel_rfl) ?_ _
    go_wp2
    go_ret
    exact ⟨rfl, HE.out.trans (((below_drewN _ _ 1).trans HB8.out).mono sW)⟩
end frameBlocks
end Go.Proofs.Ytdiehfjamnaoiaa
