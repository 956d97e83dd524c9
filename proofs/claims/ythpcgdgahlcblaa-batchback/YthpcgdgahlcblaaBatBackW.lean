/-
  The law BatchBack, walked.
-/
import Derived.Test.YthpcgdgahlcblaaBatF1
import Derived.Test.YthpcgdgahlcblaaBatArg
namespace Go.Proofs.Ythpcgdgahlcblaa
open Go.RowKit

theorem run_part_toz {w : World} {a : Option Addr} (len cap q : Nat) (z : Int) (hz : z = q) (hq : q ≤ cap) :
    (Instr.slice 23 (.slice a len cap) none (some (.int .i64 z)) none).run Try.prog w = .ok (.slice (part a cap 0) q cap) w := by
  subst hz; exact run_part_to len cap q hq
namespace batchBack
set_option maxRecDepth 100000 in
set_option maxHeartbeats 4000000 in
theorem walk (seq : Int) (a1 : Option Addr) (len1 cap1 : Nat) (z1 : List OpV) (a2 : Option Addr) (len2 cap2 : Nat) (z2 : List Int) (w : World) (w0 : (Lit.int .i64 seq).wf = true) (w1 : IsOps w a1 len1 cap1 z1) (w2 : VA.IsRow .u8 w a2 len2 cap2 z2) :
    Calls Try.prog 4 #[.int .i64 seq, .slice a1 len1 cap1, .slice a2 len2 cap2] w fun e w' => e = .returned (.bool true) ∧ Below w.heap.size w w' := by
  obtain ⟨lb, hln2, hby, hy, hcap, hmax, hni⟩ := w2.byt
  replace hby : Byt w a2 lb := hby
  obtain ⟨hlen1, hops, hc1, hmx1, -, -⟩ := w1
  have hs := VA.wf_i64 w0
  have hmm : len1 ≤ 9223372036854775807 := by unfold maxLen at hmx1; omega
  have HR := Lib.hid (Rw.of hln2 hby hcap hni)
  have HY := Lib.hid hy
  have HLN : Hid (lb.length ≤ 9223372036854775807) := Lib.hid (by unfold maxLen at hmax; omega)
  have HLN2 := Lib.hid hln2
  have HBY := Lib.hid hby
  have HNI := Lib.hid hni
  have HOPS := Lib.hid hops
  have HL1 := Lib.hid hlen1
  have HBT := Lib.hid (batched_any w)
  have HENC0 := Lib.hid (fun wx (h : Below w.heap.size w wx) => encode_any seq hs wx a1 len1 cap1 z1 (hops.keep h) hlen1 hmm)
  clear hln2 hby hy hcap hmax hni hlen1 hops hc1 hmx1 w0
  go_enter Try.func4, Try.ntmps4
  go_wp2_with fail
  refine HBT.out.mono ?_
  rintro e W1 ⟨rfl, hb⟩
  have HB1 := Lib.hid hb
  clear hb HBT
  by_cases hz : chkI seq z1 = 0
  · have hx12 := encR_len hz
    have hxm := encR_max hz
    have hz200 := (chk_zero hz).1
    have HE := Lib.hid (HENC0.out W1 HB1.out)
    have HZ := Lib.hid hz
    clear hz HENC0
    go_wp2_with fail
    refine HE.out.mono ?_
    rintro e W2 ⟨v, rfl, ho, hb⟩
    rw [HZ.out]
    have HB2 := Lib.hid (HB1.out.trans (hb.mono HB1.out.size))
    obtain ⟨ax, cx, rfl, xb, xn, xc⟩ := byt_of_own ho
    have HX := Lib.hid (encR_byte seq z1)
    have HXD := Lib.hid (decO_enc HZ.out)
    have HXL := Lib.hid (decO_less HZ.out HX.out)
    have HXM := Lib.hid (decO_more HZ.out 0)
    have HRX := Lib.hid (Rw.of (n := (encR seq z1).length) rfl xb xc xn)
    have HXB := Lib.hid xb
    have HXN := Lib.hid xn
    clear ho hb HE xb xn
    generalize encR seq z1 = x at *
    obtain ⟨nx, hnx⟩ : ∃ nx, x.length = nx := ⟨_, rfl⟩
    have HNX := Lib.hid hnx
    rw [hnx] at HRX HXL hx12 hxm xc ⊢
    clear hnx
    have HD1 := Lib.hid (decode_some HRX.out HX.out (by rw [HNX.out]; omega) HXD.out)
    go_wp2_with fail
    refine HD1.out.mono ?_
    rintro e W3 ⟨ad, rfl, ho, -, hb⟩
    have HB3 := Lib.hid (HB2.out.trans (hb.mono HB2.out.size))
    have HB23 := Lib.hid hb
    have HOP3 := Lib.hid ho
    clear ho hb HD1
    have hsl := run_part_toz (w := W3) (a := ax) nx cx (nx - 1) ((nx : Int) - 1) (by omega) (by omega)
    have HRL : Hid (Rw W3.heap.size W3 (.slice (part ax cx 0) (nx - 1) cx) (x.take (nx - 1))) := Lib.hid (by
      exact Rw.of (by rw [List.length_take, HNX.out]; omega) (by
        have h := bytPart ((HXB.out.keep HB23.out).low) cx 0 (nx - 1) (by rw [HNX.out]; exact xc) (by omega) (by rw [HNX.out]; omega)
        simpa using h) (by omega) (fun e => by rw [HXN.out (part_none e)]; simp))
    have HD2 := Lib.hid (decode_none HRL.out (fun y hy => HX.out y (List.mem_of_mem_take hy)) (by rw [List.length_take]; omega) HXL.out)
    go_wp2_with fail
    refine HD2.out.mono ?_
    rintro e W4 ⟨rfl, hb⟩
    have HB4 := Lib.hid (HB3.out.trans (hb.mono HB3.out.size))
    have HB34 := Lib.hid hb
    clear hb HD2 HRL hsl
    obtain ⟨v1, W5, r1, o1, b1, -⟩ := appU W4.heap.size (W4.alloc (.cells #[] 5)) _ [] x 0 ax cx (own_zero W4 _ rfl) (HXB.out.keep ((HB23.out.trans (HB34.out.mono HB23.out.size)).trans ((below_alloc (Nat.le_refl _) _).mono (by have := HB23.out.size; have := HB34.out.size; omega)))) (fun e => by have := HXN.out e; rw [this] at HNX; have := HNX.out; simp at this; omega) (by simp) (by rw [HNX.out]; omega)
    rw [HNX.out, Nat.zero_add, List.nil_append] at o1
    rw [HNX.out] at r1
    have HB5 : Hid (Below W4.heap.size W4 W5) := Lib.hid ((below_alloc (Nat.le_refl _) _).trans b1)
    have HO1 := Lib.hid o1
    have s5 := HB5.out.size
    obtain ⟨v2, W6, r2, o2, b2, -⟩ := appU W4.heap.size (W5.alloc (.cells #[.int .u8 ((0 : Nat) : Int)] 5)) v1 x [0] nx (some ⟨W5.heap.size, 0, none⟩) 1 (own_keep HO1.out (below_alloc (Nat.le_refl _) _)) (byt_one W5 0 _ rfl) (fun e => by cases e) (by simp; omega) (by simp; omega)
    have B6 := Lib.hid b2
    have HB6 : Hid (Below w.heap.size w W6) := Lib.hid (HB4.out.trans ((HB5.out.trans ((below_alloc s5 _).trans b2)).mono HB4.out.size))
    obtain ⟨a6, c6, hv6, y6, n6, k6⟩ := byt_of_own o2
    have hx6 : (x ++ [0]).length = nx + 1 := by rw [List.length_append, HNX.out]; rfl
    rw [hx6] at hv6 k6
    subst hv6
    have HD3 := Lib.hid (decode_none (Rw.of hx6 y6 k6 n6) (fun y hy => by
      rcases List.mem_append.1 hy with h | h
      · exact HX.out y h
      · simp at h; omega) (by rw [hx6]; omega) HXM.out)
    clear o1 b1 o2 b2 y6 n6 k6 hx6
    go_wp2_with (at_builtin; first | refine wpList_app_run rfl rfl r1 rfl rfl ?_ | refine wpList_app_run rfl rfl r2 rfl rfl ?_)
    refine HD3.out.mono ?_
    rintro e W7 ⟨rfl, hb⟩
    have HB7 := Lib.hid (HB6.out.trans (hb.mono HB6.out.size))
    have q0 : (seq != seq) = false := by simp
    have HOE : Hid (∀ wx, Below w.heap.size w wx → Below W3.heap.size W3 wx → Calls Try.prog 16 #[.slice ad z1.length z1.length, .slice a1 len1 cap1] wx fun e w' => e = .returned (.bool true) ∧ ∃ q, w' = wx.drewN q) := Lib.hid (fun wx h1 h2 => by
      have h := rOps_any wx ad a1 z1.length len1 z1.length cap1 z1 z1 (HOP3.out.keep h2) (HOPS.out.keep h1) rfl HL1.out (by omega) hmm
      rwa [opsB_self] at h)
    have HOE7 := Lib.hid (HOE.out W7 HB7.out (by
      have h35 : Below W3.heap.size W3 W6 := HB34.out.trans ((HB5.out.trans ((below_alloc s5 _).trans (show Below W4.heap.size _ W6 from B6.out))).mono HB34.out.size)
      exact h35.trans (hb.mono h35.size)))
    clear hb HD3 HOE r1 r2
    go_wp2_with fail
    refine HOE7.out.mono ?_
    rintro e W8 ⟨rfl, q, rfl⟩
    have HB8 : Hid (Below w.heap.size w (W7.drewN q)) := Lib.hid (HB7.out.trans (below_drewN _ _ _))
    clear HOE7
    generalize W7.drewN q = W8 at *
    clear HB1 HB2 HB3 HB23 HB4 HB34 HB5 HB6 HB7 HOP3 HXB HXN HXD HXL HXM HRX HO1
    by_cases hd : ∃ p, decO lb = some p
    · obtain ⟨⟨n, L⟩, hd⟩ := hd
      obtain ⟨hc2, he2⟩ := decO_inv HY.out hd
      obtain ⟨p1, p2, p3, p4, _⟩ := chk_zero hc2
      have HD := Lib.hid (decode_some (HR.out.up HB8.out HB8.out.size) HY.out (by have := HLN.out; omega) hd)
      have HC2 := Lib.hid hc2
      have HE2 := Lib.hid he2
      clear hc2 he2 hd
      go_wp2_with fail
      refine HD.out.mono ?_
      rintro e X1 ⟨ad, rfl, ho, -, hb⟩
      have hX1 := Lib.hid (HB8.out.trans (hb.mono HB8.out.size))
      have HENC := Lib.hid (encode_any n (by omega) X1 ad L.length L.length L ho rfl (by omega))
      obtain ⟨nL, hnL⟩ : ∃ nL, L.length = nL := ⟨_, rfl⟩
      rw [hnL] at HENC ⊢
      rw [hnL] at p1 p2
      clear ho hb HD hnL
      go_wp2_with fail
      refine HENC.out.mono ?_
      rintro e X2 ⟨v, rfl, ho, hb⟩
      rw [HE2.out] at ho
      rw [HC2.out]
      have hX2 := Lib.hid (hX1.out.trans (hb.mono hX1.out.size))
      obtain ⟨ay, cy, rfl, yb, yn, yc⟩ := byt_of_own ho
      have hcv1 := conv_bytes yb HY.out yn cy lb.length rfl
      have hcv2 := conv_bytes (HBY.out.keep hX2.out) HY.out HNI.out cap2 len2 HLN2.out
      have hs : ((strOf lb).toList == (strOf lb).toList) = true := by simp
      generalize strOf lb = S at *
      generalize lb.length = nn at *
      clear ho hb HENC yb yn yc
      go_wp2_with fail
      go_ret
      exact ⟨rfl, hX2.out⟩
    · have hd : decO lb = none := by
        cases h : decO lb with
        | none => rfl
        | some p => exact absurd ⟨p, h⟩ hd
      have HD := Lib.hid (decode_none (HR.out.up HB8.out HB8.out.size) HY.out (by have := HLN.out; omega) hd)
      clear hd
      go_wp2_with fail
      refine HD.out.mono ?_
      rintro e X1 ⟨rfl, hb⟩
      have hX1 := Lib.hid (HB8.out.trans (hb.mono HB8.out.size))
      clear hb HD
      go_wp2_with fail
      go_ret
      exact ⟨rfl, hX1.out⟩
  · have HE := Lib.hid (HENC0.out W1 HB1.out)
    obtain ⟨c, hc⟩ : ∃ c, chkI seq z1 = c := ⟨_, rfl⟩
    have q0 : (c == 0) = false := by rw [← hc]; simpa using hz
    clear hz HENC0
    go_wp2_with fail
    refine HE.out.mono ?_
    rintro e W2 ⟨v, rfl, -, hb⟩
    rw [hc]
    have HB2 := Lib.hid (HB1.out.trans (hb.mono HB1.out.size))
    clear hb HE hc
    by_cases hd : ∃ p, decO lb = some p
    · obtain ⟨⟨n, L⟩, hd⟩ := hd
      obtain ⟨hc2, he2⟩ := decO_inv HY.out hd
      obtain ⟨p1, p2, p3, p4, _⟩ := chk_zero hc2
      have HD := Lib.hid (decode_some (HR.out.up HB2.out HB2.out.size) HY.out (by have := HLN.out; omega) hd)
      have HC2 := Lib.hid hc2
      have HE2 := Lib.hid he2
      clear hc2 he2 hd
      go_wp2_with fail
      refine HD.out.mono ?_
      rintro e X1 ⟨ad, rfl, ho, -, hb⟩
      have hX1 := Lib.hid (HB2.out.trans (hb.mono HB2.out.size))
      have HENC := Lib.hid (encode_any n (by omega) X1 ad L.length L.length L ho rfl (by omega))
      obtain ⟨nL, hnL⟩ : ∃ nL, L.length = nL := ⟨_, rfl⟩
      rw [hnL] at HENC ⊢
      rw [hnL] at p1 p2
      clear ho hb HD hnL
      go_wp2_with fail
      refine HENC.out.mono ?_
      rintro e X2 ⟨v, rfl, ho, hb⟩
      rw [HE2.out] at ho
      rw [HC2.out]
      have hX2 := Lib.hid (hX1.out.trans (hb.mono hX1.out.size))
      obtain ⟨ay, cy, rfl, yb, yn, yc⟩ := byt_of_own ho
      have hcv1 := conv_bytes yb HY.out yn cy lb.length rfl
      have hcv2 := conv_bytes (HBY.out.keep hX2.out) HY.out HNI.out cap2 len2 HLN2.out
      have hs : ((strOf lb).toList == (strOf lb).toList) = true := by simp
      generalize strOf lb = S at *
      generalize lb.length = nn at *
      clear ho hb HENC yb yn yc
      go_wp2_with fail
      go_ret
      exact ⟨rfl, hX2.out⟩
    · have hd : decO lb = none := by
        cases h : decO lb with
        | none => rfl
        | some p => exact absurd ⟨p, h⟩ hd
      have HD := Lib.hid (decode_none (HR.out.up HB2.out HB2.out.size) HY.out (by have := HLN.out; omega) hd)
      clear hd
      go_wp2_with fail
      refine HD.out.mono ?_
      rintro e X1 ⟨rfl, hb⟩
      have hX1 := Lib.hid (HB2.out.trans (hb.mono HB2.out.size))
      clear hb HD
      go_wp2_with fail
      go_ret
      exact ⟨rfl, hX1.out⟩
end batchBack
end Go.Proofs.Ythpcgdgahlcblaa
