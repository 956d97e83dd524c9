/-
  What Unsort answers; versions come back from both kinds of bytes.
-/
import Derived.Test.YtaeilfpaaogllaaIkCut
namespace Go.Proofs.Ytaeilfpaaogllaa
open Go.RowKit

/-- What sortable bytes tell. -/
def unsV (l : List Nat) : ByteArray × Int × Int × Int :=
  match cutL l with
  | none => (⟨#[]⟩, 0, 0, 2)
  | some (ks, rest) => if rest.length = 8 then verR (strOf ks) (18446744073709551615 - valB rest) else (⟨#[]⟩, 0, 0, 2)
theorem cut_byte (l : List Nat) (hb : ∀ x ∈ l, x < 256) (ks rest : List Nat) (h : cutL l = some (ks, rest)) : (∀ x ∈ ks, x < 256) ∧ (∀ x ∈ rest, x < 256) ∧ l = esc ks ++ 0 :: 0 :: rest := by
  match l, hb, h with
  | [], _, h => rw [cutL_short _ (by simp)] at h; cases h
  | [_], _, h => rw [cutL_short _ (by simp)] at h; cases h
  | c :: d :: t, hb, h =>
    by_cases hc : c = 0
    · subst hc
      by_cases hd : d = 255
      · subst hd
        rw [cut_nought] at h
        cases hx : cutL t with
        | none => rw [hx] at h; cases h
        | some r =>
          obtain ⟨ks', rest'⟩ := r
          rw [hx] at h
          simp at h
          obtain ⟨rfl, rfl⟩ := h
          obtain ⟨h1, h2, h3⟩ := cut_byte t (fun x hx => hb x (by simp [hx])) ks' rest' hx
          refine ⟨fun x hx => ?_, h2, ?_⟩
          · rcases List.mem_cons.1 hx with rfl | hx
            · omega
            · exact h1 x hx
          · simp [esc]; exact h3
      · by_cases hd0 : d = 0
        · subst hd0
          rw [cut_ended] at h
          simp at h
          obtain ⟨rfl, rfl⟩ := h
          exact ⟨by simp, fun x hx => hb x (by simp [hx]), rfl⟩
        · rw [cut_bad hd hd0] at h; cases h
    · rw [cut_other hc] at h
      cases hx : cutL (d :: t) with
      | none => rw [hx] at h; cases h
      | some r =>
        obtain ⟨ks', rest'⟩ := r
        rw [hx] at h
        simp at h
        obtain ⟨rfl, rfl⟩ := h
        obtain ⟨h1, h2, h3⟩ := cut_byte (d :: t) (fun x hx => hb x (List.mem_cons_of_mem _ hx)) ks' rest' hx
        refine ⟨fun x hx => ?_, h2, ?_⟩
        · rcases List.mem_cons.1 hx with rfl | hx
          · exact hb _ (by simp)
          · exact h1 x hx
        · simp [esc, hc]; exact h3
termination_by l.length
theorem cut_esc (k x : List Nat) : cutL (esc k ++ 0 :: 0 :: x) = some (k, x) := by
  induction k with
  | nil => exact cut_ended
  | cons c k ih =>
    by_cases hc : c = 0
    · subst hc
      simp only [esc, if_true, List.cons_append]
      rw [cut_nought, ih]; rfl
    · simp only [esc, hc, if_false, List.cons_append]
      cases hx : esc k ++ 0 :: 0 :: x with
      | nil => simp at hx
      | cons d t => rw [cut_other hc, ← hx, ih]; rfl
theorem verR_ok {k : ByteArray} {s d : Int} (h : okV k s d) : verR k (markN s d) = (k, s, d, 0) := by
  obtain ⟨e1, e2⟩ := markN_div h
  unfold verR
  rw [e1, e2, if_pos h]
theorem verR_inv {k : ByteArray} {n : Nat} (h : (verR k n).2.2.2 = 0) : okV k ((n / 256 : Nat) : Int) ((n % 256 : Nat) : Int) ∧ verR k n = (k, ((n / 256 : Nat) : Int), ((n % 256 : Nat) : Int), 0) ∧ markN ((n / 256 : Nat) : Int) ((n % 256 : Nat) : Int) = n := by
  unfold verR at h ⊢
  split
  · rename_i h1
    exact ⟨h1, rfl, by unfold markN; omega⟩
  · rename_i h1; rw [if_neg h1] at h; cases h
theorem verR_code (k : ByteArray) (n : Nat) : (verR k n).2.2.2 = 0 ∨ verR k n = (⟨#[]⟩, 0, 0, 2) := by
  unfold verR; split
  · exact .inl rfl
  · exact .inr rfl
theorem dec_enc {k : ByteArray} {s d : Int} (h : okV k s d) : decV (encL k s d) = (k, s, d, 0) := by
  have hl := encL_length k s d
  unfold decV
  rw [if_neg (by omega), hl, show k.size + 8 - 8 = (natsOf k).length by rw [natsOf_length]; omega]
  unfold encL
  rw [List.take_left', List.drop_left', strOf_natsOf, acc_fix _ _ _ (Nat.le_refl _)]
  · have := markN_lt h
    rw [show 2 ^ (8 * 8) = 18446744073709551616 from rfl, Nat.mod_eq_of_lt this, verR_ok h]
  · rfl
  · rfl
theorem dec_code (l : List Nat) : (decV l).2.2.2 = 0 ∨ decV l = (⟨#[]⟩, 0, 0, 2) := by
  unfold decV; split
  · exact .inr rfl
  · exact verR_code _ _
theorem dec_inv {l : List Nat} (hb : ∀ x ∈ l, x < 256) (h : (decV l).2.2.2 = 0) : okV (decV l).1 (decV l).2.1 (decV l).2.2.1 ∧ encL (decV l).1 (decV l).2.1 (decV l).2.2.1 = l := by
  unfold decV at h ⊢
  by_cases h8 : l.length < 8
  · rw [if_pos h8] at h; cases h
  · rw [if_neg h8] at h ⊢
    obtain ⟨h1, h2, h3⟩ := verR_inv h
    rw [h2]
    refine ⟨h1, ?_⟩
    unfold encL
    simp only
    rw [h3, natsOf_strOf (fun x hx => hb x (List.mem_of_mem_take hx))]
    have h4 := fix_acc (l.drop (l.length - 8)) (fun x hx => hb x (List.mem_of_mem_drop hx))
    rw [show (l.drop (l.length - 8)).length = 8 by rw [List.length_drop]; omega] at h4
    rw [h4, List.take_append_drop]
theorem uns_sort {k : ByteArray} {s d : Int} (h : okV k s d) : unsV (sortL k s d) = (k, s, d, 0) := by
  unfold unsV sortL
  rw [cut_esc]
  simp only
  have := markN_lt h
  rw [if_pos (bigL_length _ _), valB_big, strOf_natsOf, show 2 ^ (8 * 8) = 18446744073709551616 from rfl, Nat.mod_eq_of_lt (by omega), show 18446744073709551615 - (18446744073709551615 - markN s d) = markN s d by omega, verR_ok h]
theorem uns_code (l : List Nat) : (unsV l).2.2.2 = 0 ∨ unsV l = (⟨#[]⟩, 0, 0, 2) := by
  unfold unsV; split
  · exact .inr rfl
  · split
    · exact verR_code _ _
    · exact .inr rfl
theorem uns_inv {l : List Nat} (hb : ∀ x ∈ l, x < 256) (h : (unsV l).2.2.2 = 0) : okV (unsV l).1 (unsV l).2.1 (unsV l).2.2.1 ∧ sortL (unsV l).1 (unsV l).2.1 (unsV l).2.2.1 = l := by
  cases hx : cutL l with
  | none =>
    have : unsV l = (⟨#[]⟩, 0, 0, 2) := by unfold unsV; rw [hx]
    rw [this] at h; cases h
  | some r =>
    obtain ⟨ks, rest⟩ := r
    obtain ⟨b1, b2, b3⟩ := cut_byte l hb ks rest hx
    have hu : unsV l = if rest.length = 8 then verR (strOf ks) (18446744073709551615 - valB rest) else (⟨#[]⟩, 0, 0, 2) := by unfold unsV; rw [hx]
    by_cases h8 : rest.length = 8
    · rw [if_pos h8] at hu
      rw [hu] at h ⊢
      obtain ⟨h1, h2, h3⟩ := verR_inv h
      rw [h2]
      refine ⟨h1, ?_⟩
      unfold sortL
      simp only
      have hv := valB_lt rest b2
      rw [h8] at hv
      have hbv := big_val rest b2
      rw [h8] at hbv
      rw [h3, natsOf_strOf b1, show 18446744073709551615 - (18446744073709551615 - valB rest) = valB rest by
        have : 2 ^ (8 * 8) = 18446744073709551616 := rfl
        omega, hbv, ← b3]
    · rw [if_neg h8] at hu
      rw [hu] at h; cases h
set_option maxRecDepth 100000 in
set_option maxHeartbeats 800000 in
theorem unsort_any (w : World) (a : Option Addr) (cap n : Nat) (l : List Nat) (hn : l.length = n) (hl : Byt w a l) (hb : ∀ x ∈ l, x < 256) (hnil : a = none → l = []) (hc : n ≤ cap) (hm : n ≤ 140737488351232) :
    Calls Try.prog 20 #[.slice a n cap] w fun e w' => e = .returned (verT (unsV l)) ∧ Below w.heap.size w w' := by
  have HCU : Hid (Calls Try.prog 27 #[.slice a n cap] (w.alloc (.cells #[.string ⟨#[]⟩, .int .i64 0, .int .i64 0] 23)) (CutIs (w.alloc (.cells #[.string ⟨#[]⟩, .int .i64 0, .int .i64 0] 23)) (cutL l))) := Lib.hid (cutKey_any _ a cap n l hn (hl.keep (bel1 _ _)) hb hnil hc hm)
  have HCB := Lib.hid (cut_byte l hb)
  clear hl hb hnil
  have HRV := Lib.hid (verAt_new w ⟨#[]⟩ 0 0 23)
  have HRF := Lib.hid (frzAt_new w #[.string ⟨#[]⟩, .int .i64 0, .int .i64 0] 23)
  have HWB := Lib.hid (bel1 w (.cells #[.string ⟨#[]⟩, .int .i64 0, .int .i64 0] 23))
  go_enter Try.func20, Try.ntmps20
  go_wp2_with fail
  refine HCU.out.mono ?_
  rintro e w1 ⟨hb1, hm1⟩
  generalize w.alloc (.cells #[.string ⟨#[]⟩, .int .i64 0, .int .i64 0] 23) = wa at *
  obtain ⟨g0, g1, g2, -⟩ := HRV.out.keep hb1
  obtain ⟨f0, f1, f2⟩ := HRF.out.keep HRV.out.lt hb1
  have HB := Lib.hid (HWB.out.trans (hb1.mono HWB.out.size))
  cases hx : cutL l with
  | none =>
    rw [hx] at hm1
    simp only at hm1
    subst hm1
    have HV : Hid (unsV l = (⟨#[]⟩, 0, 0, 2)) := Lib.hid (by unfold unsV; rw [hx])
    clear hb1 HCU HRV HRF
    go_wp2
    refine bodyPost_ret (v := .tuple #[.agg #[.string ⟨#[]⟩, .int .i64 0, .int .i64 0], .int .i64 2]) (by simp [results, Try.results20, go_sem, g0, g1, g2]) rfl ⟨by rw [HV.out]; rfl, ?_⟩
    exact ((HB.out.setCell (Nat.le_refl _) _).setCell (Nat.le_refl _) _).setCell (Nat.le_refl _) _
  | some r =>
    obtain ⟨ks, rest⟩ := r
    rw [hx] at hm1
    simp only at hm1
    obtain ⟨v, ar, cr, rfl, hown, hby, hrn, hrc⟩ := hm1
    obtain ⟨y1, y2, -⟩ := HCB.out ks rest hx
    by_cases h8 : rest.length = 8
    · have HV : Hid (unsV l = verR (strOf ks) (18446744073709551615 - valB rest)) := Lib.hid (by unfold unsV; rw [hx]; exact if_pos h8)
      obtain ⟨ak, ck, rfl, hbk, hkn, -⟩ := byt_of_own hown
      have hvl := valB_lt rest y2
      rw [h8] at hvl
      have hvl2 : valB rest < 18446744073709551616 := hvl
      have HK : Hid (∀ wx, Below w1.heap.size w1 wx → Calls Try.prog 26 #[.slice ak ks.length ck, .int .u64 ((18446744073709551615 - valB rest : Nat) : Int)] wx fun e w' => e = .returned (verT (verR (strOf ks) (18446744073709551615 - valB rest))) ∧ Below wx.heap.size wx w') := Lib.hid (fun wx hx => version_any wx ak ks.length ck ks (hbk.keep hx) y1 hkn rfl _ (by omega))
      have HP := Lib.hid (hby.keep hb1)
      have HY2 := Lib.hid y2
      have HRV1 := Lib.hid (HRV.out.keep hb1)
      have HRF1 := Lib.hid (HRF.out.keep HRV.out.lt hb1)
      have hxm := xor_max (valB rest) hvl2
      rw [h8]
      clear hb1 HCU HRV HRF hown hby hrn hrc hbk hkn hvl y1 y2 g0 g1 g2 f0 f1 f2 hx
      generalize ks.length = kn at *
      go_wp2_with fail
      go_loop [7, 9, 26] (fun x _ i => ∃ k : Nat, k ≤ 8 ∧ x = .int .u64 (valB (rest.take k) : Int) ∧ i = .int .i64 (k : Int)) (fun _ _ i => 8 - (intOf i).toNat)
      case atStart => exact ⟨0, by omega, rfl, rfl⟩
      case round =>
        obtain ⟨k, hk, rfl, rfl⟩ := hrel
        by_cases hlt : k < 8
        · obtain ⟨b, off, rfl, hcl⟩ := HP.out.at (k := k) (by rw [h8]; exact hlt)
          have hx := HY2.out _ (List.getElem_mem (show k < rest.length by rw [h8]; exact hlt))
          have hvk : valB (rest.take k) ≤ 72057594037927935 := by
            have h1 := valB_lt (rest.take k) (fun x hx => HY2.out x (List.mem_of_mem_take hx))
            have h2 : 2 ^ (8 * (rest.take k).length) ≤ 2 ^ 56 := Nat.pow_le_pow_right (by omega) (by rw [List.length_take]; omega)
            omega
          have HO := Lib.hid (mark_val (valB (rest.take k)) (rest[k]'(by rw [h8]; exact hlt)) hvk hx)
          have HA : Hid (valB (rest.take (k + 1)) = valB (rest.take k) * 256 + rest[k]'(by rw [h8]; exact hlt)) := Lib.hid (by
            rw [List.take_succ_eq_append_getElem (by rw [h8]; exact hlt), valB_snoc])
          generalize rest[k]'(by rw [h8]; exact hlt) = c at *
          generalize valB (rest.take k) = V at *
          clear hxm
          go_wp2
          go_round
          case rel => exact ⟨k + 1, by omega, by rw [HA.out, HO.out], by go_num⟩
          case measure => simp [intOf]; omega
        · obtain rfl : k = 8 := by omega
          rw [List.take_of_length_le (by omega)]
          go_wp2_with fail
          refine (HK.out _ (Below.refl _ _)).mono ?_
          rintro e w2 ⟨rfl, hb2⟩
          obtain ⟨g0, g1, g2, -⟩ := HRV1.out.keep hb2
          obtain ⟨f0, f1, f2⟩ := HRF1.out.keep HRV1.out.lt hb2
          have HB2 := Lib.hid (HB.out.trans (hb2.mono HB.out.size))
          rw [← HV.out]
          clear hb2 HK HV
          generalize hr : unsV l = r at *
          have HRR := Lib.hid hr
          clear hr
          obtain ⟨r0, r1, r2, r3⟩ := r
          unfold verT
          simp only
          go_wp2
          refine bodyPost_ret (v := .tuple #[.agg #[.string r0, .int .i64 r1, .int .i64 r2], .int .i64 r3]) (by simp [results, Try.results20, go_sem, g0, g1, g2]) rfl ⟨by rw [HRR.out]; rfl, ?_⟩
          exact ((HB2.out.setCell (Nat.le_refl _) _).setCell (Nat.le_refl _) _).setCell (Nat.le_refl _) _
    · have HV : Hid (unsV l = (⟨#[]⟩, 0, 0, 2)) := Lib.hid (by unfold unsV; rw [hx]; exact if_neg h8)
      have q8 : ((rest.length : Int) != 8) = true := by simp; omega
      clear hb1 HCU HRV HRF hown hby hrn hx y1 y2
      go_wp2
      refine bodyPost_ret (v := .tuple #[.agg #[.string ⟨#[]⟩, .int .i64 0, .int .i64 0], .int .i64 2]) (by simp [results, Try.results20, go_sem, g0, g1, g2]) rfl ⟨by rw [HV.out]; rfl, ?_⟩
      exact ((HB.out.setCell (Nat.le_refl _) _).setCell (Nat.le_refl _) _).setCell (Nat.le_refl _) _
end Go.Proofs.Ytaeilfpaaogllaa
