/-
  What the document's Decode answers: the walk.
-/
import Derived.Test.YthpcgdgahlcblaaBatH3
namespace Go.Proofs.Ythpcgdgahlcblaa
open Go.RowKit Go.Deep

theorem cutOpS_f {k : Nat} {r : List Nat} (h : (cutS r 64).2.2 = false) : (cutOpS (k :: r)).2.2 = false := by
  unfold cutOpS
  dsimp only
  rw [if_neg (by rw [h]; simp)]
  exact h
theorem cutOpS_n {k : Nat} {r : List Nat} (h : (cutS r 64).2.2 = true) (hk : ¬ k = 1) : cutOpS (k :: r) = (⟨(k : Int), (cutS r 64).1, ⟨#[]⟩⟩, 1 + (cutS r 64).2.1, true) := by
  unfold cutOpS
  dsimp only
  rw [if_neg (fun h => hk h.2), h]
theorem cutOpS_v {r : List Nat} (h : (cutS r 64).2.2 = true) : cutOpS (1 :: r) = (⟨1, (cutS r 64).1, (cutS (r.drop (cutS r 64).2.1) 1000).1⟩, 1 + (cutS r 64).2.1 + (cutS (r.drop (cutS r 64).2.1) 1000).2.1, (cutS (r.drop (cutS r 64).2.1) 1000).2.2) := by
  unfold cutOpS
  dsimp only
  rw [if_pos ⟨h, rfl⟩]
theorem strEq2 {l m : List Nat} (hl : ∀ x ∈ l, x < 256) (hm : ∀ x ∈ m, x < 256) : ((strOf l).toList == (strOf m).toList) = decide (l = m) := VA.strEq hl hm
theorem strOf_nats (s : ByteArray) : strOf (natsOf s) = s := VA.strOf_natsOf s
set_option maxRecDepth 100000 in
set_option maxHeartbeats 4000000 in
theorem rDocDecode_any (t : ByteArray) (ht : t.size ≤ 1000000) (w : World) : Calls Try.prog 13 #[.string t] w (RDecV w (natsOf t)) := by
  obtain ⟨l, hl⟩ : ∃ l, natsOf t = l := ⟨_, rfl⟩
  have hb : ∀ x ∈ l, x < 256 := by rw [← hl]; exact natsOf_byte t
  have hlen : l.length = t.size := by rw [← hl]; exact natsOf_length t
  have HL := Lib.hid hl
  have HLEN := Lib.hid hlen
  have HBY := Lib.hid hb
  rw [hl]
  by_cases h12 : l.length < 12
  · have hn : Hid (decO l = none) := Lib.hid (dec_short h12)
    rw [hlen] at h12
    clear hb hlen hl
    go_enter Try.func13, Try.ntmps13
    go_wp2
    refine bodyPost_ret (v := .tuple #[.int .i64 0, .slice none 0 0, .int .i64 2]) (by simp [results, Try.results13, go_sem]) rfl ?_
    exact ⟨Below.refl _ _, .inr ⟨hn.out, rfl⟩⟩
  · have HW8 := Lib.hid (rwhole8 t (by omega) w)
    have HW4 := Lib.hid (rwhole4 t (by omega) w)
    rw [hl] at HW8 HW4
    have HN8 := Lib.hid (num_lt hb)
    have hbig := Lib.hid (dec_big (l := l))
    have hnum := Lib.hid (dec_num hb)
    have hcut := Lib.hid (dec_cut (l := l))
    have hdoc := Lib.hid (fun h1 N h2 => @dec_doc l hb h12 h1 N h2)
    have hsg := Lib.hid (sgn_nat (n := numOf8 l))
    rw [hlen] at h12
    clear hb hlen hl
    generalize numOf8 l = N at *
    generalize hC : cntOf4 l = C at *
    have HC := Lib.hid hC
    obtain ⟨z, hz⟩ : ∃ z : Int, z = (N : Int) := ⟨_, rfl⟩
    have HZ := Lib.hid hz
    rw [← hz] at HW8
    clear hC hz
    by_cases h200 : 200 < C
    · have hn : Hid (decO l = none) := Lib.hid (hbig.out h200)
      have h200' : decide ((200 : Int) < (C : Int)) = true := decide_eq_true (by omega)
      clear h200
      go_enter Try.func13, Try.ntmps13
      go_wp2_with fail
      refine HW8.out.mono ?_
      rintro e w' ⟨rfl, rfl⟩
      go_wp2_with fail
      refine HW4.out.mono ?_
      rintro e w' ⟨rfl, rfl⟩
      go_wp2_with fail
      refine bodyPost_ret (v := .tuple #[.int .i64 0, .slice none 0 0, .int .i64 2]) (by simp [results, Try.results13, go_sem]) rfl ?_
      exact ⟨Below.refl _ _, .inr ⟨hn.out, rfl⟩⟩
    · have h200' : decide ((200 : Int) < (C : Int)) = false := decide_eq_false (by omega)
      have H200 := Lib.hid h200
      by_cases h62 : 4611686018427387904 < N
      · have hn : Hid (decO l = none) := Lib.hid (hnum.out h62)
        have hq62 : decide ((4611686018427387904 : Int) < z) = true := decide_eq_true (by have := HZ.out; omega)
        clear h62 h200
        go_enter Try.func13, Try.ntmps13
        go_wp2_with fail
        refine HW8.out.mono ?_
        rintro e w' ⟨rfl, rfl⟩
        go_wp2_with fail
        refine HW4.out.mono ?_
        rintro e w' ⟨rfl, rfl⟩
        go_wp2_with fail
        refine bodyPost_ret (v := .tuple #[.int .i64 0, .slice none 0 0, .int .i64 2]) (by simp [results, Try.results13, go_sem]) rfl ?_
        exact ⟨Below.refl _ _, .inr ⟨hn.out, rfl⟩⟩
      · have HSG : Hid (sgn N = z) := Lib.hid (by rw [HZ.out]; exact hsg.out (by omega))
        have HC200 : Hid (C ≤ 200) := Lib.hid (by omega)
        have hq62 : decide ((4611686018427387904 : Int) < z) = false := decide_eq_false (by have := HZ.out; omega)
        have HN62 : Hid (0 ≤ z ∧ z ≤ 4611686018427387904) := Lib.hid (by have := HZ.out; omega)
        clear h62 h200
        clear hbig hnum hsg
        go_enter Try.func13, Try.ntmps13
        go_wp2_with fail
        refine HW8.out.mono ?_
        rintro e w' ⟨rfl, rfl⟩
        go_wp2_with fail
        refine HW4.out.mono ?_
        rintro e w' ⟨rfl, rfl⟩
        go_wp2_with fail
        have hC200 := HC200.out
        clear h200' hq62
        go_loopw [9, 10, 11] (fun x y z wr => ∃ (i p : Nat) (done : List OpV), z = .int .i64 (i : Int) ∧ i ≤ C ∧ y = .int .i64 (p : Int) ∧ p ≤ t.size ∧ Hid (wr.ownsRow w.heap.size 48 3 x i (opsV done) ∧ cutOpsF C (l.drop 12) = (cutOpsF (C - i) (l.drop p)).map (fun q => (done ++ q.1, q.2)) ∧ Below w.heap.size w wr)) (fun _ _ z _ => C - (intOf z).toNat)
        case atStart => exact ⟨0, 12, [], rfl, Nat.zero_le _, rfl, by omega, Lib.hid ⟨World.ownsRow_nil _ _ _ _, by rw [Nat.sub_zero]; cases cutOpsF C (l.drop 12) <;> simp, Below.refl _ _⟩⟩
        case round =>
          obtain ⟨i, p, done, rfl, hi, rfl, hp, HI⟩ := hrel
          clear HW8 HW4
          have hws := HI.out.2.2.size
          by_cases hin : i < C
          · by_cases hpe : t.size ≤ p
            · have hn : Hid (decO l = none) := Lib.hid (hcut.out (by
                rw [HI.out.2.1, List.drop_eq_nil_of_le (by rw [HLEN.out]; exact hpe), cutOpsF_no (by omega) rfl]; rfl))
              have hq : decide ((t.size : Int) ≤ (p : Int)) = true := by simpa using hpe
              go_wp2_with fail
              refine bodyPost_ret (v := .tuple #[.int .i64 0, .slice none 0 0, .int .i64 2]) (by simp [results, Try.results13, go_sem]) rfl ?_
              exact ⟨HI.out.2.2, .inr ⟨hn.out, rfl⟩⟩
            · have hpl : p < t.size := by omega
              have hpl2 : p < l.length := by rw [HLEN.out]; exact hpl
              have hdrop : l.drop p = t[p].toNat :: l.drop (p + 1) := by
                rw [List.drop_eq_getElem_cons hpl2]
                congr 1
                have h := natsOf_get t p hpl
                have e : (natsOf t)[p]'(by rw [natsOf_length]; exact hpl) = l[p] := by simp only [HL.out]
                rw [← e, h]
              have htx : (t.extract (p + 1) t.size).size ≤ 1000000 := by rw [ByteArray.size_extract]; omega
              obtain ⟨E1, hG1, hE1⟩ := rgetText2 (t.extract (p + 1) t.size) htx 64 64 rfl (by omega) (wr.alloc (.cells #[.int .i64 (t[p].toNat : Int), .string ⟨#[]⟩, .string ⟨#[]⟩] 48))
              rw [ext_from t (p + 1) t.size rfl, HL.out] at hG1 hE1
              have hcle := (cutS_le (l := l.drop (p + 1)) (most := 64) (fun x hx => HBY.out x (List.mem_of_mem_drop hx))).1
              rw [List.length_drop, HLEN.out] at hcle
              have HDR := Lib.hid hdrop
              have HF := Lib.hid (cutOpS_f (k := t[p].toNat) (r := l.drop (p + 1)))
              have HN := Lib.hid (cutOpS_n (k := t[p].toNat) (r := l.drop (p + 1)))
              have HV := Lib.hid (cutOpS_v (r := l.drop (p + 1)))
              have hkb : t[p].toNat < 256 := t[p].toNat_lt
              have i3 : ((p : Int) + 1).toNat = p + 1 := by omega
              have i4 : (p : Int) + 1 ≤ (t.size : Int) := by omega
              have HG1 := Lib.hid hG1
              clear hG1 hdrop
              obtain ⟨S1, hS1⟩ : ∃ S, (cutS (l.drop (p + 1)) 64).1 = S := ⟨_, rfl⟩
              obtain ⟨n1, hn1⟩ : ∃ n, (cutS (l.drop (p + 1)) 64).2.1 = n := ⟨_, rfl⟩
              obtain ⟨ok1, hok1⟩ : ∃ o, (cutS (l.drop (p + 1)) 64).2.2 = o := ⟨_, rfl⟩
              rw [hS1, hn1] at HG1 HN
              rw [hS1, hn1] at HV
              rw [hok1] at HN HV HF hE1
              rw [hn1] at hcle
              clear hS1 hn1 hok1
              cases ok1 with
              | false =>
                have hn : Hid (decO l = none) := Lib.hid (hcut.out (by
                  rw [HI.out.2.1, HDR.out, cutOpsF_no (by omega) (HF.out rfl)]; rfl))
                have q1 : (E1 != 0) = true := by
                  rw [bne, hE1]; rfl
                clear hE1
                go_wp2_with fail
                refine HG1.out.mono ?_
                rintro e w' ⟨rfl, rfl⟩
                go_wp2_with fail
                refine bodyPost_ret (v := .tuple #[.int .i64 0, .slice none 0 0, .int .i64 2]) (by simp [results, Try.results13, go_sem]) rfl ?_
                exact ⟨HI.out.2.2.trans (below_alloc hws _), .inr ⟨hn.out, rfl⟩⟩
              | true =>
                obtain rfl : E1 = 0 := by simpa using hE1
                clear hE1
                by_cases hk1 : t[p].toNat = 1
                · have htx2 : (t.extract (p + 1 + n1) t.size).size ≤ 1000000 := by rw [ByteArray.size_extract]; omega
                  obtain ⟨E2, hG2, hE2⟩ := rgetText2 (t.extract (p + 1 + n1) t.size) htx2 1000 1000 rfl (by omega) (wr.alloc (.cells #[.int .i64 1, .string S1, .string ⟨#[]⟩] 48))
                  rw [ext_from t (p + 1 + n1) t.size rfl, HL.out, ← List.drop_drop] at hG2 hE2
                  have hcle2 := (cutS_le (l := (l.drop (p + 1)).drop n1) (most := 1000) (fun x hx => HBY.out x (List.mem_of_mem_drop (List.mem_of_mem_drop hx)))).1
                  rw [List.length_drop, List.length_drop, HLEN.out] at hcle2
                  have HG2 := Lib.hid hG2
                  have HV2 := Lib.hid (HV.out rfl)
                  rw [hk1] at HDR HG1
                  have j3 : ((p : Int) + 1 + (n1 : Int)).toNat = p + 1 + n1 := by omega
                  have j4 : (p : Int) + 1 + (n1 : Int) ≤ (t.size : Int) := by omega
                  clear hG2 HV HN HF
                  obtain ⟨S2, hS2⟩ : ∃ S, (cutS ((l.drop (p + 1)).drop n1) 1000).1 = S := ⟨_, rfl⟩
                  obtain ⟨n2, hn2⟩ : ∃ n, (cutS ((l.drop (p + 1)).drop n1) 1000).2.1 = n := ⟨_, rfl⟩
                  obtain ⟨ok2, hok2⟩ : ∃ o, (cutS ((l.drop (p + 1)).drop n1) 1000).2.2 = o := ⟨_, rfl⟩
                  rw [hS2, hn2] at HG2 HV2
                  rw [hok2] at HV2 hE2
                  rw [hn2] at hcle2
                  clear hS2 hn2 hok2
                  have hk1' : (t[p].toNat : Int) = 1 := by omega
                  cases ok2 with
                  | false =>
                    have hn : Hid (decO l = none) := Lib.hid (hcut.out (by
                      rw [HI.out.2.1, HDR.out, cutOpsF_no (by omega) (by rw [HV2.out])]; rfl))
                    have q1 : (E2 != 0) = true := by
                      rw [bne, hE2]; rfl
                    clear hE2
                    go_wp2_with fail
                    refine HG1.out.mono ?_
                    rintro e w' ⟨rfl, rfl⟩
                    go_wp2_with fail
                    refine HG2.out.mono ?_
                    rintro e w' ⟨rfl, rfl⟩
                    go_wp2_with fail
                    refine bodyPost_ret (v := .tuple #[.int .i64 0, .slice none 0 0, .int .i64 2]) (by simp [results, Try.results13, go_sem]) rfl ?_
                    exact ⟨HI.out.2.2.trans (below_alloc hws _), .inr ⟨hn.out, rfl⟩⟩
                  | true =>
                    obtain rfl : E2 = 0 := by simpa using hE2
                    clear hE2
                    go_wp2_with fail
                    refine HG1.out.mono ?_
                    rintro e w' ⟨rfl, rfl⟩
                    go_wp2_with fail
                    refine HG2.out.mono ?_
                    rintro e w' ⟨rfl, rfl⟩
                    have HNX : Hid (cutOpsF C (l.drop 12) = (cutOpsF (C - (i + 1)) (l.drop (p + (1 + n1 + n2)))).map (fun q => ((done ++ [⟨1, S1, S2⟩]) ++ q.1, q.2))) := Lib.hid (by
                      rw [HI.out.2.1, HDR.out, cutOpsF_ok (by omega) (by rw [HV2.out]), HV2.out, map_two, ← HDR.out, List.drop_drop, show C - i - 1 = C - (i + 1) by omega])
                    obtain ⟨v9, W9, r9, o9, b9, -⟩ := appO w.heap.size ((wr.alloc (.cells #[.int .i64 1, .string S1, .string S2] 48)).alloc (.cells #[.int .i64 1, .string S1, .string S2] 48)) _ done [⟨1, S1, S2⟩] i 1 (some ⟨wr.heap.size + 1, 0, none⟩) 1 (own_keepS (own_keepS HI.out.1 (below_alloc (Nat.le_refl _) _)) (below_alloc (Nat.le_refl _) _)) (ops_new (wr.alloc (.cells #[.int .i64 1, .string S1, .string S2] 48)) ⟨1, S1, S2⟩ _ (by simp)) rfl (fun e => by cases e) (by simp; omega) (by omega)
                    have HB9 : Hid (Below w.heap.size w W9) := Lib.hid ((HI.out.2.2.trans ((below_alloc hws _).trans (below_alloc (by simp; omega) _))).trans b9)
                    have HO9 := Lib.hid o9
                    clear o9 b9
                    go_wp2_with (at_builtin; refine wpList_app_run rfl rfl r9 rfl rfl ?_)
                    go_roundw
                    case rel => exact ⟨i + 1, p + (1 + n1 + n2), _, by go_num, by omega, by go_num, by omega, Lib.hid ⟨HO9.out, HNX.out, HB9.out⟩⟩
                    case measure => simp [intOf]; omega
                · have HN2 := Lib.hid (HN.out rfl hk1)
                  have q2 : ((t[p].toNat : Int) == 1) = false := by simp; omega
                  clear HV HN HF
                  clear hk1
                  go_wp2_with fail
                  refine HG1.out.mono ?_
                  rintro e w' ⟨rfl, rfl⟩
                  have HNX : Hid (cutOpsF C (l.drop 12) = (cutOpsF (C - (i + 1)) (l.drop (p + (1 + n1)))).map (fun q => ((done ++ [⟨(t[p].toNat : Int), S1, ⟨#[]⟩⟩]) ++ q.1, q.2))) := Lib.hid (by
                    rw [HI.out.2.1, HDR.out, cutOpsF_ok (by omega) (by rw [HN2.out]), HN2.out, map_two, ← HDR.out, List.drop_drop, show C - i - 1 = C - (i + 1) by omega])
                  obtain ⟨v9, W9, r9, o9, b9, -⟩ := appO w.heap.size ((wr.alloc (.cells #[.int .i64 (t[p].toNat : Int), .string S1, .string ⟨#[]⟩] 48)).alloc (.cells #[.int .i64 (t[p].toNat : Int), .string S1, .string ⟨#[]⟩] 48)) _ done [⟨(t[p].toNat : Int), S1, ⟨#[]⟩⟩] i 1 (some ⟨wr.heap.size + 1, 0, none⟩) 1 (own_keepS (own_keepS HI.out.1 (below_alloc (Nat.le_refl _) _)) (below_alloc (Nat.le_refl _) _)) (ops_new (wr.alloc (.cells #[.int .i64 (t[p].toNat : Int), .string S1, .string ⟨#[]⟩] 48)) ⟨(t[p].toNat : Int), S1, ⟨#[]⟩⟩ _ (by simp)) rfl (fun e => by cases e) (by simp; omega) (by omega)
                  have HB9 : Hid (Below w.heap.size w W9) := Lib.hid ((HI.out.2.2.trans ((below_alloc hws _).trans (below_alloc (by simp; omega) _))).trans b9)
                  have HO9 := Lib.hid o9
                  clear o9 b9
                  go_wp2_with (at_builtin; refine wpList_app_run rfl rfl r9 rfl rfl ?_)
                  go_roundw
                  case rel => exact ⟨i + 1, p + (1 + n1), _, by go_num, by omega, by go_num, by omega, Lib.hid ⟨HO9.out, HNX.out, HB9.out⟩⟩
                  case measure => simp [intOf]; omega
          · obtain rfl : i = C := by omega
            obtain ⟨ad, cap, rfl, ho, -, -, -⟩ := ops_of_own HI.out.1
            have hcE : cutOpsF i (l.drop 12) = some (done, l.drop p) := by
              rw [HI.out.2.1, Nat.sub_self]
              unfold cutOpsF; simp
            obtain ⟨d1, d2⟩ := hdoc.out H200.out z HSG.out hcE
            have hdl : done.length ≤ 200 := by
              have := cutOpsF_len _ _ _ _ hcE
              rw [this]; exact hC200
            have HENC := Lib.hid (rDocEncode_any z (by have := HN62.out; omega) wr ad done.length cap done ho rfl (by omega))
            have HD1 := Lib.hid d1
            have HD2 := Lib.hid d2
            have HBX := Lib.hid HI.out.2.2
            have HOX := Lib.hid ho
            have hstr := strEq2 (encR_byte z done) HBY.out
            have htl : strOf l = t := by rw [← HL.out]; exact strOf_nats t
            rw [htl] at hstr
            have hwN : wrap64 z = z := by have := HN62.out; unfold wrap64; omega
            have HWN := Lib.hid hwN
            clear hwN
            have hz0 := HN62.out.1
            have hz1 : z ≤ 9223372036854775807 := by have := HN62.out; omega
            clear d1 d2
            clear hcE ho htl HI hcut hdoc
            obtain ⟨nd, hnd⟩ : ∃ nd, done.length = nd := ⟨_, rfl⟩
            rw [hnd] at HENC ⊢
            have HND := Lib.hid hnd
            clear hnd hdl
            by_cases hz : chkI z done = 0
            · rw [hz] at HENC
              by_cases he : encR z done = l
              · have hn := Lib.hid (HD1.out hz he)
                rw [decide_eq_true he] at hstr
                generalize strOf (encR z done) = SE at *
                clear hz he HD1 HD2
                go_wp2_with fail
                refine HENC.out.mono ?_
                rintro e W2 ⟨rfl, hb2⟩
                have HB2 := Lib.hid (HBX.out.trans (hb2.mono hws))
                have HO2 := Lib.hid (HOX.out.keep hb2)
                clear hb2 HENC
                go_wp2_with fail
                refine bodyPost_ret (v := .tuple #[.int .i64 z, .slice ad nd cap, .int .i64 0]) (by simp [results, Try.results13, go_sem]) rfl ?_
                exact ⟨HB2.out, .inl ⟨z, done, ad, cap, hn.out, by rw [HND.out], HO2.out⟩⟩
              · have hn := Lib.hid (HD2.out (.inr he))
                rw [decide_eq_false he] at hstr
                have hstr2 : (!((strOf (encR z done)).toList == t.toList)) = true := by rw [hstr]; rfl
                have hstr3 : ((strOf (encR z done)).toList != t.toList) = true := hstr2
                generalize strOf (encR z done) = SE at *
                clear hz he HD1 HD2
                go_wp2_with fail
                refine HENC.out.mono ?_
                rintro e W2 ⟨rfl, hb2⟩
                have HB2 := Lib.hid (HBX.out.trans (hb2.mono hws))
                clear hb2 HENC
                go_wp2_with fail
                refine bodyPost_ret (v := .tuple #[.int .i64 0, .slice none 0 0, .int .i64 2]) (by simp [results, Try.results13, go_sem]) rfl ?_
                exact ⟨HB2.out, .inr ⟨hn.out, rfl⟩⟩
            · have hn := Lib.hid (HD2.out (.inl hz))
              clear hstr
              generalize strOf (encR z done) = SE at *
              generalize chkI z done = c at *
              have q0 : (c != 0) = true := by simpa using hz
              clear hz HD1 HD2
              go_wp2_with fail
              refine HENC.out.mono ?_
              rintro e W2 ⟨rfl, hb2⟩
              have HB2 := Lib.hid (HBX.out.trans (hb2.mono hws))
              clear hb2 HENC
              go_wp2_with fail
              refine bodyPost_ret (v := .tuple #[.int .i64 0, .slice none 0 0, .int .i64 2]) (by simp [results, Try.results13, go_sem]) rfl ?_
              exact ⟨HB2.out, .inr ⟨hn.out, rfl⟩⟩
end Go.Proofs.Ythpcgdgahlcblaa
