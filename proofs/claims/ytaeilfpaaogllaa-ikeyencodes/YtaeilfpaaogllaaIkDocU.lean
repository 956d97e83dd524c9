/-
  What DocUnsort answers; the law IkeySorts, walked.
-/
import Derived.Test.YtaeilfpaaogllaaIkDocS
namespace Go.Proofs.Ytaeilfpaaogllaa
open Go.RowKit

def cmpL (l : List Nat) : List Nat := l.map (255 - ·)
theorem cmp_byte (l : List Nat) : ∀ x ∈ cmpL l, x < 256 := by
  intro x hx; simp only [cmpL, List.mem_map] at hx; obtain ⟨y, _, rfl⟩ := hx; omega
theorem val_cmp (l : List Nat) (hb : ∀ x ∈ l, x < 256) : valB (cmpL l) + valB l + 1 = 2 ^ (8 * l.length) := by
  induction l with
  | nil => simp [cmpL, valB]
  | cons c l ih =>
    have h1 := ih (fun x hx => hb x (List.mem_cons_of_mem _ hx))
    have hc := hb c List.mem_cons_self
    have e : valB (cmpL (c :: l)) = (255 - c) * 2 ^ (8 * l.length) + valB (cmpL l) := by
      show (255 - c) * 2 ^ (8 * (cmpL l).length) + valB (cmpL l) = _
      rw [show (cmpL l).length = l.length by simp [cmpL]]
    have e2 : valB (c :: l) = c * 2 ^ (8 * l.length) + valB l := rfl
    rw [e, e2, List.length_cons, pow8]
    have e3 : (255 - c) * 2 ^ (8 * l.length) + c * 2 ^ (8 * l.length) = 255 * 2 ^ (8 * l.length) := by rw [← Nat.add_mul]; congr 1; omega
    omega
theorem cmp_take (t : List Nat) (k : Nat) (h : k < t.length) : valB (cmpL (t.take (k + 1))) = valB (cmpL (t.take k)) * 256 + (255 - t[k]) := by
  rw [List.take_succ_eq_append_getElem h]
  unfold cmpL
  rw [List.map_append]
  exact valB_snoc _ _
theorem cmp_mark (t : List Nat) (hb : ∀ x ∈ t, x < 256) (h8 : t.length = 8) : (18446744073709551615 - valB t) / 256 = valB (cmpL (t.take 7)) ∧ (18446744073709551615 - valB t) % 256 = 255 - t[7] := by
  have h := val_cmp t hb
  rw [h8] at h
  have h2 := cmp_take t 7 (by omega)
  rw [List.take_of_length_le (by omega)] at h2
  have e : 2 ^ (8 * 8) = 18446744073709551616 := rfl
  have hx := hb t[7] (List.getElem_mem _)
  omega
theorem cut_onto (ks R : List Nat) : cutL (esc ks ++ R) = onto ks (cutL R) := by
  induction ks with
  | nil => rw [onto_nil]; rfl
  | cons c ks ih =>
    have e : onto (c :: ks) (cutL R) = (onto ks (cutL R)).map (fun r => (c :: r.1, r.2)) := by cases cutL R <;> rfl
    rw [e, ← ih]
    by_cases hc : c = 0
    · subst hc
      simp only [esc, if_true, List.cons_append]
      rw [cut_nought]
    · simp only [esc, hc, if_false, List.cons_append]
      cases hx : esc ks ++ R with
      | nil => rw [cutL_short _ (by simp), cutL_short _ (by simp)]; rfl
      | cons d t => rw [cut_other hc]
theorem idx_at (s : ByteArray) (z : Int) (n : Nat) (hz : z = n) (hn : n < s.size) (w : World) : (Instr.index 9 (.string s) (.int .i64 z)).run Try.prog w = .ok (.int .u8 (s[n].toNat : Int)) w := by
  subst hz
  rw [run_index_string (P := Try.prog) w 9 s .i64 (n : Int) Try.underlying9, dif_pos ⟨by omega, by omega⟩]
  simp
theorem snoc_byte {ks : List Nat} {c : Nat} (h : ∀ y ∈ ks, y < 256) (hc : c < 256) : ∀ y ∈ ks ++ [c], y < 256 := by
  intro y hy
  rcases List.mem_append.1 hy with h1 | h1
  · exact h y h1
  · simp at h1; omega
theorem VerAt.set1 {w : World} {b : Nat} {k : ByteArray} {s d : Int} (h : VerAt w b k s d) (s' : Int) : VerAt (w.setCell ⟨b, 1, none⟩ (.int .i64 s')) b k s' d :=
  ⟨by rw [World.cell?_setCell_other _ _ _ _ (by intro e; injection e; omega)]; exact h.c0, World.cell?_setCell_same _ _ _ h.c1, by rw [World.cell?_setCell_other _ _ _ _ (by intro e; injection e; omega)]; exact h.c2, by simpa [World.setCell] using h.lt⟩
theorem VerAt.far {w : World} {b q : Nat} {k : ByteArray} {s d : Int} (h : VerAt w b k s d) (hne : b ≠ q) (v : Value) : VerAt (w.setCell ⟨q, 1, none⟩ v) b k s d :=
  ⟨by rw [World.cell?_setCell_other _ _ _ _ (by intro e; injection e; omega)]; exact h.c0, by rw [World.cell?_setCell_other _ _ _ _ (by intro e; injection e; omega)]; exact h.c1, by rw [World.cell?_setCell_other _ _ _ _ (by intro e; injection e; omega)]; exact h.c2, by simpa [World.setCell] using h.lt⟩
theorem FrzAt.set1 {w : World} {b : Nat} (h : FrzAt w b) (p : Addr) (v : Value) : FrzAt (w.setCell p v) b :=
  ⟨by rw [World.frozen?_setCell]; exact h.f0, by rw [World.frozen?_setCell]; exact h.f1, by rw [World.frozen?_setCell]; exact h.f2⟩
theorem drop2 {l : List Nat} {i : Nat} (h : i + 1 < l.length) : l.drop i = l[i] :: l[i + 1] :: l.drop (i + 2) := by
  rw [List.drop_eq_getElem_cons (by omega), List.drop_eq_getElem_cons (by omega)]
set_option maxRecDepth 100000 in
set_option maxHeartbeats 800000 in
theorem docUns_any (b : ByteArray) (hm : b.size ≤ 140737488351232) (w : World) :
    Calls Try.prog 19 #[.string b] w fun e w' => e = .returned (verT (unsV (natsOf b))) ∧ Below w.heap.size w w' := by
  have HNL := Lib.hid (natsOf_length b)
  have HNB := Lib.hid (natsOf_byte b)
  have HNG := Lib.hid (natsOf_get b)
  have HRV := Lib.hid (verAt_new w ⟨#[]⟩ 0 0 23)
  have HRF := Lib.hid (frzAt_new w #[.string ⟨#[]⟩, .int .i64 0, .int .i64 0] 23)
  have HWB := Lib.hid (bel1 w (.cells #[.string ⟨#[]⟩, .int .i64 0, .int .i64 0] 23))
  go_enter Try.func19, Try.ntmps19
  go_wp2_with fail
  generalize w.alloc (.cells #[.string ⟨#[]⟩, .int .i64 0, .int .i64 0] 23) = wa at *
  have hwa : w.heap.size + 1 ≤ wa.heap.size := HRV.out.lt
  go_loopw [4, 5] (fun v x wr => ∃ (i : Nat) (ks : List Nat), i ≤ b.size ∧ ks.length ≤ i ∧ x = .int .i64 (i : Int) ∧ Hid (wr.ownsRow (w.heap.size + 1) 5 1 v ks.length (u8s ks) ∧ Below (w.heap.size + 1) wa wr ∧ (∀ y ∈ ks, y < 256) ∧ cutL (natsOf b) = onto ks (cutL ((natsOf b).drop i)))) (fun _ x _ => b.size - (intOf x).toNat)
  case atStart => exact ⟨0, [], by omega, by simp, rfl, World.ownsRow_nil _ _ _ _, Below.refl _ _, by simp, by rw [onto_nil]; rfl⟩
  case round =>
    obtain ⟨i, ks, hi, hki, rfl, hI⟩ := hrel
    obtain ⟨ho, hB, hkb, hcut⟩ := hI.out
    by_cases h1 : i + 1 < b.size
    · have hi0 : i < b.size := by omega
      have hcl := (b[i]).toNat_lt
      have hdl := (b[i + 1]).toNat_lt
      have hdr : (natsOf b).drop i = b[i].toNat :: b[i + 1].toNat :: (natsOf b).drop (i + 2) := by
        rw [drop2 (by rw [HNL.out]; exact h1), HNG.out i hi0, HNG.out (i + 1) h1]
      have hdr1 : (natsOf b).drop (i + 1) = b[i + 1].toNat :: (natsOf b).drop (i + 2) := by
        rw [List.drop_eq_getElem_cons (by rw [HNL.out]; exact h1), HNG.out (i + 1) h1]
      by_cases hc : b[i].toNat = 0
      · have qc : ((b[i].toNat : Int) != 0) = false := by simp; omega
        have qc2 : ((b[i].toNat : Int) == 0) = true := by simp; omega
        by_cases hd : b[i + 1].toNat = 255
        · have qd : ((b[i + 1].toNat : Int) == 255) = true := by simp; omega
          obtain ⟨v5, w5, r5, o5, b5⟩ := app1 (w.heap.size + 1) wa wr _ _ _ (b[i].toNat : Int) b[i].toNat rfl ho hB hwa wr.heap.size rfl (by omega)
          have HF : Hid (w5.ownsRow (w.heap.size + 1) 5 1 v5 (ks ++ [b[i].toNat]).length (u8s (ks ++ [b[i].toNat])) ∧ Below (w.heap.size + 1) wa w5 ∧ (∀ y ∈ ks ++ [b[i].toNat], y < 256) ∧ cutL (natsOf b) = onto (ks ++ [b[i].toNat]) (cutL ((natsOf b).drop (i + 2)))) := Lib.hid ⟨by simpa using o5, b5, snoc_byte hkb hcl, by rw [hcut, hdr, hc, hd, cut_nought, onto_cons]⟩
          clear ho hB hkb hcut hI o5 b5 hdr hdr1 hc hd
          go_wp2_with (at_builtin; refine wpList_app_run rfl rfl r5 rfl rfl ?_)
          go_roundw
          case rel => exact ⟨i + 2, ks ++ [b[i].toNat], by omega, by simp; omega, by go_num, HF.out⟩
          case measure => simp [intOf]; omega
        · have qd : ((b[i + 1].toNat : Int) == 255) = false := by rw [beq_eq_false_iff_ne]; omega
          have hcs : (b[i + 1].toNat = 0 ∧ cutL (natsOf b) = some (ks, (natsOf b).drop (i + 2))) ∨ (cutL (natsOf b) = none) := by
            by_cases hd0 : b[i + 1].toNat = 0
            · exact .inl ⟨hd0, by rw [hcut, hdr, hc, hd0, cut_ended]; simp [onto]⟩
            · exact .inr (by rw [hcut, hdr, hc, cut_bad hd hd0]; rfl)
          have hRV : VerAt wr w.heap.size ⟨#[]⟩ 0 0 := ⟨(hB.cell (p := ⟨w.heap.size, 0, none⟩) (by simp)).trans HRV.out.c0, (hB.cell (p := ⟨w.heap.size, 1, none⟩) (by simp)).trans HRV.out.c1, (hB.cell (p := ⟨w.heap.size, 2, none⟩) (by simp)).trans HRV.out.c2, by have := hB.size; omega⟩
          have hRF : FrzAt wr w.heap.size := ⟨(hB.frozen (p := ⟨w.heap.size, 0, none⟩) (by simp)).trans HRF.out.f0, (hB.frozen (p := ⟨w.heap.size, 1, none⟩) (by simp)).trans HRF.out.f1, (hB.frozen (p := ⟨w.heap.size, 2, none⟩) (by simp)).trans HRF.out.f2⟩
          have HB : Hid (Below w.heap.size w wr) := Lib.hid (HWB.out.trans (hB.mono (by omega)))
          have hdl8 : ((natsOf b).drop (i + 2)).length = b.size - (i + 2) := by rw [List.length_drop, HNL.out]
          by_cases h8 : b.size = i + 10
          · have q8 : ((b.size : Int) - ((i : Int) + 2) != 8) = false := by simp; omega
            obtain ⟨ak, ck, rfl, hyk, hkn, -⟩ := byt_of_own ho
            have hcv := fun wx (hx : Below wr.heap.size wr wx) => conv_bytes (hyk.keep hx) hkb hkn ck ks.length rfl
            have hc0 := hcv wr (Below.refl _ _)
            have hc1 := hcv wr.drew ((Below.refl _ wr).drew)
            have hc2 := hcv (wr.alloc (.cells #[.string ⟨#[]⟩, .int .i64 0, .int .i64 0] 23)).drew ((bel1 _ _).drew)
            have hi9 : i + 9 < b.size := by omega
            have hle : b.size ≤ i + 10 := by omega
            have hix := idx_at b ((i : Int) + 2 + 7) (i + 9) (by omega) hi9
            have hk7 := (b[i + 9]).toNat_lt
            have HR1 := Lib.hid hRV
            have HR2 := Lib.hid hRF
            clear ho hB hI hyk hkn hdr hdr1 hcut hRV hRF h8
            generalize hK : strOf ks = K at *
            go_wp2_with fail
            have HT8 : Hid (((natsOf b).drop (i + 2)).length = 8) := Lib.hid (by rw [hdl8]; omega)
            have HTB : Hid (∀ x ∈ (natsOf b).drop (i + 2), x < 256) := Lib.hid (fun x hx => HNB.out x (List.mem_of_mem_drop hx))
            have HTG : Hid (∀ k (hk : k < 8), ((natsOf b).drop (i + 2))[k]'(by rw [HT8.out]; exact hk) = (b[i + 2 + k]'(by omega)).toNat) := Lib.hid (fun k hk => by
              rw [List.getElem_drop]; exact HNG.out _ _)
            generalize hT : (natsOf b).drop (i + 2) = t at *
            clear hT
            obtain ⟨KD, hKD⟩ : ∃ KD, KD = (18446744073709551615 - valB t) % 256 := ⟨_, rfl⟩
            obtain ⟨SQ, hSQ⟩ : ∃ SQ, SQ = (18446744073709551615 - valB t) / 256 := ⟨_, rfl⟩
            have hkd : (255 : Int) - (b[i + 9].toNat : Int) = (KD : Int) := by
              rw [hKD, (cmp_mark t HTB.out HT8.out).2, HTG.out 7 (by omega)]
              have e : b[i + 2 + 7] = b[i + 9] := rfl
              rw [e]; omega
            have HSQ : Hid (valB (cmpL (t.take 7)) = SQ) := Lib.hid (by rw [hSQ]; exact (cmp_mark t HTB.out HT8.out).1.symm)
            have HMK : Hid (verR K (18446744073709551615 - valB t) = if okV K (SQ : Int) (KD : Int) then (K, (SQ : Int), (KD : Int), 0) else (⟨#[]⟩, 0, 0, 2)) := Lib.hid (by rw [hSQ, hKD]; rfl)
            have HUN : Hid (unsV (natsOf b) = verR K (18446744073709551615 - valB t) ∨ unsV (natsOf b) = (⟨#[]⟩, 0, 0, 2)) := Lib.hid (by
              rcases hcs with ⟨_, h⟩ | h
              · left; unfold unsV; rw [h, ← hK]; exact if_pos HT8.out
              · right; unfold unsV; rw [h])
            clear hKD hSQ hcs hdl8
            have HDS : Hid (∀ wx, Calls Try.prog 17 #[.agg #[.string K, .int .i64 (SQ : Int), .int .i64 (KD : Int)]] wx (DocS wx (sortR K SQ KD) (chkI K SQ KD))) := Lib.hid (fun wx => docSort_any K SQ KD wx)
            go_region
            all_goals
              clear hkd hix hc0 hc1 hc2 hcv
              have VV : Hid (VerAt (wr.alloc (.cells #[.string K, .int .i64 0, .int .i64 (KD : Int)] 23)).drew wr.heap.size K 0 KD) := Lib.hid ((verAt_new wr K 0 _ 23).keep ((Below.refl _ _).drew))
              have FV : Hid (FrzAt (wr.alloc (.cells #[.string K, .int .i64 0, .int .i64 (KD : Int)] 23)).drew wr.heap.size) := Lib.hid ((frzAt_new wr _ 23).keep (by simp) ((Below.refl _ _).drew))
              have VR : Hid (VerAt (wr.alloc (.cells #[.string K, .int .i64 0, .int .i64 (KD : Int)] 23)).drew w.heap.size ⟨#[]⟩ 0 0) := Lib.hid (HR1.out.keep ((bel1 _ _).drew))
              have FR : Hid (FrzAt (wr.alloc (.cells #[.string K, .int .i64 0, .int .i64 (KD : Int)] 23)).drew w.heap.size) := Lib.hid (HR2.out.keep HR1.out.lt ((bel1 _ _).drew))
              have BV : Hid (Below w.heap.size w (wr.alloc (.cells #[.string K, .int .i64 0, .int .i64 (KD : Int)] 23)).drew) := Lib.hid ((HB.out.alloc HB.out.size _).drew)
              have hqw : w.heap.size < wr.heap.size := HR1.out.lt
              generalize (wr.alloc (.cells #[.string K, .int .i64 0, .int .i64 (KD : Int)] 23)).drew = wv at *
              generalize wr.heap.size = q at *
              go_wp2_with fail
              go_loopw [7] (fun x wx => ∃ k : Nat, k ≤ 7 ∧ x = .int .i64 (k : Int) ∧ Hid (VerAt wx q K (valB (cmpL (t.take k)) : Int) KD ∧ FrzAt wx q ∧ VerAt wx w.heap.size ⟨#[]⟩ 0 0 ∧ FrzAt wx w.heap.size ∧ Below w.heap.size w wx)) (fun x _ => 7 - (intOf x).toNat)
              case atStart => exact ⟨0, by omega, rfl, VV.out, FV.out, VR.out, FR.out, BV.out⟩
              case round =>
                obtain ⟨k, hk, rfl, hI⟩ := hrel
                obtain ⟨iv, ifz, ir, irf, ib⟩ := hI.out
                clear VV FV VR FR BV
                by_cases hk7 : k < 7
                · have hvb : valB (cmpL (t.take k)) ≤ 281474976710655 := by
                    have h1 := valB_lt (cmpL (t.take k)) (cmp_byte _)
                    have h2 : 2 ^ (8 * (cmpL (t.take k)).length) ≤ 2 ^ 48 := Nat.pow_le_pow_right (by omega) (by simp [cmpL]; omega)
                    omega
                  have HA := Lib.hid (cmp_take t k (by rw [HT8.out]; omega))
                  rw [HTG.out k (by omega)] at HA
                  have hbl := (b[i + 2 + k]'(by omega)).toNat_lt
                  have hix := idx_at b ((i : Int) + 2 + (k : Int)) (i + 2 + k) (by omega) (by omega)
                  have p1 := iv.c1
                  have f1 := ifz.f1
                  have HF : Hid (∀ s', VerAt (wr.setCell ⟨q, 1, none⟩ (.int .i64 s')) q K s' KD ∧ FrzAt (wr.setCell ⟨q, 1, none⟩ (.int .i64 s')) q ∧ VerAt (wr.setCell ⟨q, 1, none⟩ (.int .i64 s')) w.heap.size ⟨#[]⟩ 0 0 ∧ FrzAt (wr.setCell ⟨q, 1, none⟩ (.int .i64 s')) w.heap.size ∧ Below w.heap.size w (wr.setCell ⟨q, 1, none⟩ (.int .i64 s'))) := Lib.hid (fun s' => ⟨iv.set1 s', ifz.set1 _ _, ir.far (by omega) _, irf.set1 _ _, ib.setCell (p := ⟨q, 1, none⟩) (by show w.heap.size ≤ q; omega) _⟩)
                  have HE : Hid ((valB (cmpL (t.take k)) : Int) * 256 + 255 - ((b[i + 2 + k]'(by omega)).toNat : Int) = (valB (cmpL (t.take (k + 1))) : Int)) := Lib.hid (by rw [HA.out]; omega)
                  clear iv ifz ir irf ib hI HA HDS HUN HMK HSQ HTG HTB
                  generalize (b[i + 2 + k]'(by omega)).toNat = c at *
                  generalize valB (cmpL (t.take k)) = V at *
                  go_wp2_with fail
                  go_region
                  go_wp2
                  go_roundw
                  case rel =>
                    rw [HE.out]
                    obtain ⟨e1, e2, e3, e4, e5⟩ := HF.out (valB (cmpL (t.take (k + 1))) : Int)
                    exact ⟨k + 1, by omega, by go_num, e1.keep ((Below.refl _ _).drew), e2.keep e1.lt ((Below.refl _ _).drew), e3.keep ((Below.refl _ _).drew), e4.keep e3.lt ((Below.refl _ _).drew), e5.drew⟩
                  case measure => simp [intOf]; omega
                · obtain rfl : k = 7 := by omega
                  rw [HSQ.out] at iv
                  have HIB := Lib.hid ib
                  have HIR := Lib.hid ir
                  have HIF := Lib.hid irf
                  have HIV := Lib.hid iv
                  obtain ⟨p0, p1, p2, -⟩ := iv
                  clear ir irf ib hI ifz HTG HTB HSQ
                  go_wp2_with fail
                  refine (HDS.out _).mono ?_
                  rintro e w7 ⟨rfl, hb7⟩
                  obtain ⟨g0, g1, g2, -⟩ := HIR.out.keep hb7
                  obtain ⟨f0, f1, f2⟩ := HIF.out.keep HIR.out.lt hb7
                  obtain ⟨p0', p1', p2', -⟩ := HIV.out.keep hb7
                  have HB2 := Lib.hid (HIB.out.trans (hb7.mono HIB.out.size))
                  clear hb7 p0 p1 p2 HIR HIF HIV HIB HDS
                  by_cases hok : okV K (SQ : Int) (KD : Int)
                  · rw [chk_yes hok, show sortR K (SQ : Int) (KD : Int) = sortL K (SQ : Int) (KD : Int) from if_pos hok]
                    by_cases hsl : sortL K (SQ : Int) (KD : Int) = natsOf b
                    · have HV : Hid (unsV (natsOf b) = (K, (SQ : Int), (KD : Int), 0)) := Lib.hid (by rw [← hsl]; exact uns_sort hok)
                      have hss : strOf (sortL K (SQ : Int) (KD : Int)) = b := by rw [hsl, strOf_natsOf]
                      rw [hss]
                      clear hss hsl hok HUN HMK
                      go_wp2
                      refine bodyPost_ret (v := .tuple #[.agg #[.string K, .int .i64 (SQ : Int), .int .i64 (KD : Int)], .int .i64 0]) (by simp [results, Try.results19, go_sem, g0, g1, g2]) rfl ⟨by rw [HV.out]; rfl, ?_⟩
                      exact ((HB2.out.setCell (Nat.le_refl _) _).setCell (Nat.le_refl _) _).setCell (Nat.le_refl _) _
                    · have HV : Hid (unsV (natsOf b) = (⟨#[]⟩, 0, 0, 2)) := Lib.hid (by
                        rcases HUN.out with h | h
                        · exfalso
                          rw [HMK.out, if_pos hok] at h
                          have := (uns_inv HNB.out (by rw [h])).2
                          rw [h] at this
                          exact hsl this
                        · exact h)
                      have hq : ((strOf (sortL K (SQ : Int) (KD : Int))).toList == b.toList) = false := by
                        rw [beq_eq_false_iff_ne]
                        intro e
                        apply hsl
                        have e2 := toList_inj' e
                        rw [← e2, natsOf_strOf (sortL_byte _ _ _)]
                      generalize strOf (sortL K (SQ : Int) (KD : Int)) = S at *
                      clear hsl hok HUN HMK
                      go_wp2
                      refine bodyPost_ret (v := .tuple #[.agg #[.string ⟨#[]⟩, .int .i64 0, .int .i64 0], .int .i64 2]) (by simp [results, Try.results19, go_sem, g0, g1, g2]) rfl ⟨by rw [HV.out]; rfl, ?_⟩
                      exact ((HB2.out.setCell (Nat.le_refl _) _).setCell (Nat.le_refl _) _).setCell (Nat.le_refl _) _
                  · have HV : Hid (unsV (natsOf b) = (⟨#[]⟩, 0, 0, 2)) := Lib.hid (by
                      rcases HUN.out with h | h
                      · rw [h, HMK.out, if_neg hok]
                      · exact h)
                    rw [chk_no hok]
                    generalize strOf (sortR K (SQ : Int) (KD : Int)) = S at *
                    clear hok HUN HMK
                    go_wp2
                    refine bodyPost_ret (v := .tuple #[.agg #[.string ⟨#[]⟩, .int .i64 0, .int .i64 0], .int .i64 2]) (by simp [results, Try.results19, go_sem, g0, g1, g2]) rfl ⟨by rw [HV.out]; rfl, ?_⟩
                    exact ((HB2.out.setCell (Nat.le_refl _) _).setCell (Nat.le_refl _) _).setCell (Nat.le_refl _) _
          · have HV : Hid (unsV (natsOf b) = (⟨#[]⟩, 0, 0, 2)) := Lib.hid (by
              unfold unsV
              rcases hcs with ⟨_, h⟩ | h
              · rw [h]; exact if_neg (by rw [hdl8]; omega)
              · rw [h])
            obtain ⟨g0, g1, g2, -⟩ := hRV
            obtain ⟨f0, f1, f2⟩ := hRF
            have q8 : ((b.size : Int) - ((i : Int) + 2) != 8) = true := by simp; omega
            clear ho hB hkb hcut hI hcs hdl8 hdr hdr1
            go_wp2
            refine bodyPost_ret (v := .tuple #[.agg #[.string ⟨#[]⟩, .int .i64 0, .int .i64 0], .int .i64 2]) (by simp [results, Try.results19, go_sem, g0, g1, g2]) rfl ⟨by rw [HV.out]; rfl, ?_⟩
            exact ((HB.out.setCell (Nat.le_refl _) _).setCell (Nat.le_refl _) _).setCell (Nat.le_refl _) _
      · have qc : ((b[i].toNat : Int) != 0) = true := by simp; omega
        have qc2 : ((b[i].toNat : Int) == 0) = false := by rw [beq_eq_false_iff_ne]; omega
        obtain ⟨v5, w5, r5, o5, b5⟩ := app1 (w.heap.size + 1) wa wr _ _ _ (b[i].toNat : Int) b[i].toNat rfl ho hB hwa wr.heap.size rfl (by omega)
        have HF : Hid (w5.ownsRow (w.heap.size + 1) 5 1 v5 (ks ++ [b[i].toNat]).length (u8s (ks ++ [b[i].toNat])) ∧ Below (w.heap.size + 1) wa w5 ∧ (∀ y ∈ ks ++ [b[i].toNat], y < 256) ∧ cutL (natsOf b) = onto (ks ++ [b[i].toNat]) (cutL ((natsOf b).drop (i + 1)))) := Lib.hid ⟨by simpa using o5, b5, snoc_byte hkb hcl, by rw [hcut, hdr, hdr1, cut_other hc, onto_cons]⟩
        clear ho hB hkb hcut hI o5 b5 hdr hdr1
        go_wp2_with (at_builtin; refine wpList_app_run rfl rfl r5 rfl rfl ?_)
        go_roundw
        case rel => exact ⟨i + 1, ks ++ [b[i].toNat], by omega, by simp; omega, by go_num, HF.out⟩
        case measure => simp [intOf]; omega
    · have HV : Hid (unsV (natsOf b) = (⟨#[]⟩, 0, 0, 2)) := Lib.hid (by
        have : cutL (natsOf b) = none := by
          rw [hcut, cutL_short _ (by rw [List.length_drop, HNL.out]; omega)]; rfl
        unfold unsV; rw [this])
      obtain ⟨g0, g1, g2, -⟩ : VerAt wr w.heap.size ⟨#[]⟩ 0 0 := ⟨(hB.cell (p := ⟨w.heap.size, 0, none⟩) (by simp)).trans HRV.out.c0, (hB.cell (p := ⟨w.heap.size, 1, none⟩) (by simp)).trans HRV.out.c1, (hB.cell (p := ⟨w.heap.size, 2, none⟩) (by simp)).trans HRV.out.c2, by have := hB.size; omega⟩
      obtain ⟨f0, f1, f2⟩ : FrzAt wr w.heap.size := ⟨(hB.frozen (p := ⟨w.heap.size, 0, none⟩) (by simp)).trans HRF.out.f0, (hB.frozen (p := ⟨w.heap.size, 1, none⟩) (by simp)).trans HRF.out.f1, (hB.frozen (p := ⟨w.heap.size, 2, none⟩) (by simp)).trans HRF.out.f2⟩
      have HB : Hid (Below w.heap.size w wr) := Lib.hid (HWB.out.trans (hB.mono (by omega)))
      have q8 : ((b.size : Int) - ((i : Int) + 2) != 8) = true := by simp; omega
      clear ho hB hkb hcut hI
      go_wp2
      refine bodyPost_ret (v := .tuple #[.agg #[.string ⟨#[]⟩, .int .i64 0, .int .i64 0], .int .i64 2]) (by simp [results, Try.results19, go_sem, g0, g1, g2]) rfl ⟨by rw [HV.out]; rfl, ?_⟩
      exact ((HB.out.setCell (Nat.le_refl _) _).setCell (Nat.le_refl _) _).setCell (Nat.le_refl _) _
end Go.Proofs.Ytaeilfpaaogllaa
