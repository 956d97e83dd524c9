/-
  What DocDecode answers.
-/
import Derived.Test.YtaeilfpaaogllaaIkDocE
namespace Go.Proofs.Ytaeilfpaaogllaa
open Go.RowKit

theorem dec_eight {l : List Nat} (h : l.length < 9) : decV l = (⟨#[]⟩, 0, 0, 2) := by
  unfold decV
  split
  · rfl
  · have e : l.take (l.length - 8) = [] := by rw [show l.length - 8 = 0 by omega]; simp
    rw [e]
    unfold verR
    rw [if_neg (fun h => by have := h.1; rw [strOf_size] at this; simp at this)]
theorem slc_to (s : ByteArray) (z : Int) (n : Nat) (hz : z = n) (hn : n ≤ s.size) (w : World) : (Instr.slice 9 (.string s) none (some (.int .i64 z)) none).run Try.prog w = .ok (.string (s.extract 0 n)) w := by
  subst hz
  rw [run_slice_string_to_if (P := Try.prog) w 9 s .i64 (n : Int) Try.underlying9, if_pos ⟨by omega, by omega⟩]
  simp
set_option maxRecDepth 100000 in
set_option maxHeartbeats 1600000 in
theorem docDec_any (b : ByteArray) (hm : b.size ≤ 140737488351232) (w : World) :
    Calls Try.prog 12 #[.string b] w fun e w' => e = .returned (verT (decV (natsOf b))) ∧ Below w.heap.size w w' := by
  have HNL := Lib.hid (natsOf_length b)
  by_cases h9 : b.size < 9
  · have HV : Hid (decV (natsOf b) = (⟨#[]⟩, 0, 0, 2)) := Lib.hid (dec_eight (by rw [HNL.out]; exact h9))
    go_enter Try.func12, Try.ntmps12
    go_wp2
    exact bodyPost_ret (v := .tuple #[.agg #[.string ⟨#[]⟩, .int .i64 0, .int .i64 0], .int .i64 2]) (by simp [results, Try.results12, go_sem]) rfl ⟨by rw [HV.out]; rfl, bel1 _ _⟩
  · obtain ⟨at', hlt, hge⟩ : ∃ n, n + 7 < b.size ∧ b.size ≤ n + 8 := ⟨b.size - 8, by omega, by omega⟩
    have hi0 : (b.size : Int) - 8 = (at' : Int) := by omega
    have hix := idx_at b (at' : Int) at' rfl (by omega)
    have hsl := slc_to b (at' : Int) at' rfl (by omega)
    have hkl := (b[at']'(by omega)).toNat_lt
    have HT8 : Hid (((natsOf b).drop at').length = 8) := Lib.hid (by rw [List.length_drop, HNL.out]; omega)
    have HTG : Hid (∀ k (hk : k < 8), ((natsOf b).drop at').getD k 0 = (b[at' + k]'(by omega)).toNat) := Lib.hid (fun k hk => by
      rw [List.getD_eq_getElem?_getD, List.getElem?_drop, List.getElem?_eq_getElem (by rw [HNL.out]; omega)]
      exact natsOf_get b _ (by omega))
    have HTB : Hid (∀ x ∈ (natsOf b).drop at', x < 256) := Lib.hid (fun x hx => natsOf_byte b x (List.mem_of_mem_drop hx))
    have HV : Hid (decV (natsOf b) = verR (b.extract 0 at') (acc8 ((natsOf b).drop at') 8)) := Lib.hid (by
      unfold decV; rw [if_neg (by rw [HNL.out]; omega), HNL.out, show b.size - 8 = at' by omega, extract_str b 0 at' (by omega), List.drop_zero])
    generalize hT : (natsOf b).drop at' = t at *
    clear hT
    have HKL := Lib.hid (acc8_lt t HTB.out 8)
    obtain ⟨K, hK⟩ : ∃ K, K = acc8 t 8 := ⟨_, rfl⟩
    have hK0 : K < 18446744073709551616 := by rw [hK]; exact HKL.out
    have HK0 : Hid (acc8 t 1 = (b[at']'(by omega)).toNat) := Lib.hid (by
      show acc8 t 0 + t.getD 0 0 * 2 ^ (8 * 0) = _
      rw [HTG.out 0 (by omega)]; simp [acc8])
    rw [← hK] at HV
    have HK := Lib.hid hK
    clear hK HKL
    generalize hKK : b.extract 0 at' = kk at *
    have HRV := Lib.hid (verAt_new w ⟨#[]⟩ 0 0 23)
    have HRF := Lib.hid (frzAt_new w #[.string ⟨#[]⟩, .int .i64 0, .int .i64 0] 23)
    have HWB := Lib.hid (bel1 w (.cells #[.string ⟨#[]⟩, .int .i64 0, .int .i64 0] 23))
    generalize hkd : (b[at']'(by omega)).toNat = KD at *
    clear hkd hKK
    go_enter Try.func12, Try.ntmps12
    go_wp2_with fail
    generalize hwa : w.alloc (.cells #[.string ⟨#[]⟩, .int .i64 0, .int .i64 0] 23) = wa at *
    have hwl : w.heap.size < wa.heap.size := HRV.out.lt
    clear hwa
    go_region
    all_goals
      clear hix hsl
      have VV : Hid (VerAt (wa.alloc (.cells #[.string kk, .int .i64 0, .int .i64 (KD : Int)] 23)).drew wa.heap.size kk 0 KD) := Lib.hid ((verAt_new wa kk 0 _ 23).keep ((Below.refl _ _).drew))
      have FV : Hid (FrzAt (wa.alloc (.cells #[.string kk, .int .i64 0, .int .i64 (KD : Int)] 23)).drew wa.heap.size) := Lib.hid ((frzAt_new wa _ 23).keep (by simp) ((Below.refl _ _).drew))
      have VR : Hid (VerAt (wa.alloc (.cells #[.string kk, .int .i64 0, .int .i64 (KD : Int)] 23)).drew w.heap.size ⟨#[]⟩ 0 0) := Lib.hid (HRV.out.keep ((bel1 _ _).drew))
      have FR : Hid (FrzAt (wa.alloc (.cells #[.string kk, .int .i64 0, .int .i64 (KD : Int)] 23)).drew w.heap.size) := Lib.hid (HRF.out.keep HRV.out.lt ((bel1 _ _).drew))
      have BV : Hid (Below w.heap.size w (wa.alloc (.cells #[.string kk, .int .i64 0, .int .i64 (KD : Int)] 23)).drew) := Lib.hid ((HWB.out.alloc HWB.out.size _).drew)
      generalize (wa.alloc (.cells #[.string kk, .int .i64 0, .int .i64 (KD : Int)] 23)).drew = wv at *
      generalize wa.heap.size = q at *
      go_wp2_with fail
      go_loopw [6] (fun x wx => ∃ j n : Nat, j ≤ 7 ∧ x = .int .i64 (j : Int) ∧ Hid (n * 2 ^ (8 * (j + 1)) + acc8 t (j + 1) = K ∧ VerAt wx q kk (n : Int) KD ∧ FrzAt wx q ∧ VerAt wx w.heap.size ⟨#[]⟩ 0 0 ∧ FrzAt wx w.heap.size ∧ Below w.heap.size w wx)) (fun x _ => (intOf x).toNat)
      case atStart => exact ⟨7, 0, by omega, rfl, by rw [HK.out]; simp, VV.out, FV.out, VR.out, FR.out, BV.out⟩
      case round =>
        obtain ⟨j, n, hj, rfl, hI⟩ := hrel
        obtain ⟨hn, iv, ifz, ir, irf, ib⟩ := hI.out
        clear VV FV VR FR BV
        by_cases hj1 : 1 ≤ j
        · have hnb : n ≤ 281474976710655 := by
            have h2 : 2 ^ 16 ≤ 2 ^ (8 * (j + 1)) := Nat.pow_le_pow_right (by omega) (by omega)
            have h3 : n * 2 ^ 16 ≤ n * 2 ^ (8 * (j + 1)) := Nat.mul_le_mul_left _ h2
            omega
          have hix := idx_at b ((at' : Int) + (j : Int)) (at' + j) (by omega) (by omega)
          have hho := horner8 t n j K hn
          rw [HTG.out j (by omega)] at hho
          have hbl := (b[at' + j]'(by omega)).toNat_lt
          have p1 := iv.c1
          have f1 := ifz.f1
          have HF : Hid (∀ s', VerAt (wr.setCell ⟨q, 1, none⟩ (.int .i64 s')) q kk s' KD ∧ FrzAt (wr.setCell ⟨q, 1, none⟩ (.int .i64 s')) q ∧ VerAt (wr.setCell ⟨q, 1, none⟩ (.int .i64 s')) w.heap.size ⟨#[]⟩ 0 0 ∧ FrzAt (wr.setCell ⟨q, 1, none⟩ (.int .i64 s')) w.heap.size ∧ Below w.heap.size w (wr.setCell ⟨q, 1, none⟩ (.int .i64 s'))) := Lib.hid (fun s' => ⟨iv.set1 s', ifz.set1 _ _, ir.far (by omega) _, irf.set1 _ _, ib.setCell (p := ⟨q, 1, none⟩) (by show w.heap.size ≤ q; omega) _⟩)
          clear iv ifz ir irf ib hI HTG HTB hn
          generalize (b[at' + j]'(by omega)).toNat = c at *
          have HHO := Lib.hid hho
          have HE : Hid ((n : Int) * 256 + (c : Int) = ((n * 256 + c : Nat) : Int)) := Lib.hid (by omega)
          clear hho
          go_wp2_with fail
          go_region
          go_wp2
          go_roundw
          case rel =>
            rw [HE.out]
            obtain ⟨e1, e2, e3, e4, e5⟩ := HF.out ((n * 256 + c : Nat) : Int)
            exact ⟨j - 1, n * 256 + c, by omega, by rw [show ((j - 1 : Nat) : Int) = (j : Int) - 1 by omega], by rw [show j - 1 + 1 = j by omega]; exact HHO.out, e1.keep ((Below.refl _ _).drew), e2.keep e1.lt ((Below.refl _ _).drew), e3.keep ((Below.refl _ _).drew), e4.keep e3.lt ((Below.refl _ _).drew), e5.drew⟩
          case measure => simp [intOf]; omega
        · obtain rfl : j = 0 := by omega
          have hKK1 : n * 256 + KD = K := by
            have := hn
            rw [HK0.out] at this
            simpa using this
          have HVV : Hid (verR kk K = if okV kk (n : Int) (KD : Int) then (kk, (n : Int), (KD : Int), 0) else (⟨#[]⟩, 0, 0, 2)) := Lib.hid (by
            unfold verR
            rw [show K / 256 = n by omega, show K % 256 = KD by omega])
          have HIB := Lib.hid ib
          have HIR := Lib.hid ir
          have HIF := Lib.hid irf
          have HIV := Lib.hid iv
          obtain ⟨p0, p1, p2, -⟩ := iv
          have HRI : Hid (∀ wx, Calls Try.prog 16 #[.agg #[.string kk, .int .i64 (n : Int), .int .i64 (KD : Int)]] wx fun e w' => e = .returned (.bool (decide (okV kk (n : Int) (KD : Int)))) ∧ Below wx.heap.size wx w') := Lib.hid (right_any kk n KD)
          clear ir irf ib hI ifz HTG HTB hn hKK1
          by_cases hok : okV kk (n : Int) (KD : Int)
          · rw [decide_eq_true hok] at HRI
            rw [if_pos hok] at HVV
            clear hok
            go_wp2_with fail
            refine (HRI.out _).mono ?_
            rintro e w7 ⟨rfl, hb7⟩
            obtain ⟨g0, g1, g2, -⟩ := HIR.out.keep hb7
            obtain ⟨f0, f1, f2⟩ := HIF.out.keep HIR.out.lt hb7
            obtain ⟨p0', p1', p2', -⟩ := HIV.out.keep hb7
            have HB2 := Lib.hid (HIB.out.trans (hb7.mono HIB.out.size))
            clear hb7 p0 p1 p2 HIR HIF HIV HIB HRI
            go_wp2
            refine bodyPost_ret (v := .tuple #[.agg #[.string kk, .int .i64 (n : Int), .int .i64 (KD : Int)], .int .i64 0]) (by simp [results, Try.results12, go_sem, g0, g1, g2]) rfl ⟨by rw [HV.out, HVV.out]; rfl, ?_⟩
            exact ((HB2.out.setCell (Nat.le_refl _) _).setCell (Nat.le_refl _) _).setCell (Nat.le_refl _) _
          · rw [decide_eq_false hok] at HRI
            rw [if_neg hok] at HVV
            clear hok
            go_wp2_with fail
            refine (HRI.out _).mono ?_
            rintro e w7 ⟨rfl, hb7⟩
            obtain ⟨g0, g1, g2, -⟩ := HIR.out.keep hb7
            obtain ⟨f0, f1, f2⟩ := HIF.out.keep HIR.out.lt hb7
            have HB2 := Lib.hid (HIB.out.trans (hb7.mono HIB.out.size))
            clear hb7 p0 p1 p2 HIR HIF HIV HIB HRI
            go_wp2
            refine bodyPost_ret (v := .tuple #[.agg #[.string ⟨#[]⟩, .int .i64 0, .int .i64 0], .int .i64 2]) (by simp [results, Try.results12, go_sem, g0, g1, g2]) rfl ⟨by rw [HV.out, HVV.out]; rfl, ?_⟩
            exact ((HB2.out.setCell (Nat.le_refl _) _).setCell (Nat.le_refl _) _).setCell (Nat.le_refl _) _
end Go.Proofs.Ytaeilfpaaogllaa
