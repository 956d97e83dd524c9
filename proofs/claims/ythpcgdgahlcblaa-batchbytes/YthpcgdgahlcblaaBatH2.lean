/-
  What the document's Encode answers.
-/
import Derived.Test.YthpcgdgahlcblaaBatH1
import Derived.Test.YthpcgdgahlcblaaVaVarRP
import Derived.Deep.RegionHeld3
import Derived.Deep.DeepCutAuto
namespace Go.Proofs.Ythpcgdgahlcblaa
open Go.RowKit Go.Deep

theorem strOf_app2 (l m : List Nat) : strOf l ++ strOf m = strOf (l ++ m) := VA.strOf_app l m
theorem rtext_any2 (s : ByteArray) (hs : s.size ≤ 100000) (w : World) : Calls Try.prog 30 #[.string s] w fun e w' => e = .returned (.string (strOf (textL s))) ∧ Below w.heap.size w w' := VA.rText_any w s (by omega)
theorem rfixed2 (n s : Nat) (h8 : s ≤ 8) (hn : n < 2 ^ (8 * s)) (w : World) :
    Calls Try.prog 29 #[.int .u64 (n : Int), .int .i64 (s : Int)] w fun e w' => e = .returned (.tuple #[.string (strOf (fixL n s)), .int .i64 0]) ∧ Below w.heap.size w w' := by
  have hn64 : n < 18446744073709551616 := Nat.lt_of_lt_of_le hn (show 2 ^ (8 * s) ≤ 2 ^ 64 from Nat.pow_le_pow_right (by omega) (by omega))
  refine (VA.rfixed_any n s h8 hn64 w).mono ?_
  rintro e w' ⟨rfl, hb⟩
  refine ⟨?_, hb⟩
  unfold VA.rfixV
  rw [if_pos hn]; rfl
theorem conv_one2 (W : World) (b x cap : Nat) (hx : x < 256) (hb : b < W.heap.size) (hc : W.cell? ⟨b, 0, none⟩ = some (.int .u8 (x : Int))) :
    (convert 23 9 (.slice (some ⟨b, 0, none⟩) 1 cap)).run Try.prog W = .ok (.string (strOf [x])) W := VA.conv_one W b x cap hx hb hc
theorem opL_put {k v : ByteArray} : opL ⟨1, k, v⟩ = [1] ++ textL k ++ textL v := by
  show 1 :: (textL k ++ if (1 : Int) = 1 then textL v else []) = _
  rw [if_pos rfl]; simp
theorem opL_del {k v : ByteArray} : opL ⟨0, k, v⟩ = [0] ++ textL k := by
  show 0 :: (textL k ++ if (0 : Int) = 1 then textL v else []) = _
  rw [if_neg (by omega)]; simp
set_option maxRecDepth 100000 in
set_option maxHeartbeats 4000000 in
theorem rDocEncode_any (seq : Int) (hs : -9223372036854775808 ≤ seq ∧ seq ≤ 9223372036854775807) (w : World) (a : Option Addr) (n cap : Nat) (l : List OpV) (hl : OpsAt w a l) (hn : l.length = n) (hm : n ≤ 9223372036854775807) :
    Calls Try.prog 11 #[.int .i64 seq, .slice a n cap] w fun e w' => e = .returned (.tuple #[.string (strOf (encR seq l)), .int .i64 (chkI seq l)]) ∧ Below w.heap.size w w' := by
  have HC := Lib.hid (rDocCheck_any seq hs w a n cap l hl hn hm)
  by_cases hz : chkI seq l = 0
  · obtain ⟨z1, z2, z3, z4, z5⟩ := chk_zero hz
    obtain ⟨s, rfl⟩ : ∃ s : Nat, seq = (s : Int) := ⟨seq.toNat, by omega⟩
    have HR : Hid (encR (s : Int) l = fixL s 8 ++ fixL n 4 ++ opsL l) := Lib.hid (by unfold encR encL; rw [if_pos hz, Int.toNat_natCast, hn])
    have HZ := Lib.hid hz
    have HZ5 := Lib.hid z5
    have HL := Lib.hid hl
    have HN := Lib.hid hn
    rw [hn] at z1 z2
    rw [hz] at HC ⊢
    have HF8 := Lib.hid (fun wx => rfixed2 s 8 (by omega) (by omega) wx)
    have HF4 := Lib.hid (fun wx => rfixed2 n 4 (by omega) (by omega) wx)
    have HE0 : Hid (strOf (fixL s 8) ++ strOf (fixL n 4) = strOf (fixL s 8 ++ fixL n 4 ++ opsL (l.take 0))) := Lib.hid (by rw [strOf_app2, List.take_zero, show opsL [] = [] from rfl, List.append_nil])
    have hAs : (strOf (fixL s 8)).size ≤ 8 := by rw [strOf_size]; exact Nat.le_of_eq (VA.fixL_length _ _)
    have hBs : (strOf (fixL n 4)).size ≤ 4 := by rw [strOf_size]; exact Nat.le_of_eq (VA.fixL_length _ _)
    have HSZ : Hid (∀ k, k ≤ n → (strOf (fixL s 8 ++ fixL n 4 ++ opsL (l.take k))).size ≤ 300000) := Lib.hid (fun k hk => by
      have h1 := opsL_len (l := l.take k) (fun o ho => ⟨(chk_ops hz o (List.mem_of_mem_take ho)).1, (chk_ops hz o (List.mem_of_mem_take ho)).2.1⟩)
      rw [List.length_take] at h1
      rw [strOf_size]
      simp only [List.length_append, fixL_eq, VA.fixL_length]
      omega)
    generalize hA : strOf (fixL s 8) = A at *
    generalize hB : strOf (fixL n 4) = B at *
    clear hA hB hl hn hz z5 hs
    go_enter Try.func11, Try.ntmps11
    go_wp2_with fail
    refine HC.out.mono ?_
    rintro e W1 ⟨rfl, b1⟩
    have HB1 := Lib.hid b1
    have s1 := b1.size
    clear b1 HC
    go_wp2_with fail
    refine (HF8.out _).mono ?_
    rintro e W2 ⟨rfl, b2⟩
    have HB2 := Lib.hid (HB1.out.trans (b2.mono s1))
    have s2 := HB2.out.size
    clear b2 HF8
    go_wp2_with fail
    refine (HF4.out _).mono ?_
    rintro e W3 ⟨rfl, b3⟩
    have HB3 := Lib.hid (HB2.out.trans (b3.mono s2))
    clear b3 HF4
    go_wp2_with fail
    go_loopw [11, 12] (fun x i wr => ∃ (k : Nat) (S : ByteArray), i = .int .i64 (k : Int) ∧ k ≤ n ∧ x = .string S ∧ Hid (S = strOf (fixL s 8 ++ fixL n 4 ++ opsL (l.take k))) ∧ Below w.heap.size w wr) (fun _ i _ => n - (intOf i).toNat)
    case atStart => exact ⟨0, _, rfl, Nat.zero_le _, rfl, HE0, HB3.out⟩
    case round =>
      obtain ⟨k, S, rfl, hk, rfl, HS, hbel⟩ := hrel
      have HB := Lib.hid hbel
      have hws := hbel.size
      clear hbel HE0 HB1 HB2 HB3 s1 s2
      by_cases hin : k < n
      · have hil : k < l.length := by rw [HN.out]; exact hin
        obtain ⟨b, off, rfl, hlt, c0, c1, c2⟩ := (HL.out.keep HB.out).at hil
        obtain ⟨q1, q2, q3⟩ := HZ5.out k hil
        have HST := Lib.hid (opsL_snoc l k hil)
        generalize l[k] = o at *
        obtain ⟨kd, ky, vl⟩ := o
        dsimp only at c0 c1 c2 q1 q2 q3
        have hSs : S.size ≤ 300000 := by rw [HS.out]; exact HSZ.out k (by omega)
        have hTKs : (strOf (textL ky)).size ≤ 2000 := by rw [strOf_size]; have := textL_len ky (by omega); omega
        have hTVs : (strOf (textL vl)).size ≤ 2000 := by rw [strOf_size]; have := textL_len vl (by omega); omega
        have HTK := Lib.hid (rtext_any2 ky (by omega))
        have HTV := Lib.hid (rtext_any2 vl (by omega))
        rcases q3 with rfl | rfl
        · have HNX : Hid (S ++ strOf [1] ++ strOf (textL ky) ++ strOf (textL vl) = strOf (fixL s 8 ++ fixL n 4 ++ opsL (l.take (k + 1)))) := Lib.hid (by
            rw [HS.out, HST.out, opL_put, strOf_app2, strOf_app2, strOf_app2]
            congr 1
            simp only [List.append_assoc])
          generalize strOf (textL ky) = TK at *
          generalize strOf (textL vl) = TV at *
          have hcv : ∀ wx q, q < wx.heap.size → wx.cell? ⟨q, 0, none⟩ = some (.int .u8 1) → (convert 23 9 (.slice (some ⟨q, 0, none⟩) 1 1)).run Try.prog wx = .ok (.string (strOf [1])) wx := fun wx q h1 h2 => conv_one2 wx q 1 1 (by omega) h1 h2
          have HCV := Lib.hid hcv
          have hXs : (strOf [1]).size ≤ 1 := Nat.le_refl _
          generalize strOf [1] = X1 at *
          have hw1 : IntKind.u8.wrap 1 = 1 := rfl
          have k1 : ¬ 9223372036854775807 < S.size + X1.size := by omega
          have k2 : ¬ 9223372036854775807 < S.size + X1.size + TK.size := by omega
          have k2' : ¬ 9223372036854775807 < (S ++ X1).size + TK.size := by rw [ByteArray.size_append]; omega
          have k3 : ¬ 9223372036854775807 < S.size + X1.size + TK.size + TV.size := by omega
          have k3' : ¬ 9223372036854775807 < (S ++ X1 ++ TK).size + TV.size := by rw [ByteArray.size_append, ByteArray.size_append]; omega
          clear HST HS hcv
          go_upto_region 10 with (fail)
          go_cut [11] (fun x wx => x = .string (S ++ X1 ++ TK) ∧ Hid (Below wr.heap.size wr wx))
          case first =>
            refine wp_region_held_drew (S := fun w' => Below wr.heap.size wr w') (by kernel_rfl) (below_drewN _ _ 1) (fun hHeld => ?_)
            refine wpAnyH_take (i := 0) (v := ?_) rfl (by kernel_rfl) (by kernel_rfl) (by kernel_rfl) (fun _ _ _ h => h) (Or.inl ⟨by rfl, ?_⟩) hHeld ?_
            rotate_left
            · (intro wx hSw; have e0 := (hSw.cell (p := ⟨b, off + k * 3, none⟩) hlt).trans c0; have e1 := (hSw.cell (p := ⟨b, off + k * 3 + 1, none⟩) hlt).trans c1; have elt : b < wx.heap.size := Nat.lt_of_lt_of_le hlt hSw.size; first | (go_simp; done) | (go_simp; with_reducible rfl))
            simp only [Act.put, List.getElem_toArray, List.getElem_cons_zero, List.setIfInBounds_toArray, List.set_cons_zero, List.set_cons_succ]
            refine wpAnyH_take (i := 1) (v := ?_) rfl (by kernel_rfl) (by kernel_rfl) (by kernel_rfl) (fun _ _ _ h => h) (Or.inl ⟨by rfl, ?_⟩) hHeld ?_
            rotate_left
            · (intro wx hSw; have e0 := (hSw.cell (p := ⟨b, off + k * 3, none⟩) hlt).trans c0; have e1 := (hSw.cell (p := ⟨b, off + k * 3 + 1, none⟩) hlt).trans c1; have elt : b < wx.heap.size := Nat.lt_of_lt_of_le hlt hSw.size; first | (go_simp; done) | (go_simp; with_reducible rfl))
            simp only [Act.put, List.getElem_toArray, List.getElem_cons_zero, List.getElem_cons_succ, List.setIfInBounds_toArray, List.set_cons_zero, List.set_cons_succ]
            refine wpAnyH_take (i := 2) (v := ?_) rfl (by kernel_rfl) (by kernel_rfl) (by kernel_rfl) (fun _ _ _ h => h) (Or.inl ⟨by rfl, ?_⟩) hHeld ?_
            rotate_left
            · (intro wx hSw; have e0 := (hSw.cell (p := ⟨b, off + k * 3, none⟩) hlt).trans c0; have e1 := (hSw.cell (p := ⟨b, off + k * 3 + 1, none⟩) hlt).trans c1; have elt : b < wx.heap.size := Nat.lt_of_lt_of_le hlt hSw.size; first | (go_simp; done) | (go_simp; with_reducible rfl))
            simp only [Act.put, List.getElem_toArray, List.getElem_cons_zero, List.getElem_cons_succ, List.setIfInBounds_toArray, List.set_cons_zero, List.set_cons_succ]
            refine wpAnyH_take (i := 3) (v := ?_) rfl (by kernel_rfl) (by kernel_rfl) (by kernel_rfl) (fun _ _ _ h => h) (Or.inl ⟨by rfl, ?_⟩) hHeld ?_
            rotate_left
            · (intro wx hSw; have e0 := (hSw.cell (p := ⟨b, off + k * 3, none⟩) hlt).trans c0; have e1 := (hSw.cell (p := ⟨b, off + k * 3 + 1, none⟩) hlt).trans c1; have elt : b < wx.heap.size := Nat.lt_of_lt_of_le hlt hSw.size; first | (go_simp; done) | (go_simp; with_reducible rfl))
            simp only [Act.put, List.getElem_toArray, List.getElem_cons_zero, List.getElem_cons_succ, List.setIfInBounds_toArray, List.set_cons_zero, List.set_cons_succ]
            refine wpAnyH_take (i := 4) (v := ?_) rfl (by kernel_rfl) (by kernel_rfl) (by kernel_rfl) (fun _ _ _ h => h) (Or.inl ⟨by rfl, ?_⟩) hHeld ?_
            rotate_left
            · (intro wx hSw; have e0 := (hSw.cell (p := ⟨b, off + k * 3, none⟩) hlt).trans c0; have e1 := (hSw.cell (p := ⟨b, off + k * 3 + 1, none⟩) hlt).trans c1; have elt : b < wx.heap.size := Nat.lt_of_lt_of_le hlt hSw.size; first | (go_simp; done) | (go_simp; with_reducible rfl))
            simp only [Act.put, List.getElem_toArray, List.getElem_cons_zero, List.getElem_cons_succ, List.setIfInBounds_toArray, List.set_cons_zero, List.set_cons_succ]
            refine wpAnyH_take (i := 5) (v := ?_) rfl (by kernel_rfl) (by kernel_rfl) (by kernel_rfl) (fun _ _ _ h => h) (Or.inl ⟨by rfl, ?_⟩) hHeld ?_
            rotate_left
            · (intro wx hSw; have e0 := (hSw.cell (p := ⟨b, off + k * 3, none⟩) hlt).trans c0; have e1 := (hSw.cell (p := ⟨b, off + k * 3 + 1, none⟩) hlt).trans c1; have elt : b < wx.heap.size := Nat.lt_of_lt_of_le hlt hSw.size; first | (go_simp; done) | (go_simp; with_reducible rfl))
            simp only [Act.put, List.getElem_toArray, List.getElem_cons_zero, List.getElem_cons_succ, List.setIfInBounds_toArray, List.set_cons_zero, List.set_cons_succ]
            refine wpAnyH_take (i := 6) (v := ?_) rfl (by kernel_rfl) (by kernel_rfl) (by kernel_rfl) (fun _ _ _ h => h) (Or.inl ⟨by rfl, ?_⟩) hHeld ?_
            rotate_left
            · (intro wx hSw; have e0 := (hSw.cell (p := ⟨b, off + k * 3, none⟩) hlt).trans c0; have e1 := (hSw.cell (p := ⟨b, off + k * 3 + 1, none⟩) hlt).trans c1; have elt : b < wx.heap.size := Nat.lt_of_lt_of_le hlt hSw.size; first | (go_simp; done) | (go_simp; with_reducible rfl))
            simp only [Act.put, List.getElem_toArray, List.getElem_cons_zero, List.getElem_cons_succ, List.setIfInBounds_toArray, List.set_cons_zero, List.set_cons_succ]
            refine wpAnyH_take (i := 10) (v := ?_) rfl (by kernel_rfl) (by kernel_rfl) (by kernel_rfl) (fun _ _ _ h => h) (Or.inl ⟨by rfl, ?_⟩) hHeld ?_
            rotate_left
            · (intro wx hSw; have e0 := (hSw.cell (p := ⟨b, off + k * 3, none⟩) hlt).trans c0; have e1 := (hSw.cell (p := ⟨b, off + k * 3 + 1, none⟩) hlt).trans c1; have elt : b < wx.heap.size := Nat.lt_of_lt_of_le hlt hSw.size; first | (go_simp; done) | (go_simp; with_reducible rfl))
            simp only [Act.put, List.getElem_toArray, List.getElem_cons_zero, List.getElem_cons_succ, List.setIfInBounds_toArray, List.set_cons_zero, List.set_cons_succ]
            refine wpAnyH_take (i := 11) (v := ?_) rfl (by kernel_rfl) (by kernel_rfl) (by kernel_rfl) (fun _ _ _ h => h) (Or.inl ⟨by rfl, ?_⟩) hHeld ?_
            rotate_left
            · (intro wx hSw; have e0 := (hSw.cell (p := ⟨b, off + k * 3, none⟩) hlt).trans c0; have e1 := (hSw.cell (p := ⟨b, off + k * 3 + 1, none⟩) hlt).trans c1; have elt : b < wx.heap.size := Nat.lt_of_lt_of_le hlt hSw.size; first | (go_simp; done) | (go_simp; with_reducible rfl))
            simp only [Act.put, List.getElem_toArray, List.getElem_cons_zero, List.getElem_cons_succ, List.setIfInBounds_toArray, List.set_cons_zero, List.set_cons_succ]
            refine wpAnyH_take (i := 12) (v := ?_) rfl (by kernel_rfl) (by kernel_rfl) (by kernel_rfl) (fun _ _ _ h => h) (Or.inl ⟨by rfl, ?_⟩) hHeld ?_
            rotate_left
            · (intro wx hSw; have e0 := (hSw.cell (p := ⟨b, off + k * 3, none⟩) hlt).trans c0; have e1 := (hSw.cell (p := ⟨b, off + k * 3 + 1, none⟩) hlt).trans c1; have elt : b < wx.heap.size := Nat.lt_of_lt_of_le hlt hSw.size; first | (go_simp; done) | (go_simp; with_reducible rfl))
            simp only [Act.put, List.getElem_toArray, List.getElem_cons_zero, List.getElem_cons_succ, List.setIfInBounds_toArray, List.set_cons_zero, List.set_cons_succ]
            refine wpAnyH_take (i := 13) (v := ?_) rfl (by kernel_rfl) (by kernel_rfl) (by kernel_rfl) (fun _ _ _ h => h) (Or.inl ⟨by rfl, ?_⟩) hHeld ?_
            rotate_left
            · (intro wx hSw; have e0 := (hSw.cell (p := ⟨b, off + k * 3, none⟩) hlt).trans c0; have e1 := (hSw.cell (p := ⟨b, off + k * 3 + 1, none⟩) hlt).trans c1; have elt : b < wx.heap.size := Nat.lt_of_lt_of_le hlt hSw.size; first | (go_simp; done) | (go_simp; with_reducible rfl))
            simp only [Act.put, List.getElem_toArray, List.getElem_cons_zero, List.getElem_cons_succ, List.setIfInBounds_toArray, List.set_cons_zero, List.set_cons_succ]
            refine wpAnyH_take (i := 14) (v := ?_) rfl (by kernel_rfl) (by kernel_rfl) (by kernel_rfl) (fun _ _ _ h => h) (Or.inl ⟨by rfl, ?_⟩) hHeld ?_
            rotate_left
            · (intro wx hSw; have e0 := (hSw.cell (p := ⟨b, off + k * 3, none⟩) hlt).trans c0; have e1 := (hSw.cell (p := ⟨b, off + k * 3 + 1, none⟩) hlt).trans c1; have elt : b < wx.heap.size := Nat.lt_of_lt_of_le hlt hSw.size; first | (go_simp; done) | (go_simp; with_reducible rfl))
            simp only [Act.put, List.getElem_toArray, List.getElem_cons_zero, List.getElem_cons_succ, List.setIfInBounds_toArray, List.set_cons_zero, List.set_cons_succ]
            refine wpAnyH_ready (rs := [7, 15]) (by kernel_rfl) (by simp) ?_
            refine (AllReadyH.cons rfl (fun K hK => ?_) (AllReadyH.cons rfl (fun K hK => ?_) AllReadyH.nil))
            · go_simp
              refine hK.out _ _ ((Below.refl _ wr).drew.alloc (by simp) _) (fun hHeld => ?_)
              clear hK K
              try simp only [Act.put, List.setIfInBounds_toArray, List.set_cons_zero, List.set_cons_succ]
              refine wpAnyH_ready (rs := [8, 15]) (by kernel_rfl) (by simp) ?_
              refine (AllReadyH.cons rfl (fun K hK => ?_) (AllReadyH.cons rfl (fun K hK => ?_) AllReadyH.nil))
              · have hq := HCV.out (wr.alloc (.cells #[.int .u8 1] 5)).drew wr.heap.size (by simp) (by have h := heap_alloc_new wr (.cells #[.int .u8 1] 5); show (wr.alloc (.cells #[.int .u8 1] 5)).cell? _ = _; rw [cell_of_row _ _ _ _ _ _ h]; rfl)
                go_simp
                clear hq
                refine hK.out _ _ ((Below.refl _ wr).drew.alloc (by simp) _) (fun hHeld => ?_)
                clear hK K
                try simp only [Act.put, List.setIfInBounds_toArray, List.set_cons_zero, List.set_cons_succ]
                refine wpAnyH_take (i := 9) (v := ?_) rfl (by kernel_rfl) (by kernel_rfl) (by kernel_rfl) (fun _ _ _ h => h) (Or.inl ⟨by rfl, ?_⟩) hHeld ?_
                rotate_left
                · (intro wx hSw; have e0 := (hSw.cell (p := ⟨b, off + k * 3, none⟩) hlt).trans c0; have e1 := (hSw.cell (p := ⟨b, off + k * 3 + 1, none⟩) hlt).trans c1; have elt : b < wx.heap.size := Nat.lt_of_lt_of_le hlt hSw.size; first | (go_simp; done) | (go_simp; with_reducible rfl))
                simp only [Act.put, List.getElem_toArray, List.getElem_cons_zero, List.getElem_cons_succ, List.setIfInBounds_toArray, List.set_cons_zero, List.set_cons_succ]
                refine wpAnyH_ready (rs := [15]) (by kernel_rfl) (by simp) ?_
                refine (AllReadyH.cons rfl (fun K hK => ?_) AllReadyH.nil)
                go_simp
                refine (HTK.out _).mono ?_
                rintro e w5 ⟨rfl, hb5⟩
                have b5 := Lib.hid hb5
                have HS5 : Hid (Below wr.heap.size wr w5) := Lib.hid (((Below.refl _ wr).drew.alloc (by simp) _).trans (hb5.mono (by simp)))
                clear hb5
                try go_wp2_with fail
                refine hK.out _ _ HS5.out (fun hHeld => ?_)
                clear hK K
                try simp only [Act.put, List.setIfInBounds_toArray, List.set_cons_zero, List.set_cons_succ]
                refine wpAnyH_take (i := 16) (v := ?_) rfl (by kernel_rfl) (by kernel_rfl) (by kernel_rfl) (fun _ _ _ h => h) (Or.inl ⟨by rfl, ?_⟩) hHeld ?_
                rotate_left
                · (intro wx hSw; have e0 := (hSw.cell (p := ⟨b, off + k * 3, none⟩) hlt).trans c0; have e1 := (hSw.cell (p := ⟨b, off + k * 3 + 1, none⟩) hlt).trans c1; have elt : b < wx.heap.size := Nat.lt_of_lt_of_le hlt hSw.size; first | (go_simp; done) | (go_simp; with_reducible rfl))
                simp only [Act.put, List.getElem_toArray, List.getElem_cons_zero, List.getElem_cons_succ, List.setIfInBounds_toArray, List.set_cons_zero, List.set_cons_succ]
                refine wpAnyH_take (i := 17) (v := ?_) rfl (by kernel_rfl) (by kernel_rfl) (by kernel_rfl) (fun _ _ _ h => h) (Or.inl ⟨by rfl, ?_⟩) hHeld ?_
                rotate_left
                · (intro wx hSw; have e0 := (hSw.cell (p := ⟨b, off + k * 3, none⟩) hlt).trans c0; have e1 := (hSw.cell (p := ⟨b, off + k * 3 + 1, none⟩) hlt).trans c1; have elt : b < wx.heap.size := Nat.lt_of_lt_of_le hlt hSw.size; first | (go_simp; done) | (go_simp; with_reducible rfl))
                simp only [Act.put, List.getElem_toArray, List.getElem_cons_zero, List.getElem_cons_succ, List.setIfInBounds_toArray, List.set_cons_zero, List.set_cons_succ]
                refine wpAnyH_done (by kernel_rfl) ?_ _
                go_wp2_with fail
                go_meet
                exact ⟨rfl, HS5⟩
              · go_simp
                refine (HTK.out _).mono ?_
                rintro e w5 ⟨rfl, hb5⟩
                have b5 := Lib.hid hb5
                have HS5 : Hid (Below wr.heap.size wr w5) := Lib.hid (((Below.refl _ wr).drew.alloc (by simp) _).trans (hb5.mono (by simp)))
                clear hb5
                try go_wp2_with fail
                refine hK.out _ _ HS5.out (fun hHeld => ?_)
                clear hK K
                try simp only [Act.put, List.setIfInBounds_toArray, List.set_cons_zero, List.set_cons_succ]
                refine wpAnyH_ready (rs := [8]) (by kernel_rfl) (by simp) ?_
                refine (AllReadyH.cons rfl (fun K hK => ?_) AllReadyH.nil)
                have hq := HCV.out w5 wr.heap.size (by have := b5.out.size; simp at this; omega) (by have h := heap_alloc_new wr.drew (.cells #[.int .u8 1] 5); rw [show wr.drew.heap.size = wr.heap.size from rfl] at h; have h2 := (b5.out.block wr.heap.size (by simp)).trans h; rw [cell_of_row _ _ _ _ _ _ h2]; rfl)
                go_simp
                clear hq
                refine hK.out _ _ HS5.out (fun hHeld => ?_)
                clear hK K
                try simp only [Act.put, List.setIfInBounds_toArray, List.set_cons_zero, List.set_cons_succ]
                refine wpAnyH_take (i := 9) (v := ?_) rfl (by kernel_rfl) (by kernel_rfl) (by kernel_rfl) (fun _ _ _ h => h) (Or.inl ⟨by rfl, ?_⟩) hHeld ?_
                rotate_left
                · (intro wx hSw; have e0 := (hSw.cell (p := ⟨b, off + k * 3, none⟩) hlt).trans c0; have e1 := (hSw.cell (p := ⟨b, off + k * 3 + 1, none⟩) hlt).trans c1; have elt : b < wx.heap.size := Nat.lt_of_lt_of_le hlt hSw.size; first | (go_simp; done) | (go_simp; with_reducible rfl))
                simp only [Act.put, List.getElem_toArray, List.getElem_cons_zero, List.getElem_cons_succ, List.setIfInBounds_toArray, List.set_cons_zero, List.set_cons_succ]
                refine wpAnyH_take (i := 16) (v := ?_) rfl (by kernel_rfl) (by kernel_rfl) (by kernel_rfl) (fun _ _ _ h => h) (Or.inl ⟨by rfl, ?_⟩) hHeld ?_
                rotate_left
                · (intro wx hSw; have e0 := (hSw.cell (p := ⟨b, off + k * 3, none⟩) hlt).trans c0; have e1 := (hSw.cell (p := ⟨b, off + k * 3 + 1, none⟩) hlt).trans c1; have elt : b < wx.heap.size := Nat.lt_of_lt_of_le hlt hSw.size; first | (go_simp; done) | (go_simp; with_reducible rfl))
                simp only [Act.put, List.getElem_toArray, List.getElem_cons_zero, List.getElem_cons_succ, List.setIfInBounds_toArray, List.set_cons_zero, List.set_cons_succ]
                refine wpAnyH_take (i := 17) (v := ?_) rfl (by kernel_rfl) (by kernel_rfl) (by kernel_rfl) (fun _ _ _ h => h) (Or.inl ⟨by rfl, ?_⟩) hHeld ?_
                rotate_left
                · (intro wx hSw; have e0 := (hSw.cell (p := ⟨b, off + k * 3, none⟩) hlt).trans c0; have e1 := (hSw.cell (p := ⟨b, off + k * 3 + 1, none⟩) hlt).trans c1; have elt : b < wx.heap.size := Nat.lt_of_lt_of_le hlt hSw.size; first | (go_simp; done) | (go_simp; with_reducible rfl))
                simp only [Act.put, List.getElem_toArray, List.getElem_cons_zero, List.getElem_cons_succ, List.setIfInBounds_toArray, List.set_cons_zero, List.set_cons_succ]
                refine wpAnyH_done (by kernel_rfl) ?_ _
                go_wp2_with fail
                go_meet
                exact ⟨rfl, HS5⟩
            · go_simp
              refine (HTK.out _).mono ?_
              rintro e w5 ⟨rfl, hb5⟩
              have b5 := Lib.hid hb5
              have HS5 : Hid (Below wr.heap.size wr w5) := Lib.hid (((Below.refl _ wr).drew).trans (hb5.mono (by simp)))
              clear hb5
              try go_wp2_with fail
              refine hK.out _ _ HS5.out (fun hHeld => ?_)
              clear hK K
              try simp only [Act.put, List.setIfInBounds_toArray, List.set_cons_zero, List.set_cons_succ]
              refine wpAnyH_ready (rs := [7]) (by kernel_rfl) (by simp) ?_
              refine (AllReadyH.cons rfl (fun K hK => ?_) AllReadyH.nil)
              go_simp
              refine hK.out _ _ (HS5.out.alloc HS5.out.size _) (fun hHeld => ?_)
              clear hK K
              try simp only [Act.put, List.setIfInBounds_toArray, List.set_cons_zero, List.set_cons_succ]
              refine wpAnyH_ready (rs := [8]) (by kernel_rfl) (by simp) ?_
              refine (AllReadyH.cons rfl (fun K hK => ?_) AllReadyH.nil)
              have hq := HCV.out (w5.alloc (.cells #[.int .u8 1] 5)) w5.heap.size (by simp) (by have h := heap_alloc_new w5 (.cells #[.int .u8 1] 5); rw [cell_of_row _ _ _ _ _ _ h]; rfl)
              go_simp
              clear hq
              refine hK.out _ _ (HS5.out.alloc HS5.out.size _) (fun hHeld => ?_)
              clear hK K
              try simp only [Act.put, List.setIfInBounds_toArray, List.set_cons_zero, List.set_cons_succ]
              refine wpAnyH_take (i := 9) (v := ?_) rfl (by kernel_rfl) (by kernel_rfl) (by kernel_rfl) (fun _ _ _ h => h) (Or.inl ⟨by rfl, ?_⟩) hHeld ?_
              rotate_left
              · (intro wx hSw; have e0 := (hSw.cell (p := ⟨b, off + k * 3, none⟩) hlt).trans c0; have e1 := (hSw.cell (p := ⟨b, off + k * 3 + 1, none⟩) hlt).trans c1; have elt : b < wx.heap.size := Nat.lt_of_lt_of_le hlt hSw.size; first | (go_simp; done) | (go_simp; with_reducible rfl))
              simp only [Act.put, List.getElem_toArray, List.getElem_cons_zero, List.getElem_cons_succ, List.setIfInBounds_toArray, List.set_cons_zero, List.set_cons_succ]
              refine wpAnyH_take (i := 16) (v := ?_) rfl (by kernel_rfl) (by kernel_rfl) (by kernel_rfl) (fun _ _ _ h => h) (Or.inl ⟨by rfl, ?_⟩) hHeld ?_
              rotate_left
              · (intro wx hSw; have e0 := (hSw.cell (p := ⟨b, off + k * 3, none⟩) hlt).trans c0; have e1 := (hSw.cell (p := ⟨b, off + k * 3 + 1, none⟩) hlt).trans c1; have elt : b < wx.heap.size := Nat.lt_of_lt_of_le hlt hSw.size; first | (go_simp; done) | (go_simp; with_reducible rfl))
              simp only [Act.put, List.getElem_toArray, List.getElem_cons_zero, List.getElem_cons_succ, List.setIfInBounds_toArray, List.set_cons_zero, List.set_cons_succ]
              refine wpAnyH_take (i := 17) (v := ?_) rfl (by kernel_rfl) (by kernel_rfl) (by kernel_rfl) (fun _ _ _ h => h) (Or.inl ⟨by rfl, ?_⟩) hHeld ?_
              rotate_left
              · (intro wx hSw; have e0 := (hSw.cell (p := ⟨b, off + k * 3, none⟩) hlt).trans c0; have e1 := (hSw.cell (p := ⟨b, off + k * 3 + 1, none⟩) hlt).trans c1; have elt : b < wx.heap.size := Nat.lt_of_lt_of_le hlt hSw.size; first | (go_simp; done) | (go_simp; with_reducible rfl))
              simp only [Act.put, List.getElem_toArray, List.getElem_cons_zero, List.getElem_cons_succ, List.setIfInBounds_toArray, List.set_cons_zero, List.set_cons_succ]
              refine wpAnyH_done (by kernel_rfl) ?_ _
              go_wp2_with fail
              go_meet
              exact ⟨rfl, Lib.hid (HS5.out.alloc HS5.out.size _)⟩
          case rest =>
            obtain ⟨rfl, HBc⟩ := hcut
            have d0 := (HBc.out.cell (p := ⟨b, off + k * 3, none⟩) hlt).trans c0
            have d2 := (HBc.out.cell (p := ⟨b, off + k * 3 + 2, none⟩) hlt).trans c2
            have HBk := Lib.hid (HB.out.trans (HBc.out.mono hws))
            clear c0 c1 c2
            have hlt' : b < wc.heap.size := Nat.lt_of_lt_of_le hlt HBc.out.size
            go_wp2_with fail
            refine (HTV.out _).mono ?_
            rintro e W5 ⟨rfl, b5⟩
            have HB5 := Lib.hid (HBk.out.trans (b5.mono HBk.out.size))
            clear b5
            go_wp2_with fail
            go_roundw
            case rel => first | exact ⟨k + 1, _, by go_num, by omega, rfl, HNX, HB5.out⟩ | ((repeat apply Exists.intro); exact ⟨⟨k + 1, _, by go_num, by omega, rfl, HNX, HB5.out⟩, rfl⟩)
            case measure => simp [intOf]; omega
        · have HNX : Hid (S ++ strOf [0] ++ strOf (textL ky) = strOf (fixL s 8 ++ fixL n 4 ++ opsL (l.take (k + 1)))) := Lib.hid (by
            rw [HS.out, HST.out, opL_del, strOf_app2, strOf_app2]
            congr 1
            simp only [List.append_assoc])
          generalize strOf (textL ky) = TK at *
          generalize strOf (textL vl) = TV at *
          have hcv : ∀ wx q, q < wx.heap.size → wx.cell? ⟨q, 0, none⟩ = some (.int .u8 0) → (convert 23 9 (.slice (some ⟨q, 0, none⟩) 1 1)).run Try.prog wx = .ok (.string (strOf [0])) wx := fun wx q h1 h2 => conv_one2 wx q 0 1 (by omega) h1 h2
          have HCV := Lib.hid hcv
          have hXs : (strOf [0]).size ≤ 1 := Nat.le_refl _
          generalize strOf [0] = X1 at *
          have hw1 : IntKind.u8.wrap 0 = 0 := rfl
          have k1 : ¬ 9223372036854775807 < S.size + X1.size := by omega
          have k2 : ¬ 9223372036854775807 < S.size + X1.size + TK.size := by omega
          have k2' : ¬ 9223372036854775807 < (S ++ X1).size + TK.size := by rw [ByteArray.size_append]; omega
          have k3 : ¬ 9223372036854775807 < S.size + X1.size + TK.size + TV.size := by omega
          have k3' : ¬ 9223372036854775807 < (S ++ X1 ++ TK).size + TV.size := by rw [ByteArray.size_append, ByteArray.size_append]; omega
          clear HST HS hcv
          go_upto_region 10 with (fail)
          go_cut [11] (fun x wx => x = .string (S ++ X1 ++ TK) ∧ Hid (Below wr.heap.size wr wx))
          case first =>
            refine wp_region_held_drew (S := fun w' => Below wr.heap.size wr w') (by kernel_rfl) (below_drewN _ _ 1) (fun hHeld => ?_)
            refine wpAnyH_take (i := 0) (v := ?_) rfl (by kernel_rfl) (by kernel_rfl) (by kernel_rfl) (fun _ _ _ h => h) (Or.inl ⟨by rfl, ?_⟩) hHeld ?_
            rotate_left
            · (intro wx hSw; have e0 := (hSw.cell (p := ⟨b, off + k * 3, none⟩) hlt).trans c0; have e1 := (hSw.cell (p := ⟨b, off + k * 3 + 1, none⟩) hlt).trans c1; have elt : b < wx.heap.size := Nat.lt_of_lt_of_le hlt hSw.size; first | (go_simp; done) | (go_simp; with_reducible rfl))
            simp only [Act.put, List.getElem_toArray, List.getElem_cons_zero, List.setIfInBounds_toArray, List.set_cons_zero, List.set_cons_succ]
            refine wpAnyH_take (i := 1) (v := ?_) rfl (by kernel_rfl) (by kernel_rfl) (by kernel_rfl) (fun _ _ _ h => h) (Or.inl ⟨by rfl, ?_⟩) hHeld ?_
            rotate_left
            · (intro wx hSw; have e0 := (hSw.cell (p := ⟨b, off + k * 3, none⟩) hlt).trans c0; have e1 := (hSw.cell (p := ⟨b, off + k * 3 + 1, none⟩) hlt).trans c1; have elt : b < wx.heap.size := Nat.lt_of_lt_of_le hlt hSw.size; first | (go_simp; done) | (go_simp; with_reducible rfl))
            simp only [Act.put, List.getElem_toArray, List.getElem_cons_zero, List.getElem_cons_succ, List.setIfInBounds_toArray, List.set_cons_zero, List.set_cons_succ]
            refine wpAnyH_take (i := 2) (v := ?_) rfl (by kernel_rfl) (by kernel_rfl) (by kernel_rfl) (fun _ _ _ h => h) (Or.inl ⟨by rfl, ?_⟩) hHeld ?_
            rotate_left
            · (intro wx hSw; have e0 := (hSw.cell (p := ⟨b, off + k * 3, none⟩) hlt).trans c0; have e1 := (hSw.cell (p := ⟨b, off + k * 3 + 1, none⟩) hlt).trans c1; have elt : b < wx.heap.size := Nat.lt_of_lt_of_le hlt hSw.size; first | (go_simp; done) | (go_simp; with_reducible rfl))
            simp only [Act.put, List.getElem_toArray, List.getElem_cons_zero, List.getElem_cons_succ, List.setIfInBounds_toArray, List.set_cons_zero, List.set_cons_succ]
            refine wpAnyH_take (i := 3) (v := ?_) rfl (by kernel_rfl) (by kernel_rfl) (by kernel_rfl) (fun _ _ _ h => h) (Or.inl ⟨by rfl, ?_⟩) hHeld ?_
            rotate_left
            · (intro wx hSw; have e0 := (hSw.cell (p := ⟨b, off + k * 3, none⟩) hlt).trans c0; have e1 := (hSw.cell (p := ⟨b, off + k * 3 + 1, none⟩) hlt).trans c1; have elt : b < wx.heap.size := Nat.lt_of_lt_of_le hlt hSw.size; first | (go_simp; done) | (go_simp; with_reducible rfl))
            simp only [Act.put, List.getElem_toArray, List.getElem_cons_zero, List.getElem_cons_succ, List.setIfInBounds_toArray, List.set_cons_zero, List.set_cons_succ]
            refine wpAnyH_take (i := 4) (v := ?_) rfl (by kernel_rfl) (by kernel_rfl) (by kernel_rfl) (fun _ _ _ h => h) (Or.inl ⟨by rfl, ?_⟩) hHeld ?_
            rotate_left
            · (intro wx hSw; have e0 := (hSw.cell (p := ⟨b, off + k * 3, none⟩) hlt).trans c0; have e1 := (hSw.cell (p := ⟨b, off + k * 3 + 1, none⟩) hlt).trans c1; have elt : b < wx.heap.size := Nat.lt_of_lt_of_le hlt hSw.size; first | (go_simp; done) | (go_simp; with_reducible rfl))
            simp only [Act.put, List.getElem_toArray, List.getElem_cons_zero, List.getElem_cons_succ, List.setIfInBounds_toArray, List.set_cons_zero, List.set_cons_succ]
            refine wpAnyH_take (i := 5) (v := ?_) rfl (by kernel_rfl) (by kernel_rfl) (by kernel_rfl) (fun _ _ _ h => h) (Or.inl ⟨by rfl, ?_⟩) hHeld ?_
            rotate_left
            · (intro wx hSw; have e0 := (hSw.cell (p := ⟨b, off + k * 3, none⟩) hlt).trans c0; have e1 := (hSw.cell (p := ⟨b, off + k * 3 + 1, none⟩) hlt).trans c1; have elt : b < wx.heap.size := Nat.lt_of_lt_of_le hlt hSw.size; first | (go_simp; done) | (go_simp; with_reducible rfl))
            simp only [Act.put, List.getElem_toArray, List.getElem_cons_zero, List.getElem_cons_succ, List.setIfInBounds_toArray, List.set_cons_zero, List.set_cons_succ]
            refine wpAnyH_take (i := 6) (v := ?_) rfl (by kernel_rfl) (by kernel_rfl) (by kernel_rfl) (fun _ _ _ h => h) (Or.inl ⟨by rfl, ?_⟩) hHeld ?_
            rotate_left
            · (intro wx hSw; have e0 := (hSw.cell (p := ⟨b, off + k * 3, none⟩) hlt).trans c0; have e1 := (hSw.cell (p := ⟨b, off + k * 3 + 1, none⟩) hlt).trans c1; have elt : b < wx.heap.size := Nat.lt_of_lt_of_le hlt hSw.size; first | (go_simp; done) | (go_simp; with_reducible rfl))
            simp only [Act.put, List.getElem_toArray, List.getElem_cons_zero, List.getElem_cons_succ, List.setIfInBounds_toArray, List.set_cons_zero, List.set_cons_succ]
            refine wpAnyH_take (i := 10) (v := ?_) rfl (by kernel_rfl) (by kernel_rfl) (by kernel_rfl) (fun _ _ _ h => h) (Or.inl ⟨by rfl, ?_⟩) hHeld ?_
            rotate_left
            · (intro wx hSw; have e0 := (hSw.cell (p := ⟨b, off + k * 3, none⟩) hlt).trans c0; have e1 := (hSw.cell (p := ⟨b, off + k * 3 + 1, none⟩) hlt).trans c1; have elt : b < wx.heap.size := Nat.lt_of_lt_of_le hlt hSw.size; first | (go_simp; done) | (go_simp; with_reducible rfl))
            simp only [Act.put, List.getElem_toArray, List.getElem_cons_zero, List.getElem_cons_succ, List.setIfInBounds_toArray, List.set_cons_zero, List.set_cons_succ]
            refine wpAnyH_take (i := 11) (v := ?_) rfl (by kernel_rfl) (by kernel_rfl) (by kernel_rfl) (fun _ _ _ h => h) (Or.inl ⟨by rfl, ?_⟩) hHeld ?_
            rotate_left
            · (intro wx hSw; have e0 := (hSw.cell (p := ⟨b, off + k * 3, none⟩) hlt).trans c0; have e1 := (hSw.cell (p := ⟨b, off + k * 3 + 1, none⟩) hlt).trans c1; have elt : b < wx.heap.size := Nat.lt_of_lt_of_le hlt hSw.size; first | (go_simp; done) | (go_simp; with_reducible rfl))
            simp only [Act.put, List.getElem_toArray, List.getElem_cons_zero, List.getElem_cons_succ, List.setIfInBounds_toArray, List.set_cons_zero, List.set_cons_succ]
            refine wpAnyH_take (i := 12) (v := ?_) rfl (by kernel_rfl) (by kernel_rfl) (by kernel_rfl) (fun _ _ _ h => h) (Or.inl ⟨by rfl, ?_⟩) hHeld ?_
            rotate_left
            · (intro wx hSw; have e0 := (hSw.cell (p := ⟨b, off + k * 3, none⟩) hlt).trans c0; have e1 := (hSw.cell (p := ⟨b, off + k * 3 + 1, none⟩) hlt).trans c1; have elt : b < wx.heap.size := Nat.lt_of_lt_of_le hlt hSw.size; first | (go_simp; done) | (go_simp; with_reducible rfl))
            simp only [Act.put, List.getElem_toArray, List.getElem_cons_zero, List.getElem_cons_succ, List.setIfInBounds_toArray, List.set_cons_zero, List.set_cons_succ]
            refine wpAnyH_take (i := 13) (v := ?_) rfl (by kernel_rfl) (by kernel_rfl) (by kernel_rfl) (fun _ _ _ h => h) (Or.inl ⟨by rfl, ?_⟩) hHeld ?_
            rotate_left
            · (intro wx hSw; have e0 := (hSw.cell (p := ⟨b, off + k * 3, none⟩) hlt).trans c0; have e1 := (hSw.cell (p := ⟨b, off + k * 3 + 1, none⟩) hlt).trans c1; have elt : b < wx.heap.size := Nat.lt_of_lt_of_le hlt hSw.size; first | (go_simp; done) | (go_simp; with_reducible rfl))
            simp only [Act.put, List.getElem_toArray, List.getElem_cons_zero, List.getElem_cons_succ, List.setIfInBounds_toArray, List.set_cons_zero, List.set_cons_succ]
            refine wpAnyH_take (i := 14) (v := ?_) rfl (by kernel_rfl) (by kernel_rfl) (by kernel_rfl) (fun _ _ _ h => h) (Or.inl ⟨by rfl, ?_⟩) hHeld ?_
            rotate_left
            · (intro wx hSw; have e0 := (hSw.cell (p := ⟨b, off + k * 3, none⟩) hlt).trans c0; have e1 := (hSw.cell (p := ⟨b, off + k * 3 + 1, none⟩) hlt).trans c1; have elt : b < wx.heap.size := Nat.lt_of_lt_of_le hlt hSw.size; first | (go_simp; done) | (go_simp; with_reducible rfl))
            simp only [Act.put, List.getElem_toArray, List.getElem_cons_zero, List.getElem_cons_succ, List.setIfInBounds_toArray, List.set_cons_zero, List.set_cons_succ]
            refine wpAnyH_ready (rs := [7, 15]) (by kernel_rfl) (by simp) ?_
            refine (AllReadyH.cons rfl (fun K hK => ?_) (AllReadyH.cons rfl (fun K hK => ?_) AllReadyH.nil))
            · go_simp
              refine hK.out _ _ ((Below.refl _ wr).drew.alloc (by simp) _) (fun hHeld => ?_)
              clear hK K
              try simp only [Act.put, List.setIfInBounds_toArray, List.set_cons_zero, List.set_cons_succ]
              refine wpAnyH_ready (rs := [8, 15]) (by kernel_rfl) (by simp) ?_
              refine (AllReadyH.cons rfl (fun K hK => ?_) (AllReadyH.cons rfl (fun K hK => ?_) AllReadyH.nil))
              · have hq := HCV.out (wr.alloc (.cells #[.int .u8 0] 5)).drew wr.heap.size (by simp) (by have h := heap_alloc_new wr (.cells #[.int .u8 0] 5); show (wr.alloc (.cells #[.int .u8 0] 5)).cell? _ = _; rw [cell_of_row _ _ _ _ _ _ h]; rfl)
                go_simp
                clear hq
                refine hK.out _ _ ((Below.refl _ wr).drew.alloc (by simp) _) (fun hHeld => ?_)
                clear hK K
                try simp only [Act.put, List.setIfInBounds_toArray, List.set_cons_zero, List.set_cons_succ]
                refine wpAnyH_take (i := 9) (v := ?_) rfl (by kernel_rfl) (by kernel_rfl) (by kernel_rfl) (fun _ _ _ h => h) (Or.inl ⟨by rfl, ?_⟩) hHeld ?_
                rotate_left
                · (intro wx hSw; have e0 := (hSw.cell (p := ⟨b, off + k * 3, none⟩) hlt).trans c0; have e1 := (hSw.cell (p := ⟨b, off + k * 3 + 1, none⟩) hlt).trans c1; have elt : b < wx.heap.size := Nat.lt_of_lt_of_le hlt hSw.size; first | (go_simp; done) | (go_simp; with_reducible rfl))
                simp only [Act.put, List.getElem_toArray, List.getElem_cons_zero, List.getElem_cons_succ, List.setIfInBounds_toArray, List.set_cons_zero, List.set_cons_succ]
                refine wpAnyH_ready (rs := [15]) (by kernel_rfl) (by simp) ?_
                refine (AllReadyH.cons rfl (fun K hK => ?_) AllReadyH.nil)
                go_simp
                refine (HTK.out _).mono ?_
                rintro e w5 ⟨rfl, hb5⟩
                have b5 := Lib.hid hb5
                have HS5 : Hid (Below wr.heap.size wr w5) := Lib.hid (((Below.refl _ wr).drew.alloc (by simp) _).trans (hb5.mono (by simp)))
                clear hb5
                try go_wp2_with fail
                refine hK.out _ _ HS5.out (fun hHeld => ?_)
                clear hK K
                try simp only [Act.put, List.setIfInBounds_toArray, List.set_cons_zero, List.set_cons_succ]
                refine wpAnyH_take (i := 16) (v := ?_) rfl (by kernel_rfl) (by kernel_rfl) (by kernel_rfl) (fun _ _ _ h => h) (Or.inl ⟨by rfl, ?_⟩) hHeld ?_
                rotate_left
                · (intro wx hSw; have e0 := (hSw.cell (p := ⟨b, off + k * 3, none⟩) hlt).trans c0; have e1 := (hSw.cell (p := ⟨b, off + k * 3 + 1, none⟩) hlt).trans c1; have elt : b < wx.heap.size := Nat.lt_of_lt_of_le hlt hSw.size; first | (go_simp; done) | (go_simp; with_reducible rfl))
                simp only [Act.put, List.getElem_toArray, List.getElem_cons_zero, List.getElem_cons_succ, List.setIfInBounds_toArray, List.set_cons_zero, List.set_cons_succ]
                refine wpAnyH_take (i := 17) (v := ?_) rfl (by kernel_rfl) (by kernel_rfl) (by kernel_rfl) (fun _ _ _ h => h) (Or.inl ⟨by rfl, ?_⟩) hHeld ?_
                rotate_left
                · (intro wx hSw; have e0 := (hSw.cell (p := ⟨b, off + k * 3, none⟩) hlt).trans c0; have e1 := (hSw.cell (p := ⟨b, off + k * 3 + 1, none⟩) hlt).trans c1; have elt : b < wx.heap.size := Nat.lt_of_lt_of_le hlt hSw.size; first | (go_simp; done) | (go_simp; with_reducible rfl))
                simp only [Act.put, List.getElem_toArray, List.getElem_cons_zero, List.getElem_cons_succ, List.setIfInBounds_toArray, List.set_cons_zero, List.set_cons_succ]
                refine wpAnyH_done (by kernel_rfl) ?_ _
                go_wp2_with fail
                go_meet
                exact ⟨rfl, HS5⟩
              · go_simp
                refine (HTK.out _).mono ?_
                rintro e w5 ⟨rfl, hb5⟩
                have b5 := Lib.hid hb5
                have HS5 : Hid (Below wr.heap.size wr w5) := Lib.hid (((Below.refl _ wr).drew.alloc (by simp) _).trans (hb5.mono (by simp)))
                clear hb5
                try go_wp2_with fail
                refine hK.out _ _ HS5.out (fun hHeld => ?_)
                clear hK K
                try simp only [Act.put, List.setIfInBounds_toArray, List.set_cons_zero, List.set_cons_succ]
                refine wpAnyH_ready (rs := [8]) (by kernel_rfl) (by simp) ?_
                refine (AllReadyH.cons rfl (fun K hK => ?_) AllReadyH.nil)
                have hq := HCV.out w5 wr.heap.size (by have := b5.out.size; simp at this; omega) (by have h := heap_alloc_new wr.drew (.cells #[.int .u8 0] 5); rw [show wr.drew.heap.size = wr.heap.size from rfl] at h; have h2 := (b5.out.block wr.heap.size (by simp)).trans h; rw [cell_of_row _ _ _ _ _ _ h2]; rfl)
                go_simp
                clear hq
                refine hK.out _ _ HS5.out (fun hHeld => ?_)
                clear hK K
                try simp only [Act.put, List.setIfInBounds_toArray, List.set_cons_zero, List.set_cons_succ]
                refine wpAnyH_take (i := 9) (v := ?_) rfl (by kernel_rfl) (by kernel_rfl) (by kernel_rfl) (fun _ _ _ h => h) (Or.inl ⟨by rfl, ?_⟩) hHeld ?_
                rotate_left
                · (intro wx hSw; have e0 := (hSw.cell (p := ⟨b, off + k * 3, none⟩) hlt).trans c0; have e1 := (hSw.cell (p := ⟨b, off + k * 3 + 1, none⟩) hlt).trans c1; have elt : b < wx.heap.size := Nat.lt_of_lt_of_le hlt hSw.size; first | (go_simp; done) | (go_simp; with_reducible rfl))
                simp only [Act.put, List.getElem_toArray, List.getElem_cons_zero, List.getElem_cons_succ, List.setIfInBounds_toArray, List.set_cons_zero, List.set_cons_succ]
                refine wpAnyH_take (i := 16) (v := ?_) rfl (by kernel_rfl) (by kernel_rfl) (by kernel_rfl) (fun _ _ _ h => h) (Or.inl ⟨by rfl, ?_⟩) hHeld ?_
                rotate_left
                · (intro wx hSw; have e0 := (hSw.cell (p := ⟨b, off + k * 3, none⟩) hlt).trans c0; have e1 := (hSw.cell (p := ⟨b, off + k * 3 + 1, none⟩) hlt).trans c1; have elt : b < wx.heap.size := Nat.lt_of_lt_of_le hlt hSw.size; first | (go_simp; done) | (go_simp; with_reducible rfl))
                simp only [Act.put, List.getElem_toArray, List.getElem_cons_zero, List.getElem_cons_succ, List.setIfInBounds_toArray, List.set_cons_zero, List.set_cons_succ]
                refine wpAnyH_take (i := 17) (v := ?_) rfl (by kernel_rfl) (by kernel_rfl) (by kernel_rfl) (fun _ _ _ h => h) (Or.inl ⟨by rfl, ?_⟩) hHeld ?_
                rotate_left
                · (intro wx hSw; have e0 := (hSw.cell (p := ⟨b, off + k * 3, none⟩) hlt).trans c0; have e1 := (hSw.cell (p := ⟨b, off + k * 3 + 1, none⟩) hlt).trans c1; have elt : b < wx.heap.size := Nat.lt_of_lt_of_le hlt hSw.size; first | (go_simp; done) | (go_simp; with_reducible rfl))
                simp only [Act.put, List.getElem_toArray, List.getElem_cons_zero, List.getElem_cons_succ, List.setIfInBounds_toArray, List.set_cons_zero, List.set_cons_succ]
                refine wpAnyH_done (by kernel_rfl) ?_ _
                go_wp2_with fail
                go_meet
                exact ⟨rfl, HS5⟩
            · go_simp
              refine (HTK.out _).mono ?_
              rintro e w5 ⟨rfl, hb5⟩
              have b5 := Lib.hid hb5
              have HS5 : Hid (Below wr.heap.size wr w5) := Lib.hid (((Below.refl _ wr).drew).trans (hb5.mono (by simp)))
              clear hb5
              try go_wp2_with fail
              refine hK.out _ _ HS5.out (fun hHeld => ?_)
              clear hK K
              try simp only [Act.put, List.setIfInBounds_toArray, List.set_cons_zero, List.set_cons_succ]
              refine wpAnyH_ready (rs := [7]) (by kernel_rfl) (by simp) ?_
              refine (AllReadyH.cons rfl (fun K hK => ?_) AllReadyH.nil)
              go_simp
              refine hK.out _ _ (HS5.out.alloc HS5.out.size _) (fun hHeld => ?_)
              clear hK K
              try simp only [Act.put, List.setIfInBounds_toArray, List.set_cons_zero, List.set_cons_succ]
              refine wpAnyH_ready (rs := [8]) (by kernel_rfl) (by simp) ?_
              refine (AllReadyH.cons rfl (fun K hK => ?_) AllReadyH.nil)
              have hq := HCV.out (w5.alloc (.cells #[.int .u8 0] 5)) w5.heap.size (by simp) (by have h := heap_alloc_new w5 (.cells #[.int .u8 0] 5); rw [cell_of_row _ _ _ _ _ _ h]; rfl)
              go_simp
              clear hq
              refine hK.out _ _ (HS5.out.alloc HS5.out.size _) (fun hHeld => ?_)
              clear hK K
              try simp only [Act.put, List.setIfInBounds_toArray, List.set_cons_zero, List.set_cons_succ]
              refine wpAnyH_take (i := 9) (v := ?_) rfl (by kernel_rfl) (by kernel_rfl) (by kernel_rfl) (fun _ _ _ h => h) (Or.inl ⟨by rfl, ?_⟩) hHeld ?_
              rotate_left
              · (intro wx hSw; have e0 := (hSw.cell (p := ⟨b, off + k * 3, none⟩) hlt).trans c0; have e1 := (hSw.cell (p := ⟨b, off + k * 3 + 1, none⟩) hlt).trans c1; have elt : b < wx.heap.size := Nat.lt_of_lt_of_le hlt hSw.size; first | (go_simp; done) | (go_simp; with_reducible rfl))
              simp only [Act.put, List.getElem_toArray, List.getElem_cons_zero, List.getElem_cons_succ, List.setIfInBounds_toArray, List.set_cons_zero, List.set_cons_succ]
              refine wpAnyH_take (i := 16) (v := ?_) rfl (by kernel_rfl) (by kernel_rfl) (by kernel_rfl) (fun _ _ _ h => h) (Or.inl ⟨by rfl, ?_⟩) hHeld ?_
              rotate_left
              · (intro wx hSw; have e0 := (hSw.cell (p := ⟨b, off + k * 3, none⟩) hlt).trans c0; have e1 := (hSw.cell (p := ⟨b, off + k * 3 + 1, none⟩) hlt).trans c1; have elt : b < wx.heap.size := Nat.lt_of_lt_of_le hlt hSw.size; first | (go_simp; done) | (go_simp; with_reducible rfl))
              simp only [Act.put, List.getElem_toArray, List.getElem_cons_zero, List.getElem_cons_succ, List.setIfInBounds_toArray, List.set_cons_zero, List.set_cons_succ]
              refine wpAnyH_take (i := 17) (v := ?_) rfl (by kernel_rfl) (by kernel_rfl) (by kernel_rfl) (fun _ _ _ h => h) (Or.inl ⟨by rfl, ?_⟩) hHeld ?_
              rotate_left
              · (intro wx hSw; have e0 := (hSw.cell (p := ⟨b, off + k * 3, none⟩) hlt).trans c0; have e1 := (hSw.cell (p := ⟨b, off + k * 3 + 1, none⟩) hlt).trans c1; have elt : b < wx.heap.size := Nat.lt_of_lt_of_le hlt hSw.size; first | (go_simp; done) | (go_simp; with_reducible rfl))
              simp only [Act.put, List.getElem_toArray, List.getElem_cons_zero, List.getElem_cons_succ, List.setIfInBounds_toArray, List.set_cons_zero, List.set_cons_succ]
              refine wpAnyH_done (by kernel_rfl) ?_ _
              go_wp2_with fail
              go_meet
              exact ⟨rfl, Lib.hid (HS5.out.alloc HS5.out.size _)⟩
          case rest =>
            obtain ⟨rfl, HBc⟩ := hcut
            have d0 := (HBc.out.cell (p := ⟨b, off + k * 3, none⟩) hlt).trans c0
            have HBk := Lib.hid (HB.out.trans (HBc.out.mono hws))
            clear c0 c1 c2
            have hlt' : b < wc.heap.size := Nat.lt_of_lt_of_le hlt HBc.out.size
            go_wp2_with fail
            go_roundw
            case rel => first | exact ⟨k + 1, _, by go_num, by omega, rfl, HNX, HBk.out⟩ | ((repeat apply Exists.intro); exact ⟨⟨k + 1, _, by go_num, by omega, rfl, HNX, HBk.out⟩, rfl⟩)
            case measure => simp [intOf]; omega
      · obtain rfl : k = n := by omega
        have HE : Hid (S = strOf (encR (s : Int) l)) := Lib.hid (by
          rw [HS.out, HR.out, List.take_of_length_le (by rw [HN.out]; exact Nat.le_refl _)])
        clear HS HR
        go_wp2
        go_ret2
        exact ⟨by rw [← HE.out]; rfl, HB.out⟩
  · have HR : Hid (strOf (encR seq l) = ⟨#[]⟩) := Lib.hid (by unfold encR; rw [if_neg hz]; rfl)
    obtain ⟨c, hc⟩ : ∃ c, chkI seq l = c := ⟨_, rfl⟩
    rw [hc] at HC hz
    have q0 : (c != 0) = true := by simpa using hz
    have HCC := Lib.hid hc
    clear hl hn hz hc
    go_enter Try.func11, Try.ntmps11
    go_wp2_with fail
    refine HC.out.mono ?_
    rintro e W1 ⟨rfl, b1⟩
    have HB1 := Lib.hid b1
    clear b1
    go_wp2
    go_ret2
    exact ⟨by rw [HR.out, HCC.out]; rfl, HB1.out⟩
end Go.Proofs.Ythpcgdgahlcblaa
