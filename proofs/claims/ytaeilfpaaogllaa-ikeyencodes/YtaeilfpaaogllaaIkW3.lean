/-
  What Sortable answers.
-/
import Derived.Test.YtaeilfpaaogllaaIkW2
namespace Go.Proofs.Ytaeilfpaaogllaa
open Go.RowKit

theorem esc_take (l : List Nat) (j : Nat) (h : j < l.length) : esc (l.take (j + 1)) = esc (l.take j) ++ (if l[j] = 0 then [0, 255] else [l[j]]) := by
  rw [List.take_succ_eq_append_getElem h, esc_app]
  congr 1
theorem xor_max (m : Nat) (h : m < 18446744073709551616) : bits .xor .u64 IntKind.u64.max (m : Int) = ((18446744073709551615 - m : Nat) : Int) := by
  show IntKind.u64.wrap ((BitVec.ofInt 64 18446744073709551615 ^^^ BitVec.ofInt 64 (m : Int)).toNat : Int) = _
  rw [show BitVec.ofInt 64 18446744073709551615 = BitVec.allOnes 64 from by decide, BitVec.xor_comm, BitVec.xor_allOnes, BitVec.toNat_not, BitVec.toNat_ofInt, u64_val]; omega
theorem run_shr64 (M t : Nat) (z : Int) (hz : z = 8 * (t : Int)) (ht : t ≤ 7) (_hM : M < 18446744073709551616) (w : World) :
    (binOp .shr 43 (.int .u64 (M : Int)) (.int .i64 z)).run Try.prog w = .ok (.int .u64 ((M : Int) / 2 ^ (8 * t))) w := by
  subst hz
  go_simp
  rw [show (8 * (t : Int)).toNat = 8 * t by omega]
theorem own_len {w : World} {B n : Nat} {v : Value} {l : List Nat} (h : w.ownsRow B 5 1 v n (u8s l)) : n = l.length := by
  have := h.1; rw [u8s_length] at this; omega
theorem big_snoc (n j : Nat) (h : j < 8) : (bigL n 8).take (j + 1) = (bigL n 8).take j ++ [n / 2 ^ (8 * (7 - j)) % 256] := by
  have key : ∀ k i, i < k → (bigL n k)[i]? = some (n / 2 ^ (8 * (k - 1 - i)) % 256) := by
    intro k
    induction k with
    | zero => intro i hi; omega
    | succ k ih =>
      intro i hi
      cases i with
      | zero => simp [bigL]
      | succ i =>
        simp only [bigL, List.getElem?_cons_succ]
        rw [ih i (by omega)]
        congr 4; omega
  have hk := key 8 j h
  rw [List.take_add_one, hk]; rfl
set_option maxRecDepth 100000 in
set_option maxHeartbeats 800000 in
theorem sortable_any (k : ByteArray) (s d : Int) (w : World) :
    Calls Try.prog 18 #[verV k s d] w (FreshE w (sortR k s d) (chkI k s d)) := by
  have HC : Hid (∀ wx, Calls Try.prog 15 #[verV k s d] wx fun e w' => e = .returned (.int .i64 (chkI k s d)) ∧ Below wx.heap.size wx w') := Lib.hid (check_any k s d)
  by_cases hok : okV k s d
  · have HK : Hid (∀ wx, Calls Try.prog 25 #[verV k s d] wx fun e w' => e = .returned (.int .u64 (markN s d : Int)) ∧ Below wx.heap.size wx w') := Lib.hid (mark_any k s d hok)
    have hml := markN_lt hok
    have HR : Hid (sortR k s d = esc (natsOf k) ++ 0 :: 0 :: bigL (18446744073709551615 - markN s d) 8) := Lib.hid (if_pos hok)
    have hsz : k.size ≤ 64 := hok.2.1
    have hk0 : ¬ k.size = 0 := by have := hok.1; omega
    have hE := chk_yes hok
    have HNL := Lib.hid (natsOf_length k)
    rw [hE] at HC ⊢
    clear hE hok
    generalize markN s d = m at *
    unfold verV at *
    go_enter Try.func18, Try.ntmps18
    go_wp2_with fail
    refine (HC.out _).mono ?_
    rintro e w1 ⟨rfl, hb1⟩
    have HB1 : Hid (Below w.heap.size w w1) := Lib.hid ((bel1 _ _).trans (hb1.mono (by simp)))
    have hs1 : w.heap.size + 1 ≤ w1.heap.size := by have := hb1.size; simpa using this
    have c0 := hb1.cell (p := ⟨w.heap.size, 0, none⟩) (by simp)
    have c1 := hb1.cell (p := ⟨w.heap.size, 1, none⟩) (by simp)
    have c2 := hb1.cell (p := ⟨w.heap.size, 2, none⟩) (by simp)
    rw [World.cell?_alloc_mark] at c0 c1 c2
    replace c0 : w1.cell? ⟨w.heap.size, 0, none⟩ = some (.string k) := c0
    replace c1 : w1.cell? ⟨w.heap.size, 1, none⟩ = some (.int .i64 s) := c1
    replace c2 : w1.cell? ⟨w.heap.size, 2, none⟩ = some (.int .i64 d) := c2
    clear hb1 HC
    obtain ⟨w2, r2, o2, b2⟩ := mk0 (w.heap.size + 1) w1 w1 (2 * k.size + 10) (Below.refl _ _) hs1 w1.heap.size rfl (by omega)
    have d0 := (b2.cell (p := ⟨w.heap.size, 0, none⟩) (by simp)).trans c0
    have d1 := (b2.cell (p := ⟨w.heap.size, 1, none⟩) (by simp)).trans c1
    have d2 := (b2.cell (p := ⟨w.heap.size, 2, none⟩) (by simp)).trans c2
    rw [show ((2 * k.size + 10 : Nat) : Int) = 2 * (k.size : Int) + 2 + 8 by omega] at r2
    obtain ⟨cap3, w3, r3, hcap, y3, b3⟩ := conv_new w2 k w2.heap.size rfl
    have s2 := b2.size
    have HQ1 : Hid (w1.heap.size < w2.heap.size) := Lib.hid ((o2.lt w1.heap.size rfl).2)
    have HQ3 : Hid (w2.heap.size < w3.heap.size) := Lib.hid (by rcases y3 with h | ⟨b, off, e, h, _⟩; · exact absurd (by rw [← HNL.out, h]; rfl) hk0
                                                                · cases e; exact h)
    have C0 := Lib.hid c0
    have C1 := Lib.hid c1
    have C2 := Lib.hid c2
    have O3 := Lib.hid (own_keep o2 b3)
    have B3 := Lib.hid (b2.trans (b3.mono (by omega)))
    have Y3 := Lib.hid y3
    clear o2 b2 b3 y3
    go_wp2_with fail
    clear r2 r3 c0 c1 c2
    have hq1 : w1.heap.size < w2.heap.size := HQ1.out
    have hbel := B3.out.size
    have e0 := (B3.out.cell (p := ⟨w.heap.size, 0, none⟩) (by simp)).trans C0.out
    have e1 := (B3.out.cell (p := ⟨w.heap.size, 1, none⟩) (by simp)).trans C1.out
    have e2 := (B3.out.cell (p := ⟨w.heap.size, 2, none⟩) (by simp)).trans C2.out
    go_loopw [5, 7, 26] (fun v _ i wr => ∃ j : Nat, j ≤ k.size ∧ i = .int .i64 (j : Int) ∧ Hid (wr.ownsRow (w.heap.size + 1) 5 1 v (esc ((natsOf k).take j)).length (u8s (esc ((natsOf k).take j))) ∧ Below (w.heap.size + 1) w1 wr ∧ Byt wr (some ⟨w2.heap.size, 0, none⟩) (natsOf k) ∧ v.ownBlock ≠ some w2.heap.size ∧ w2.heap.size < wr.heap.size)) (fun _ _ i _ => k.size - (intOf i).toNat)
    case atStart => exact ⟨0, by omega, rfl, by simpa [esc] using O3.out, B3.out, Y3.out, by simp [Value.ownBlock]; omega, HQ3.out⟩
    case round =>
      obtain ⟨j, hj, rfl, hI⟩ := hrel
      by_cases hlt : j < k.size
      · obtain ⟨ho, hB, hY, hv, hq⟩ := hI.out
        have hjl : j < (natsOf k).length := by rw [HNL.out]; exact hlt
        have hET := esc_take (natsOf k) j hjl
        have hEL := esc_length ((natsOf k).take j)
        rw [List.length_take] at hEL
        have hcell : wr.cell? ⟨w2.heap.size, j, none⟩ = some (.int .u8 ((natsOf k)[j] : Int)) := by
          obtain ⟨b, off, e, h⟩ := hY.at hjl
          cases e; simpa using h
        have hc256 := natsOf_byte k _ (List.getElem_mem hjl)
        generalize (natsOf k)[j] = c at *
        obtain ⟨v5, w5, r5, o5, b5, h5, hv5, hq5⟩ := app1k (w.heap.size + 1) w1 wr _ _ _ (c : Int) c rfl ho hB hs1 wr.heap.size rfl (by omega) w2.heap.size hq hv
        have y5 := hY.same h5 hq5
        by_cases h0 : c = 0
        · subst h0
          rw [if_pos rfl] at hET
          obtain ⟨v6, w6, r6, o6, b6, h6, hv6, hq6⟩ := app1k (w.heap.size + 1) w1 w5 _ _ _ (255 : Int) 255 rfl o5 b5 hs1 w5.heap.size rfl (by omega) w2.heap.size hq5 hv5
          have y6 := y5.same h6 hq6
          have HF : Hid (w6.ownsRow (w.heap.size + 1) 5 1 v6 (esc ((natsOf k).take (j + 1))).length (u8s (esc ((natsOf k).take (j + 1)))) ∧ Below (w.heap.size + 1) w1 w6 ∧ Byt w6 (some ⟨w2.heap.size, 0, none⟩) (natsOf k) ∧ v6.ownBlock ≠ some w2.heap.size ∧ w2.heap.size < w6.heap.size) := Lib.hid (by
            have e : esc ((natsOf k).take (j + 1)) = esc ((natsOf k).take j) ++ [0] ++ [255] := by rw [hET]; simp
            refine ⟨?_, b6, y6, hv6, hq6⟩
            rw [e, ← own_len o6]; exact o6)
          clear ho hB hY hv hq hET hEL y5 y6 o5 b5 h5 hv5 hq5 o6 b6 h6 hv6 hq6 hI
          go_wp2_with (at_builtin; first | refine wpList_app_run rfl rfl r5 rfl rfl ?_ | refine wpList_app_run rfl rfl r6 rfl rfl ?_)
          go_roundw
          case rel => exact ⟨j + 1, by omega, by go_num, HF.out⟩
          case measure => simp [intOf]; omega
        · rw [if_neg h0] at hET
          have hb0 : ((c : Int) == 0) = false := by simpa using h0
          have HF : Hid (w5.ownsRow (w.heap.size + 1) 5 1 v5 (esc ((natsOf k).take (j + 1))).length (u8s (esc ((natsOf k).take (j + 1)))) ∧ Below (w.heap.size + 1) w1 w5 ∧ Byt w5 (some ⟨w2.heap.size, 0, none⟩) (natsOf k) ∧ v5.ownBlock ≠ some w2.heap.size ∧ w2.heap.size < w5.heap.size) := Lib.hid (by
            refine ⟨?_, b5, y5, hv5, hq5⟩
            rw [hET, ← own_len o5]; exact o5)
          clear ho hB hY hv hq hET hEL y5 o5 b5 h5 hv5 hq5 hI
          go_wp2_with (at_builtin; refine wpList_app_run rfl rfl r5 rfl rfl ?_)
          go_roundw
          case rel => exact ⟨j + 1, by omega, by go_num, HF.out⟩
          case measure => simp [intOf]; omega
      · obtain rfl : j = k.size := by omega
        obtain ⟨ho, hB, -, -, -⟩ := hI.out
        rw [List.take_of_length_le (by rw [HNL.out]; exact Nat.le_refl _)] at ho
        have hEL := esc_length (natsOf k)
        rw [HNL.out] at hEL
        obtain ⟨v5, w5, r5, o5, b5⟩ := app2 (w.heap.size + 1) w1 wr _ _ _ 0 0 0 0 rfl rfl ho hB hs1 wr.heap.size rfl (by omega)
        have f0 := (b5.cell (p := ⟨w.heap.size, 0, none⟩) (by simp)).trans C0.out
        have f1 := (b5.cell (p := ⟨w.heap.size, 1, none⟩) (by simp)).trans C1.out
        have f2 := (b5.cell (p := ⟨w.heap.size, 2, none⟩) (by simp)).trans C2.out
        have O5 := Lib.hid o5
        have B5 := Lib.hid b5
        clear ho hB o5 b5 hI e0 e1 e2 O3 B3 Y3
        go_wp2_with (at_builtin; refine wpList_app_run rfl rfl r5 rfl rfl ?_)
        refine (HK.out _).mono ?_
        rintro e w4 ⟨rfl, hb4⟩
        have O4 := Lib.hid (And.intro (own_keep O5.out hb4) (B5.out.trans (hb4.mono (by have := B5.out.size; omega))))
        clear hb4 HK O5 B5 r5 f0 f1 f2
        have HX : bits .xor .u64 IntKind.u64.max (m : Int) = ((18446744073709551615 - m : Nat) : Int) := xor_max m hml
        have hM : 18446744073709551615 - m < 18446744073709551616 := by omega
        generalize 18446744073709551615 - m = M at *
        go_wp2_with fail
        clear HX
        go_loopw [5, 9, 46] (fun v _ i wr => ∃ j : Nat, j ≤ 8 ∧ i = .int .i64 (j : Int) ∧ Hid (wr.ownsRow (w.heap.size + 1) 5 1 v ((esc (natsOf k)).length + 2 + j) (u8s (esc (natsOf k) ++ [0, 0] ++ (bigL M 8).take j)) ∧ Below (w.heap.size + 1) w1 wr)) (fun _ _ i _ => 8 - (intOf i).toNat)
        case atStart => exact ⟨0, by omega, rfl, by simpa using O4.out.1, O4.out.2⟩
        case round =>
          obtain ⟨j, hj, rfl, hI⟩ := hrel
          by_cases hlt : j < 8
          · obtain ⟨v5, w5, r5, o5, b5⟩ := app1 (w.heap.size + 1) w1 wr _ _ _ _ _ (shr_val M (7 - j)) hI.out.1 hI.out.2 hs1 wr.heap.size rfl (by omega)
            have hsh : ∀ W, (binOp .shr 43 (.int .u64 (M : Int)) (.int .i64 (8 * (7 - (j : Int))))).run Try.prog W = .ok (.int .u64 ((M : Int) / 2 ^ (8 * (7 - j)))) W := fun W => run_shr64 M (7 - j) _ (by omega) (by omega) hM W
            have O5 : Hid (w5.ownsRow (w.heap.size + 1) 5 1 v5 ((esc (natsOf k)).length + 2 + (j + 1)) (u8s (esc (natsOf k) ++ [0, 0] ++ (bigL M 8).take (j + 1)))) := Lib.hid (by rw [big_snoc M j hlt, ← List.append_assoc]; exact o5)
            have B5 := Lib.hid b5
            clear o5 b5 hI O4
            go_wp2_with (at_builtin; refine wpList_app_run rfl rfl r5 rfl rfl ?_)
            go_roundw
            case rel => exact ⟨j + 1, by omega, by go_num, O5.out, B5.out⟩
            case measure => simp [intOf]; omega
          · obtain rfl : j = 8 := by omega
            have ho := hI.out.1
            rw [List.take_of_length_le (by rw [bigL_length]; exact Nat.le_refl _)] at ho
            have HO := Lib.hid ho
            have HB := Lib.hid hI.out.2
            clear O4 hI ho
            go_wp2
            go_ret2
            rw [HR.out]
            have h := fresh_own HO.out HB.out HB1.out (by omega) 0
            simpa using h
  · have HR : Hid (sortR k s d = []) := Lib.hid (if_neg hok)
    have hE := chk_no hok
    rw [hE] at HC ⊢
    clear hE hok
    unfold verV at *
    go_enter Try.func18, Try.ntmps18
    go_wp2_with fail
    refine (HC.out _).mono ?_
    rintro e w1 ⟨rfl, hb1⟩
    have HB1 : Hid (Below w.heap.size w w1) := Lib.hid ((bel1 _ _).trans (hb1.mono (by simp)))
    clear hb1 HC
    go_wp2
    go_ret2
    rw [HR.out]
    exact fresh_none HB1.out
end Go.Proofs.Ytaeilfpaaogllaa
