/-
  What the document's own Get and Set answer.
-/
import Derived.Test.YthmllebnhadjkaaConvL2
namespace Go.Proofs.Ythmllebnhadjkaa
open Go.RowKit

theorem split64 (n : Nat) (hn : n < 18446744073709551616) (w : World) : Calls Try.prog 31 #[.int .u64 (n : Int), .int .i64 64] w (FreshB w (splitL n 64)) := split_any n 64 hn (by omega) w
def part (a : Option Addr) (cap p : Nat) : Option Addr := if cap = p then a else a.map (·.add p)
theorem Bol.part {w : World} {a : Option Addr} {l : List Bool} (h : Bol w a l) (cap p q : Nat) (hc : l.length ≤ cap) (hpq : p ≤ q) (hq : q ≤ l.length) : Bol w (part a cap p) ((l.take q).drop p) := by
  by_cases h0 : p = q
  · left; subst h0; simp
  · right
    rcases h with h | ⟨b, off, rfl, hlt, hcl⟩
    · subst h; simp at hq; omega
    · refine ⟨b, off + p, ?_, hlt, fun i hi => ?_⟩
      · unfold Ythmllebnhadjkaa.part; rw [if_neg (by omega)]; simp [addr_add]
      · simp at hi
        have := hcl (p + i) (by omega)
        rw [Nat.add_assoc, this]; simp
theorem run_partB {w : World} {a : Option Addr} (len cap p q : Nat) (z : Int) (hz : z = q) (hpq : p ≤ q) (hq : q ≤ cap) :
    (Instr.slice 40 (.slice a len cap) (some (.int .i64 (p : Int))) (some (.int .i64 z)) none).run Try.prog w = .ok (.slice (part a cap p) (q - p) (cap - p)) w := by
  subst hz
  have hel : Try.prog.elem 40 = 4 := by kernel_rfl
  rw [run_slice_lh (P := Try.prog) w 40 a len cap (by rw [hel]; exact Try.underlying40) .i64 .i64 p q (by omega) (by omega) (by omega), hel]
  simp [go_sem, sliced, part]
theorem own_row {w : World} {base : Nat} {e : TypeId} {v : Value} {n : Nat} {xs : List Value} (hn : 0 < n) (h : w.ownsRow base e 1 v n xs) :
    ∃ g cap, v = .slice (some ⟨g, 0, none⟩) n cap ∧ base ≤ g ∧ n ≤ cap ∧ cap ≤ maxLen ∧ ∃ f, w.rowIs g e cap f ∧ ∀ j, j < n → some (f j) = xs[j]? := by
  rcases h.2 with ⟨_, h0⟩ | ⟨g, cap, cur, rfl, hB, hh, h1, h2, h3, h4⟩
  · omega
  · refine ⟨g, cap, rfl, hB, h1, h2, fun j => cur.getD j undef, ⟨cur, hh, by simpa using h3, fun i hi => ?_⟩, fun j hj => ?_⟩
    · have : i < cur.size := by omega
      simp [Array.getD, this]
    · have : j < cur.size := by omega
      rw [← h4, List.getElem?_take, if_pos (by omega)]
      simp [Array.getD, this]

set_option maxRecDepth 100000 in
set_option maxHeartbeats 400000 in
theorem field_yes (a b : Nat) (h : a + b ≤ 64) (w : World) :
    Calls Try.prog 35 #[.int .i64 (a : Int), .int .i64 (b : Int)] w fun e w' => e = .returned (.bool true) ∧ w = w' := by
  have h1 : a ≤ 64 := by omega
  have h2 : (b : Int) ≤ 64 - a := by omega
  go_enter Try.func35, Try.ntmps35
  go_wp2
  go_ret
  exact ⟨rfl, rfl⟩
set_option maxRecDepth 100000 in
set_option maxHeartbeats 400000 in
theorem field_no (a b : Int) (ha : -9223372036854775808 ≤ a ∧ a ≤ 9223372036854775807) (h : ¬ fieldB a b) (w : World) :
    Calls Try.prog 35 #[.int .i64 a, .int .i64 b] w fun e w' => e = .returned (.bool false) ∧ w = w' := by
  unfold fieldB at h
  by_cases h1 : 0 ≤ a
  · by_cases h2 : 0 ≤ b
    · by_cases h3 : a ≤ 64
      · have h4 : ¬ (b ≤ 64 - a) := by omega
        clear h
        go_enter Try.func35, Try.ntmps35
        go_wp2
        go_ret
        exact ⟨rfl, rfl⟩
      · clear h
        go_enter Try.func35, Try.ntmps35
        go_wp2
        go_ret
        exact ⟨rfl, rfl⟩
    · clear h
      go_enter Try.func35, Try.ntmps35
      go_wp2
      go_ret
      exact ⟨rfl, rfl⟩
  · clear h
    go_enter Try.func35, Try.ntmps35
    go_wp2
    go_ret
    exact ⟨rfl, rfl⟩
set_option maxRecDepth 100000 in
set_option maxHeartbeats 400000 in
theorem docget_any (n a b : Nat) (hn : n < 18446744073709551616) (h : a + b ≤ 64) (w : World) :
    Calls Try.prog 26 #[.int .u64 (n : Int), .int .i64 (a : Int), .int .i64 (b : Int)] w fun e w' => e = .returned (.tuple #[.int .u64 ((n / 2 ^ a % 2 ^ b : Nat) : Int), .int .i64 0]) ∧ Below w.heap.size w w' := by
  have HF : Hid (whole (((splitL n 64).take (a + b)).drop a) = n / 2 ^ a % 2 ^ b) := Lib.hid (by
    apply Nat.eq_of_testBit_eq; intro i
    rw [whole_bit, Nat.testBit_mod_two_pow, Nat.testBit_div_two_pow]
    by_cases hi : i < b
    · simp [List.getD_eq_getElem?_getD, splitL, hi, show a + i < 64 by omega, Nat.add_comm]
    · simp [List.getD_eq_getElem?_getD, splitL, hi, List.getElem?_take])
  go_enter Try.func26, Try.ntmps26
  go_wp2_with fail
  refine (field_yes a b h _).mono ?_
  rintro e w' ⟨rfl, rfl⟩
  go_wp2_with fail
  refine (split64 n hn _).mono ?_
  rintro e w2 ⟨v, rfl, hown, hb2⟩
  obtain ⟨g, cap, rfl, _, hc1, _⟩ := own_row (by rw [splitL_length]; omega) hown
  obtain ⟨a5, cap5, e5, hB5⟩ := bol_of_own hown
  injection e5 with e5 _ e6
  subst e5 e6
  rw [splitL_length] at hc1 ⊢
  have hP := Lib.hid (hB5.part cap a (a + b) (by rw [splitL_length]; exact hc1) (by omega) (by rw [splitL_length]; omega))
  have hs := fun wx => run_partB (w := wx) (a := some ⟨g, 0, none⟩) 64 cap a (a + b) ((a : Int) + b) (by omega) (by omega) (by omega)
  have hl : (((splitL n 64).take (a + b)).drop a).length = b := by simp [splitL]; omega
  have HB2 := Lib.hid hb2
  have KL := Lib.hid hl
  clear hown hb2 hB5 hl
  generalize part (some ⟨g, 0, none⟩) cap a = pa at *
  go_wp2_with fail
  refine (whole_at _ _ _ _ _ KL.out hP.out (by omega)).mono ?_
  rintro e w' ⟨rfl, rfl⟩
  rw [HF.out]
  go_wp2
  go_ret2
  exact ⟨rfl, HB2.out⟩
set_option maxRecDepth 100000 in
set_option maxHeartbeats 400000 in
theorem docget_no (n : Nat) (a b : Int) (ha : -9223372036854775808 ≤ a ∧ a ≤ 9223372036854775807) (h : ¬ fieldB a b) (w : World) :
    Calls Try.prog 26 #[.int .u64 (n : Int), .int .i64 a, .int .i64 b] w fun e w' => e = .returned (.tuple #[.int .u64 0, .int .i64 1]) ∧ w = w' := by
  go_enter Try.func26, Try.ntmps26
  go_wp2_with fail
  refine (field_no a b ha h _).mono ?_
  rintro e w' ⟨rfl, rfl⟩
  go_wp2
  go_ret2
  exact ⟨rfl, rfl⟩
set_option maxRecDepth 100000 in
set_option maxHeartbeats 400000 in
theorem docset_no (n t : Nat) (a b : Int) (ha : -9223372036854775808 ≤ a ∧ a ≤ 9223372036854775807) (h : ¬ fieldB a b) (w : World) :
    Calls Try.prog 28 #[.int .u64 (n : Int), .int .i64 a, .int .i64 b, .int .u64 (t : Int)] w fun e w' => e = .returned (.tuple #[.int .u64 0, .int .i64 1]) ∧ w = w' := by
  go_enter Try.func28, Try.ntmps28
  go_wp2_with fail
  refine (field_no a b ha h _).mono ?_
  rintro e w' ⟨rfl, rfl⟩
  go_wp2
  go_ret2
  exact ⟨rfl, rfl⟩
def setV (n a b t : Nat) : Value := if t < 2 ^ b then .tuple #[.int .u64 (setN n a b t : Int), .int .i64 0] else .tuple #[.int .u64 0, .int .i64 14]
theorem high_bit (t b : Nat) (ht : t < 18446744073709551616) (h : 2 ^ b ≤ t) : ∃ i, b ≤ i ∧ i < 64 ∧ t.testBit i = true := by
  obtain ⟨i, hi, hb⟩ := Nat.exists_ge_and_testBit_of_ge_two_pow h
  refine ⟨i, hi, ?_, hb⟩
  rcases Nat.lt_or_ge i 64 with h2 | h2
  · exact h2
  · rw [Nat.testBit_lt_two_pow (Nat.lt_of_lt_of_le (show t < 2 ^ 64 by omega) (Nat.pow_le_pow_right (by omega) h2))] at hb; cases hb
set_option maxRecDepth 100000 in
set_option maxHeartbeats 800000 in
theorem docset_any (n a b t : Nat) (hn : n < 18446744073709551616) (ht : t < 18446744073709551616) (h : a + b ≤ 64) (w : World) :
    Calls Try.prog 28 #[.int .u64 (n : Int), .int .i64 (a : Int), .int .i64 (b : Int), .int .u64 (t : Int)] w fun e w' => e = .returned (setV n a b t) ∧ Below w.heap.size w w' := by
  go_enter Try.func28, Try.ntmps28
  go_wp2_with fail
  refine (field_yes a b h _).mono ?_
  rintro e w' ⟨rfl, rfl⟩
  go_wp2_with fail
  refine (split64 t ht _).mono ?_
  rintro e w2 ⟨v, rfl, hown, hb2⟩
  obtain ⟨at_, capt, rfl, hBt⟩ := bol_of_own hown
  rw [splitL_length]
  have HBT := Lib.hid hBt
  have HB2 := Lib.hid hb2
  clear hown hb2 hBt
  go_wp2_with fail
  go_loop [11] (fun i => ∃ k : Nat, b ≤ k ∧ k ≤ 64 ∧ i = .int .i64 (k : Int) ∧ Hid (∀ j, b ≤ j → j < k → t.testBit j = false)) (fun i => 64 - (intOf i).toNat)
  case atStart => exact ⟨b, Nat.le_refl _, by omega, rfl, fun j h1 h2 => by omega⟩
  case round =>
    obtain ⟨k, hk1, hk2, rfl, hI⟩ := hrel
    by_cases hlt : k < 64
    · obtain ⟨bt, ot, rfl, hck⟩ := HBT.out.at (k := k) (by rw [splitL_length]; omega)
      have hgd : (splitL t 64)[k]'(by rw [splitL_length]; omega) = t.testBit k := by simp [splitL]
      rw [hgd] at hck
      clear hgd
      cases hbit : t.testBit k
      · rw [hbit] at hck
        have HI : Hid (∀ j, b ≤ j → j < k + 1 → t.testBit j = false) := Lib.hid (fun j h1 h2 => by
          by_cases e : j = k
          · rw [e]; exact hbit
          · exact hI.out j h1 (by omega))
        clear hbit hI
        go_wp2
        go_round
        case rel => exact ⟨k + 1, by omega, by omega, by go_num, HI.out⟩
        case measure => simp [intOf]; omega
      · rw [hbit] at hck
        have HV : Hid (setV n a b t = .tuple #[.int .u64 0, .int .i64 14]) := Lib.hid (by
          unfold setV; rw [if_neg]
          intro hlt2
          rw [Nat.testBit_lt_two_pow (Nat.lt_of_lt_of_le hlt2 (Nat.pow_le_pow_right (by omega) hk1))] at hbit; cases hbit)
        clear hbit hI
        go_wp2
        go_ret2
        exact ⟨by rw [HV.out]; rfl, HB2.out⟩
    · obtain rfl : k = 64 := by omega
      have htb : t < 2 ^ b := by
        rcases Nat.lt_or_ge t (2 ^ b) with h2 | h2
        · exact h2
        · obtain ⟨i, h3, h4, h5⟩ := high_bit t b ht h2
          rw [hI.out i h3 h4] at h5; cases h5
      have HV : Hid (setV n a b t = .tuple #[.int .u64 (setN n a b t : Int), .int .i64 0]) := Lib.hid (by unfold setV; rw [if_pos htb])
      clear hI
      go_wp2_with fail
      refine (split64 n hn _).mono ?_
      rintro e w3 ⟨v, rfl, hown, hb3⟩
      obtain ⟨g, cap, rfl, hg, hc1, hc2, f, hrow, hf⟩ := own_row (by rw [splitL_length]; omega) hown
      rw [splitL_length] at hc1 hf ⊢
      have hBt3 := HBT.out.keep hb3
      have hst : w3.rowIs g 4 cap (fun c => if c < 64 then .bool (if a ≤ c ∧ c < a + 0 then t.testBit (c - a) else n.testBit c) else f c) := hrow.congr (fun c _ => by
        by_cases e : c < 64
        · rw [if_pos e, if_neg (by omega)]
          have := hf c e
          simp [bls, splitL, e] at this
          exact this
        · rw [if_neg e])
      have HST := Lib.hid hst
      have HBT3 := Lib.hid hBt3
      have hglt : g < w3.heap.size := hrow.lt
      have HB3 := Lib.hid (below_next HB2.out hb3)
      have HG : Hid (w2.heap.size ≤ g) := Lib.hid hg
      have HSZ := Lib.hid hb3.size
      clear hown hb3 hrow hf hst hBt3
      go_wp2_with fail
      go_loopw [13] (fun i wr => ∃ k : Nat, k ≤ b ∧ i = .int .i64 (k : Int) ∧ Hid (wr.rowIs g 4 cap (fun c => if c < 64 then .bool (if a ≤ c ∧ c < a + k then t.testBit (c - a) else n.testBit c) else f c) ∧ Below g w3 wr)) (fun i _ => b - (intOf i).toNat)
      case atStart => exact ⟨0, by omega, rfl, HST.out, Below.refl _ _⟩
      case round =>
        obtain ⟨k, hk, rfl, hI⟩ := hrel
        clear HST
        by_cases hlt2 : k < b
        · have hbt : ∃ bt ot, at_ = some ⟨bt, ot, none⟩ ∧ bt < w2.heap.size ∧ wr.cell? ⟨bt, ot + k, none⟩ = some (.bool (t.testBit k)) := by
            rcases HBT.out with h0 | ⟨bt, ot, e, hlt3, hc⟩
            · have := splitL_length t 64; rw [h0] at this; simp at this
            · refine ⟨bt, ot, e, hlt3, ?_⟩
              have h1 := (HBT3.out)
              rcases h1 with h0 | ⟨bt', ot', e', _, hc'⟩
              · have := splitL_length t 64; rw [h0] at this; simp at this
              · rw [e] at e'
                obtain ⟨rfl, rfl⟩ : bt = bt' ∧ ot = ot' := by simpa using e'
                have h2 := hc' k (by rw [splitL_length]; omega)
                have h3 := hI.out.2.cell (p := ⟨bt, ot + k, none⟩) (show bt < g from Nat.lt_of_lt_of_le hlt3 HG.out)
                rw [h3, h2]; simp [splitL]
          obtain ⟨bt, ot, rfl, hbl, hck⟩ := hbt
          have hne : bt ≠ g := by have := HG.out; omega
          have hne2 : g ≠ bt := fun e => hne e.symm
          have c0 := hI.out.1.cell (show a + k < cap by omega)
          rw [if_pos (show a + k < 64 by omega)] at c0
          have z0 := hI.out.1.frozen (a + k)
          have hstep : (wr.setCell ⟨g, a + k, none⟩ (.bool (t.testBit k))).rowIs g 4 cap (fun c => if c < 64 then .bool (if a ≤ c ∧ c < a + (k + 1) then t.testBit (c - a) else n.testBit c) else f c) :=
            (hI.out.1.set (a + k) _).congr (fun c _ => by
              by_cases e : c = a + k
              · subst e; rw [if_pos rfl, if_pos (by omega), if_pos (by omega), show a + k - a = k by omega]
              · rw [if_neg e]
                by_cases e2 : c < 64
                · rw [if_pos e2, if_pos e2]
                  by_cases e3 : a ≤ c ∧ c < a + k
                  · rw [if_pos e3, if_pos (by omega)]
                  · rw [if_neg e3, if_neg (by omega)]
                · rw [if_neg e2, if_neg e2])
          have HSTEP := Lib.hid hstep
          have HBL := Lib.hid (fun v => hI.out.2.setCell (p := ⟨g, a + k, none⟩) (Nat.le_refl _) v)
          generalize t.testBit k = bx at *
          generalize (if a ≤ a + k ∧ a + k < a + k then t.testBit (a + k - a) else n.testBit (a + k)) = by_ at *
          clear hstep hI
          go_wp2
          go_roundw
          case rel => exact ⟨k + 1, by omega, by go_num, HSTEP.out, HBL.out _⟩
          case measure => simp [intOf]; omega
        · obtain rfl : k = b := by omega
          have hB : Bol wr (some ⟨g, 0, none⟩) ((List.range 64).map fun c => if a ≤ c ∧ c < a + k then t.testBit (c - a) else n.testBit c) := by
            refine .inr ⟨g, 0, rfl, hI.out.1.lt, fun i hi => ?_⟩
            simp at hi
            rw [Nat.zero_add, hI.out.1.cell (by omega), if_pos hi]; simp
          have HBB := Lib.hid hB
          have HW : Hid (whole ((List.range 64).map fun c => if a ≤ c ∧ c < a + k then t.testBit (c - a) else n.testBit c) = setN n a k t) := Lib.hid (by
            apply Nat.eq_of_testBit_eq; intro i
            by_cases hi : i < 64
            · rw [map_bit _ _ _ hi, setN_bit n a k t hn h htb]
            · rw [Nat.testBit_lt_two_pow (Nat.lt_of_lt_of_le (setN_lt n a k t hn h htb) (show 18446744073709551616 ≤ 2 ^ i from Nat.pow_le_pow_right (n := 2) (by omega) (show 64 ≤ i by omega)))]
              rw [whole_bit]; simp [List.getD_eq_getElem?_getD, hi])
          have HFIN : Hid (Below w.heap.size w wr) := Lib.hid (HB3.out.trans (hI.out.2.mono (Nat.le_trans HB2.out.size HG.out)))
          have KL : Hid (((List.range 64).map fun c => if a ≤ c ∧ c < a + k then t.testBit (c - a) else n.testBit c).length = 64) := Lib.hid (by simp)
          generalize (List.range 64).map (fun c => if a ≤ c ∧ c < a + k then t.testBit (c - a) else n.testBit c) = L at *
          clear hB hI
          go_wp2_with fail
          refine (whole_at _ _ _ _ _ KL.out HBB.out (by omega)).mono ?_
          rintro e w' ⟨rfl, rfl⟩
          rw [HW.out]
          go_wp2
          go_ret2
          exact ⟨by rw [HV.out]; rfl, HFIN.out⟩
end Go.Proofs.Ythmllebnhadjkaa
