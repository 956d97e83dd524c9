/-
  What the document's own Wrap, Clamp, Left and Swap answer.
-/
import Derived.Test.YthmllebnhadjkaaConvR2
namespace Go.Proofs.Ythmllebnhadjkaa
open Go.RowKit

theorem told_at (kind : Int) (hk : 0 ≤ kind ∧ kind ≤ 7) (w : World) (a : Option Addr) (cap n : Nat) (l : List Bool) (hn : l.length = n) (hl : Bol w a l) (hw : n = widN kind) :
    Calls Try.prog 30 #[.int .i64 kind, .slice a n cap] w fun e w' => e = .returned (.int .i64 (fitI kind (whole l : Int))) ∧ Below w.heap.size w w' := by
  subst hn; exact told_any kind hk w a cap l hl hw
theorem bol_of_row {w : World} {B n : Nat} {f : Nat → Bool} (h : w.rowIs B 4 n (fun c => .bool (f c))) : Bol w (some ⟨B, 0, none⟩) ((List.range n).map f) := by
  by_cases h0 : n = 0
  · left; subst h0; rfl
  · refine .inr ⟨B, 0, rfl, h.lt, fun i hi => ?_⟩
    simp at hi
    rw [Nat.zero_add, h.cell hi]; simp
theorem map_bit (f : Nat → Bool) (n i : Nat) (hi : i < n) : (whole ((List.range n).map f)).testBit i = f i := by
  rw [whole_bit]; simp [List.getD_eq_getElem?_getD, hi]
theorem fit_whole {kind : Int} (hk : 0 ≤ kind ∧ kind ≤ 7) (f : Nat → Bool) (x : Nat) (h : ∀ i, i < widN kind → f i = x.testBit i) : fitI kind (whole ((List.range (widN kind)).map f) : Int) = fitI kind (x : Int) :=
  fit_ext hk (fun i hi => by rw [map_bit _ _ _ hi, h i hi])

set_option maxRecDepth 100000 in
set_option maxHeartbeats 400000 in
theorem docwrap_any (kind : Int) (hk : 0 ≤ kind ∧ kind ≤ 7) (n : Int) (w : World) :
    Calls Try.prog 11 #[.int .i64 kind, .int .i64 n] w fun e w' => e = .returned (.tuple #[.int .i64 (fitI kind n), .int .i64 0]) ∧ Below w.heap.size w w' := by
  have hwid : 8 ≤ widN kind ∧ widN kind ≤ 64 := by rcases wid_le kind with h | h | h | h <;> omega
  have h0 : ((widN kind : Int) == 0) = false := by rw [beq_eq_false_iff_ne]; omega
  have HU := Lib.hid (u64_val n)
  have HF : Hid (fitI kind (whole (splitL (uN n) (widN kind)) : Int) = fitI kind n) := Lib.hid (by
    rw [← fit_uN (kind := kind) n]; exact fit_whole hk _ _ (fun i hi => rfl))
  go_enter Try.func11, Try.ntmps11
  go_wp2_with fail
  refine (width_any kind hk _).mono ?_
  rintro e w1 ⟨rfl, hb1⟩
  have HB1 := Lib.hid hb1
  clear hb1
  go_wp2_with fail
  rw [HU.out]
  refine (split_any _ _ (uN_lt _) hwid.2 _).mono ?_
  rintro e w2 ⟨v, rfl, hown, hb2⟩
  obtain ⟨a5, cap5, rfl, hB5⟩ := bol_of_own hown
  have HB2 := Lib.hid ((HB1.out).trans (hb2.mono HB1.out.size))
  have HB5 := Lib.hid hB5
  rw [splitL_length]
  clear hown hb2 hB5
  go_wp2_with fail
  refine (told_at kind hk _ _ _ _ _ (splitL_length _ _) HB5.out rfl).mono ?_
  rintro e w3 ⟨rfl, hb3⟩
  have HB3 := Lib.hid ((HB2.out).trans (hb3.mono HB2.out.size))
  clear hb3
  go_wp2
  go_ret2
  exact ⟨ret_two HF.out rfl, HB3.out⟩
set_option maxRecDepth 100000 in
set_option maxHeartbeats 400000 in
theorem docwrap_no (kind : Int) (hk : kind < 0 ∨ 7 < kind) (n : Int) (w : World) :
    Calls Try.prog 11 #[.int .i64 kind, .int .i64 n] w fun e w' => e = .returned (.tuple #[.int .i64 0, .int .i64 1]) ∧ w = w' := by
  go_enter Try.func11, Try.ntmps11
  go_wp2_with fail
  refine (width_no kind hk _).mono ?_
  rintro e w' ⟨rfl, rfl⟩
  go_wp2
  go_ret2
  exact ⟨rfl, rfl⟩

set_option maxRecDepth 100000 in
set_option maxHeartbeats 800000 in
theorem docleft_any (kind : Int) (hk : 0 ≤ kind ∧ kind ≤ 7) (n : Int) (m : Nat) (hm : m < 9223372036854775808) (w : World) :
    Calls Try.prog 20 #[.int .i64 kind, .int .i64 n, .int .i64 (m : Int)] w fun e w' => e = .returned (.tuple #[.int .i64 (fitI kind (n * 2 ^ m)), .int .i64 0]) ∧ Below w.heap.size w w' := by
  have hwid : 8 ≤ widN kind ∧ widN kind ≤ 64 := by rcases wid_le kind with h | h | h | h <;> omega
  have h0 : ((widN kind : Int) == 0) = false := by rw [beq_eq_false_iff_ne]; omega
  have HU := Lib.hid (u64_val n)
  have HF : Hid (fitI kind (whole ((List.range (widN kind)).map (fun c => decide (m ≤ c) && (uN n).testBit (c - m))) : Int) = fitI kind (n * 2 ^ m)) := Lib.hid (by
    rw [fit_whole hk _ (uN n * 2 ^ m) (fun i hi => by rw [Nat.testBit_mul_two_pow])]
    apply fit_congr
    rw [Int.natCast_mul, uN_val, Int.mul_emod, Int.emod_emod, ← Int.mul_emod]; simp)
  have kmk := run_make_row' (P := Try.prog) 40 4 (.bool false) 1 Try.underlying40 Try.info4 rfl .i64 .i64 (widN kind) (by omega) (by omega)
  go_enter Try.func20, Try.ntmps20
  go_wp2_with fail
  refine (width_any kind hk _).mono ?_
  rintro e w1 ⟨rfl, hb1⟩
  have HB1 := Lib.hid hb1
  clear hb1
  go_wp2_with fail
  rw [HU.out]
  refine (split_any _ _ (uN_lt _) hwid.2 _).mono ?_
  rintro e w2 ⟨v, rfl, hown, hb2⟩
  obtain ⟨a5, cap5, rfl, hB5⟩ := bol_of_own hown
  have HB2 := Lib.hid ((HB1.out).trans (hb2.mono HB1.out.size))
  have HB5 := Lib.hid hB5
  rw [splitL_length]
  have hst : (w2.alloc (.cells (madeCells #[.bool false] (widN kind)) 4)).rowIs w2.heap.size 4 (widN kind) (fun c => .bool (decide (c < 0) && (decide (m ≤ c) && (uN n).testBit (c - m)))) := (World.rowIs_made w2 (.bool false) _ 4).congr (fun c _ => by simp)
  have HST := Lib.hid hst
  clear hown hb2 hB5 hst
  go_wp2_with fail
  go_loopw [11] (fun i wr => ∃ k : Nat, k ≤ widN kind ∧ i = .int .i64 (k : Int) ∧ Hid (wr.rowIs w2.heap.size 4 (widN kind) (fun c => .bool (decide (c < k) && (decide (m ≤ c) && (uN n).testBit (c - m)))) ∧ Below w2.heap.size w2 wr)) (fun i _ => widN kind - (intOf i).toNat)
  case atStart => exact ⟨0, by omega, rfl, HST.out, (Below.refl _ _).alloc (Nat.le_refl _) _⟩
  case round =>
    obtain ⟨k, hk2, rfl, hI⟩ := hrel
    clear HST kmk
    by_cases hlt : k < widN kind
    · have hstep : ∀ b : Bool, b = (decide (m ≤ k) && (uN n).testBit (k - m)) → (wr.setCell ⟨w2.heap.size, k, none⟩ (.bool b)).rowIs w2.heap.size 4 (widN kind) (fun c => .bool (decide (c < k + 1) && (decide (m ≤ c) && (uN n).testBit (c - m)))) := fun b hb =>
        (hI.out.1.set k (.bool b)).congr (fun c _ => by
          by_cases e : c = k
          · subst e; rw [if_pos rfl, hb]; simp
          · rw [if_neg e, show decide (c < k + 1) = decide (c < k) from decide_eq_decide.2 (by omega)])
      have HSTEP := Lib.hid hstep
      have hBl := Lib.hid (fun v => hI.out.2.setCell (p := ⟨w2.heap.size, k, none⟩) (Nat.le_refl _) v)
      have c0 := hI.out.1.cell hlt
      have z0 := hI.out.1.frozen k
      by_cases hc : m ≤ k
      · have hmw : m < widN kind := by omega
        have hkm : k - m < widN kind := by omega
        obtain ⟨b2, off2, e2, hck⟩ := (HB5.out.keep hI.out.2).at (k := k - m) (by rw [splitL_length]; omega)
        have hgd : (splitL (uN n) (widN kind))[k - m]'(by rw [splitL_length]; omega) = (uN n).testBit (k - m) := by simp [splitL]
        rw [hgd] at hck
        subst e2
        have HX : Hid ((uN n).testBit (k - m) = (decide (m ≤ k) && (uN n).testBit (k - m))) := Lib.hid (by simp [hc])
        generalize (uN n).testBit (k - m) = bx at *
        clear hstep hgd
        go_wp2
        go_roundw
        case rel => exact ⟨k + 1, by omega, by go_num, HSTEP.out _ HX.out, hBl.out _⟩
        case measure => simp [intOf]; omega
      · have HR2 : Hid (wr.rowIs w2.heap.size 4 (widN kind) (fun c => .bool (decide (c < k + 1) && (decide (m ≤ c) && (uN n).testBit (c - m))))) := Lib.hid (hI.out.1.congr (fun c _ => by
          by_cases e : c = k
          · subst e; simp [hc]
          · rw [show decide (c < k + 1) = decide (c < k) from decide_eq_decide.2 (by omega)]))
        have HBW := Lib.hid hI.out.2
        clear hstep HSTEP hBl c0 z0 hI
        by_cases hmw : m < widN kind
        all_goals
          go_wp2
          go_roundw
          case rel => exact ⟨k + 1, by omega, by go_num, HR2.out, HBW.out⟩
          case measure => simp [intOf]; omega
    · obtain rfl : k = widN kind := by omega
      have hr : wr.rowIs w2.heap.size 4 (widN kind) (fun c => .bool (decide (m ≤ c) && (uN n).testBit (c - m))) := hI.out.1.congr (fun c hc => by rw [decide_eq_true hc, Bool.true_and])
      have HR := Lib.hid (bol_of_row hr)
      have HB3 := Lib.hid (HB2.out.trans (hI.out.2.mono HB2.out.size))
      clear hr
      go_wp2_with fail
      refine (told_at kind hk _ _ _ _ _ (by simp) HR.out rfl).mono ?_
      rintro e w3 ⟨rfl, hb3⟩
      have HB4 := Lib.hid ((HB3.out).trans (hb3.mono HB3.out.size))
      clear hb3
      go_wp2
      go_ret2
      exact ⟨ret_two HF.out rfl, HB4.out⟩

set_option maxRecDepth 100000 in
set_option maxHeartbeats 400000 in
theorem docleft_no (kind n m : Int) (hk : (kind < 0 ∨ 7 < kind) ∨ m < 0) (w : World) :
    Calls Try.prog 20 #[.int .i64 kind, .int .i64 n, .int .i64 m] w fun e w' => e = .returned (.tuple #[.int .i64 0, .int .i64 1]) ∧ Below w.heap.size w w' := by
  by_cases h : kind < 0 ∨ 7 < kind
  · clear hk
    go_enter Try.func20, Try.ntmps20
    go_wp2_with fail
    refine (width_no kind h _).mono ?_
    rintro e w' ⟨rfl, rfl⟩
    go_wp2
    go_ret2
    exact ⟨rfl, Below.refl _ _⟩
  · have hm : m < 0 := by omega
    have h2 : 0 ≤ kind ∧ kind ≤ 7 := by omega
    have hwid : 8 ≤ widN kind ∧ widN kind ≤ 64 := by rcases wid_le kind with h | h | h | h <;> omega
    have h0 : ((widN kind : Int) == 0) = false := by rw [beq_eq_false_iff_ne]; omega
    clear hk h
    go_enter Try.func20, Try.ntmps20
    go_wp2_with fail
    refine (width_any kind h2 _).mono ?_
    rintro e w1 ⟨rfl, hb1⟩
    have HB1 := Lib.hid hb1
    clear hb1
    go_wp2
    go_ret2
    exact ⟨rfl, HB1.out⟩
set_option maxRecDepth 100000 in
set_option maxHeartbeats 400000 in
theorem docright_no (kind n m : Int) (hk : (kind < 0 ∨ 7 < kind) ∨ m < 0) (w : World) :
    Calls Try.prog 22 #[.int .i64 kind, .int .i64 n, .int .i64 m] w fun e w' => e = .returned (.tuple #[.int .i64 0, .int .i64 1]) ∧ Below w.heap.size w w' := by
  by_cases h : kind < 0 ∨ 7 < kind
  · clear hk
    go_enter Try.func22, Try.ntmps22
    go_wp2_with fail
    refine (width_no kind h _).mono ?_
    rintro e w' ⟨rfl, rfl⟩
    go_wp2
    go_ret2
    exact ⟨rfl, Below.refl _ _⟩
  · have hm : m < 0 := by omega
    have h2 : 0 ≤ kind ∧ kind ≤ 7 := by omega
    have hwid : 8 ≤ widN kind ∧ widN kind ≤ 64 := by rcases wid_le kind with h | h | h | h <;> omega
    have h0 : ((widN kind : Int) == 0) = false := by rw [beq_eq_false_iff_ne]; omega
    clear hk h
    go_enter Try.func22, Try.ntmps22
    go_wp2_with fail
    refine (width_any kind h2 _).mono ?_
    rintro e w1 ⟨rfl, hb1⟩
    have HB1 := Lib.hid hb1
    clear hb1
    go_wp2
    go_ret2
    exact ⟨rfl, HB1.out⟩
end Go.Proofs.Ythmllebnhadjkaa
