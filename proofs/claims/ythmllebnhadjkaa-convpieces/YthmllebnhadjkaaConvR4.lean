/-
  What the document's own Swap, Turn and Right answer.
-/
import Derived.Test.YthmllebnhadjkaaConvR3
import Derived.RegionTactic
import Derived.BigRegion
namespace Go.Proofs.Ythmllebnhadjkaa
open Go.RowKit

set_option maxRecDepth 100000 in
set_option maxHeartbeats 1600000 in
theorem docswap_any (kind : Int) (hk : 0 ≤ kind ∧ kind ≤ 7) (n : Int) (w : World) :
    Calls Try.prog 15 #[.int .i64 kind, .int .i64 n] w fun e w' => e = .returned (.tuple #[.int .i64 (fitI kind (swp (uN n) (widN kind / 8) : Int)), .int .i64 0]) ∧ Below w.heap.size w w' := by
  have hwid : 8 ≤ widN kind ∧ widN kind ≤ 64 := by rcases wid_le kind with h | h | h | h <;> omega
  have h0 : ((widN kind : Int) == 0) = false := by rw [beq_eq_false_iff_ne]; omega
  have HU := Lib.hid (u64_val n)
  have h8 : 8 * (widN kind / 8) = widN kind := by rcases wid_le kind with h | h | h | h <;> omega
  have HF : Hid (fitI kind (whole ((List.range (widN kind)).map (fun c => (uN n).testBit (widN kind - 8 - c / 8 * 8 + c % 8))) : Int) = fitI kind (swp (uN n) (widN kind / 8) : Int)) := Lib.hid (by
    exact fit_whole hk _ _ (fun i hi => by rw [swp_bit, decide_eq_true (show i < 8 * (widN kind / 8) by omega), Bool.true_and]; congr 1; omega))
  have kmk := run_make_row' (P := Try.prog) 40 4 (.bool false) 1 Try.underlying40 Try.info4 rfl .i64 .i64 (widN kind) (by omega) (by omega)
  go_enter Try.func15, Try.ntmps15
  go_wp2_with fail
  refine (width_any kind hk _).mono ?_
  rintro e w1 ⟨rfl, hb1⟩
  have HB1 := Lib.hid hb1
  clear hb1
  go_wp2_with fail
  rw [HU.out]
  refine (split_any _ _ (uN_lt _) hwid.2 _).mono ?_
  rintro e w2 ⟨v, rfl, hown, hb2⟩
  obtain ⟨a5, cap5, rfl, hB5⟩ := bol_of_own hown
  have HB2 := Lib.hid ((HB1.out).trans (hb2.mono HB1.out.size))
  have HB5 := Lib.hid hB5
  rw [splitL_length]
  have hst : (w2.alloc (.cells (madeCells #[.bool false] (widN kind)) 4)).rowIs w2.heap.size 4 (widN kind) (fun c => .bool (decide ((widN kind - 8 - c / 8 * 8 + c % 8) < 0) && (fun c => (uN n).testBit (widN kind - 8 - c / 8 * 8 + c % 8)) c)) := (World.rowIs_made w2 (.bool false) _ 4).congr (fun c _ => by simp)
  have HST := Lib.hid hst
  clear hown hb2 hB5 hst
  go_wp2_with fail
  go_loopw [9] (fun i wr => ∃ k : Nat, k ≤ widN kind ∧ i = .int .i64 (k : Int) ∧ Hid (wr.rowIs w2.heap.size 4 (widN kind) (fun c => .bool (decide ((widN kind - 8 - c / 8 * 8 + c % 8) < k) && (fun c => (uN n).testBit (widN kind - 8 - c / 8 * 8 + c % 8)) c)) ∧ Below w2.heap.size w2 wr)) (fun i _ => widN kind - (intOf i).toNat)
  case atStart => exact ⟨0, by omega, rfl, HST.out, (Below.refl _ _).alloc (Nat.le_refl _) _⟩
  case round =>
    obtain ⟨k, hk2, rfl, hI⟩ := hrel
    clear HST kmk
    by_cases hlt : k < widN kind
    · obtain ⟨b2, off2, e2, hck⟩ := (HB5.out.keep hI.out.2).at (k := k) (by rw [splitL_length]; omega)
      have hgd : (splitL (uN n) (widN kind))[k]'(by rw [splitL_length]; omega) = (uN n).testBit k := by simp [splitL]
      rw [hgd] at hck
      subst e2
      obtain ⟨t, ht⟩ : ∃ t, t = widN kind - 8 - k / 8 * 8 + k % 8 := ⟨_, rfl⟩
      have htl : t < widN kind := by omega
      have hbk : (uN n).testBit k = (uN n).testBit (widN kind - 8 - t / 8 * 8 + t % 8) := by congr 1; omega
      have hstep : (wr.setCell ⟨w2.heap.size, t, none⟩ (.bool ((uN n).testBit k))).rowIs w2.heap.size 4 (widN kind) (fun c => .bool (decide (widN kind - 8 - c / 8 * 8 + c % 8 < k + 1) && (fun c => (uN n).testBit (widN kind - 8 - c / 8 * 8 + c % 8)) c)) :=
        (hI.out.1.set t _).congr (fun c hc => by
          by_cases e : c = t
          · subst e; rw [if_pos rfl, hbk, decide_eq_true (show widN kind - 8 - c / 8 * 8 + c % 8 < k + 1 by omega), Bool.true_and]
          · rw [if_neg e, show decide (widN kind - 8 - c / 8 * 8 + c % 8 < k + 1) = decide (widN kind - 8 - c / 8 * 8 + c % 8 < k) from decide_eq_decide.2 (by omega)])
      have HSTEP := Lib.hid hstep
      have hBl := Lib.hid (fun v => hI.out.2.setCell (p := ⟨w2.heap.size, t, none⟩) (Nat.le_refl _) v)
      have c0 := hI.out.1.cell htl
      have z0 := hI.out.1.frozen t
      have e1 : (widN kind : Int) - 8 - (k : Int) / 8 * 8 + (k : Int) % 8 = (t : Int) := by omega
      generalize (uN n).testBit k = bx at *
      clear hstep hgd hbk ht
      go_wp2
      go_roundw
      case rel => exact ⟨k + 1, by omega, by go_num, HSTEP.out, hBl.out _⟩
      case measure => simp [intOf]; omega
    · obtain rfl : k = widN kind := by omega
      have hr : wr.rowIs w2.heap.size 4 (widN kind) (fun c => .bool ((fun c => (uN n).testBit (widN kind - 8 - c / 8 * 8 + c % 8)) c)) := hI.out.1.congr (fun c hc => by rw [decide_eq_true (show widN kind - 8 - c / 8 * 8 + c % 8 < widN kind by omega), Bool.true_and])
      have HR := Lib.hid (bol_of_row hr)
      have HB3 := Lib.hid (HB2.out.trans (hI.out.2.mono HB2.out.size))
      clear hr
      go_wp2_with fail
      refine (told_at kind hk _ _ _ _ _ (by simp) HR.out rfl).mono ?_
      rintro e w3 ⟨rfl, hb3⟩
      have HB4 := Lib.hid ((HB3.out).trans (hb3.mono HB3.out.size))
      clear hb3
      go_wp2
      go_ret2
      exact ⟨ret_two HF.out rfl, HB4.out⟩
def tbit (X b u c : Nat) : Bool := X.testBit ((c + (b - u)) % b)
theorem rot_facts (kind m : Int) (u : Nat) (r : Int) (hu : u = (m % (widN kind : Nat)).toNat) (hr : m.tmod (widN kind : Int) = r) :
    u < widN kind ∧ (-64 < r ∧ r < 64) ∧ ∀ k, k < widN kind → ∃ t, t < widN kind ∧ t = (k + u) % widN kind ∧ ((k : Int) + r + (widN kind : Int)).tmod (widN kind : Int) = (t : Int) ∧ (t + (widN kind - u)) % widN kind = k ∧ ∀ c, c < widN kind → c ≠ t → (c + (widN kind - u)) % widN kind ≠ k := by
  have h1 : ∃ q : Int, r = m % (widN kind : Nat) - (widN kind : Nat) * q ∧ (q = 0 ∨ q = 1 ∧ m % (widN kind : Nat) ≠ 0) := by
    rw [← hr, Int.tmod_eq_emod]
    by_cases h : 0 ≤ m ∨ (widN kind : Int) ∣ m
    · exact ⟨0, by rw [if_pos h]; simp, .inl rfl⟩
    · exact ⟨1, by rw [if_neg h]; simp, .inr ⟨rfl, fun e => h (.inr (Int.dvd_of_emod_eq_zero e))⟩⟩
  obtain ⟨q, h1, hq⟩ := h1
  generalize hb : widN kind = b at *
  have hw := wid_le kind
  rw [hb] at hw
  have hr2 : -(b : Int) < r ∧ r < b := by rcases hw with h | h | h | h <;> subst h <;> rcases hq with h | ⟨h, _⟩ <;> subst h <;> omega
  have hr64 : -64 < r ∧ r < 64 := by omega
  refine ⟨by rcases hw with h | h | h | h <;> subst h <;> omega, hr64, fun k hk => ⟨(k + u) % b, Nat.mod_lt _ (by omega), rfl, ?_, ?_, ?_⟩⟩
  · rw [Int.tmod_eq_emod_of_nonneg (by omega)]
    rcases hw with h | h | h | h <;> subst h <;> rcases hq with h | ⟨h, _⟩ <;> subst h <;> omega
  · rcases hw with h | h | h | h <;> subst h <;> omega
  · intro c hc hne
    rcases hw with h | h | h | h <;> subst h <;> omega

set_option maxRecDepth 100000 in
set_option maxHeartbeats 600000 in
theorem docturn_any (kind : Int) (hk : 0 ≤ kind ∧ kind ≤ 7) (n : Int) (m : Int) (w : World) :
    Calls Try.prog 24 #[.int .i64 kind, .int .i64 n, .int .i64 m] w fun e w' => e = .returned (.tuple #[.int .i64 (turnI kind n m), .int .i64 0]) ∧ Below w.heap.size w w' := by
  have hwid : 8 ≤ widN kind ∧ widN kind ≤ 64 := by rcases wid_le kind with h | h | h | h <;> omega
  have h0 : ((widN kind : Int) == 0) = false := by rw [beq_eq_false_iff_ne]; omega
  have HU := Lib.hid (u64_val n)
  obtain ⟨u, hu⟩ : ∃ u : Nat, u = (m % (widN kind : Nat)).toNat := ⟨_, rfl⟩
  obtain ⟨r, hr⟩ : ∃ r : Int, m.tmod (widN kind : Int) = r := ⟨_, rfl⟩
  obtain ⟨hul, hrl, hrot⟩ := rot_facts kind m u r hu hr
  have HF : Hid (fitI kind (whole ((List.range (widN kind)).map (tbit (uN n) (widN kind) u)) : Int) = turnI kind n m) := Lib.hid (by
    unfold turnI; rw [← hu]
    exact fit_whole hk _ _ (fun i hi => by
      have hlt : (i + (widN kind - u)) % widN kind < widN kind := Nat.mod_lt _ (by omega)
      unfold tbit
      rw [rot_bit _ _ _ (Nat.mod_lt _ (Nat.two_pow_pos _)) hul i hi, Nat.testBit_mod_two_pow, decide_eq_true hlt, Bool.true_and]))
  have kmk := run_make_row' (P := Try.prog) 40 4 (.bool false) 1 Try.underlying40 Try.info4 rfl .i64 .i64 (widN kind) (by omega) (by omega)
  go_enter Try.func24, Try.ntmps24
  go_wp2_with fail
  refine (width_any kind hk _).mono ?_
  rintro e w1 ⟨rfl, hb1⟩
  have HB1 := Lib.hid hb1
  clear hb1
  clear hu
  go_wp2_with fail
  rw [HU.out]
  refine (split_any _ _ (uN_lt _) hwid.2 _).mono ?_
  rintro e w2 ⟨v, rfl, hown, hb2⟩
  obtain ⟨a5, cap5, rfl, hB5⟩ := bol_of_own hown
  have HB2 := Lib.hid ((HB1.out).trans (hb2.mono HB1.out.size))
  have HB5 := Lib.hid hB5
  rw [splitL_length]
  have hst : (w2.alloc (.cells (madeCells #[.bool false] (widN kind)) 4)).rowIs w2.heap.size 4 (widN kind) (fun c => .bool (decide (((c + (widN kind - u)) % widN kind) < 0) && (tbit (uN n) (widN kind) u) c)) := (World.rowIs_made w2 (.bool false) _ 4).congr (fun c _ => by simp)
  have HST := Lib.hid hst
  clear hown hb2 hB5 hst
  go_wp2_with fail
  go_loopw [11] (fun i wr => ∃ k : Nat, k ≤ widN kind ∧ i = .int .i64 (k : Int) ∧ Hid (wr.rowIs w2.heap.size 4 (widN kind) (fun c => .bool (decide (((c + (widN kind - u)) % widN kind) < k) && (tbit (uN n) (widN kind) u) c)) ∧ Below w2.heap.size w2 wr)) (fun i _ => widN kind - (intOf i).toNat)
  case atStart => exact ⟨0, by omega, rfl, HST.out, (Below.refl _ _).alloc (Nat.le_refl _) _⟩
  case round =>
    obtain ⟨k, hk2, rfl, hI⟩ := hrel
    clear HST kmk
    by_cases hlt : k < widN kind
    · obtain ⟨b2, off2, e2, hck⟩ := (HB5.out.keep hI.out.2).at (k := k) (by rw [splitL_length]; omega)
      have hgd : (splitL (uN n) (widN kind))[k]'(by rw [splitL_length]; omega) = (uN n).testBit k := by simp [splitL]
      rw [hgd] at hck
      subst e2
      obtain ⟨t, htl, ht, e3, hinv, hother⟩ := hrot k hlt
      have hbk : (uN n).testBit k = tbit (uN n) (widN kind) u t := by unfold tbit; rw [hinv]
      have hstep : (wr.setCell ⟨w2.heap.size, t, none⟩ (.bool ((uN n).testBit k))).rowIs w2.heap.size 4 (widN kind) (fun c => .bool (decide ((c + (widN kind - u)) % widN kind < k + 1) && tbit (uN n) (widN kind) u c)) :=
        (hI.out.1.set t _).congr (fun c hc => by
          by_cases e : c = t
          · subst e; rw [if_pos rfl, hbk, decide_eq_true (show (c + (widN kind - u)) % widN kind < k + 1 by omega), Bool.true_and]
          · have := hother c hc e
            rw [if_neg e, show decide ((c + (widN kind - u)) % widN kind < k + 1) = decide ((c + (widN kind - u)) % widN kind < k) from decide_eq_decide.2 (by omega)])
      have HSTEP2 := Lib.hid (show (wr.setCell ⟨w2.heap.size, t, none⟩ (.bool ((uN n).testBit k))).drew.rowIs w2.heap.size 4 (widN kind) (fun c => .bool (decide ((c + (widN kind - u)) % widN kind < k + 1) && tbit (uN n) (widN kind) u c)) from hstep)
      have hBl := Lib.hid (fun v => hI.out.2.setCell (p := ⟨w2.heap.size, t, none⟩) (Nat.le_refl _) v)
      have c0 := hI.out.1.cell htl
      have z0 := hI.out.1.frozen t
      have f0 : ¬ ((widN kind : Int) = 0) := by omega
      have f1 : IntKind.i64.wrap ((k : Int) + r) = (k : Int) + r := by rw [IntKind.wrap_i64]; omega
      have f2 : IntKind.i64.wrap ((k : Int) + r + (widN kind : Int)) = (k : Int) + r + (widN kind : Int) := by rw [IntKind.wrap_i64]; omega
      have f4 : (t : Int) < (widN kind : Int) := by omega
      generalize (uN n).testBit k = bx at *
      have HF0 := Lib.hid f0
      clear hstep hgd hbk ht hinv hother hrot f0
      go_wp2_with fail
      have f0 := HF0.out
      go_region
      all_goals
        go_wp2
        go_roundw
        case rel => exact ⟨k + 1, by omega, by go_num, HSTEP2.out, (hBl.out _).drew⟩
        case measure => simp [intOf]; omega
    · obtain rfl : k = widN kind := by omega
      have hr : wr.rowIs w2.heap.size 4 (widN kind) (fun c => .bool ((tbit (uN n) (widN kind) u) c)) := hI.out.1.congr (fun c hc => by rw [decide_eq_true (show (c + (widN kind - u)) % widN kind < widN kind from Nat.mod_lt _ (by omega)), Bool.true_and])
      have HR := Lib.hid (bol_of_row hr)
      have HB3 := Lib.hid (HB2.out.trans (hI.out.2.mono HB2.out.size))
      clear hr
      go_wp2_with fail
      refine (told_at kind hk _ _ _ _ _ (by simp) HR.out rfl).mono ?_
      rintro e w3 ⟨rfl, hb3⟩
      have HB4 := Lib.hid ((HB3.out).trans (hb3.mono HB3.out.size))
      clear hb3
      go_wp2
      go_ret2
      exact ⟨ret_two HF.out rfl, HB4.out⟩
/-- A bit of what is moved down. -/
def rbit (kind : Int) (X m c : Nat) : Bool := if c + m < widN kind then X.testBit (c + m) else (decide (kind < 4) && X.testBit (widN kind - 1))
theorem right_doc {kind : Int} (hk : 0 ≤ kind ∧ kind ≤ 7) (n : Int) (m : Nat) : fitI kind (whole ((List.range (widN kind)).map (rbit kind (uN n) m)) : Int) = rightI kind n m := by
  have hwid : 8 ≤ widN kind ∧ widN kind ≤ 64 := by rcases wid_le kind with h | h | h | h <;> omega
  obtain ⟨W, hW⟩ : ∃ W, W = uN n % 2 ^ widN kind := ⟨_, rfl⟩
  have hWl : W < 2 ^ widN kind := by rw [hW]; exact Nat.mod_lt _ (Nat.two_pow_pos _)
  have hfW : fitI kind (W : Int) = fitI kind n := by
    rw [← fit_uN (kind := kind) n]; apply fit_ext hk; intro i hi; rw [hW, Nat.testBit_mod_two_pow]; simp [hi]
  have hbit : ∀ i, i < widN kind → (uN n).testBit i = W.testBit i := fun i hi => by rw [hW, Nat.testBit_mod_two_pow]; simp [hi]
  have hdiv : ∀ x : Nat, x < 2 ^ 64 → x / 2 ^ min m 64 = x / 2 ^ m := fun x hx => by
    rcases Nat.le_total m 64 with h | h
    · rw [Nat.min_eq_left h]
    · rw [Nat.min_eq_right h, Nat.div_eq_of_lt hx, Nat.div_eq_of_lt (Nat.lt_of_lt_of_le hx (Nat.pow_le_pow_right (by omega) h))]
  have hle : 2 ^ widN kind ≤ 2 ^ 64 := Nat.pow_le_pow_right (by omega) hwid.2
  by_cases hs : kind < 4 ∧ W.testBit (widN kind - 1) = true
  · -- below 0
    obtain ⟨h4, htop⟩ := hs
    obtain ⟨Z, hZ⟩ : ∃ Z, Z = 2 ^ widN kind - (W + 1) := ⟨_, rfl⟩
    have hzb : ∀ i, i < widN kind → Z.testBit i = !W.testBit i := fun i hi => by rw [hZ, Nat.testBit_two_pow_sub_succ hWl]; simp [hi]
    have e : (List.range (widN kind)).map (rbit kind (uN n) m) = (splitL (Z / 2 ^ m) (widN kind)).map (!·) := by
      unfold splitL; rw [List.map_map]; apply List.map_congr_left
      intro c hc
      have hc' : c < widN kind := by simpa using hc
      simp only [Function.comp, Nat.testBit_div_two_pow]
      unfold rbit
      by_cases h : c + m < widN kind
      · rw [if_pos h, hbit _ h, hzb _ h]; simp
      · rw [if_neg h, hbit _ (by omega), htop, decide_eq_true h4]
        have : Z.testBit (c + m) = false := Nat.testBit_lt_two_pow (Nat.lt_of_lt_of_le (show Z < 2 ^ widN kind by omega) (Nat.pow_le_pow_right (by omega) (by omega)))
        rw [this]; rfl
    have hw1 := whole_not (splitL (Z / 2 ^ m) (widN kind))
    rw [splitL_length] at hw1
    have hZd : Z / 2 ^ m ≤ Z := Nat.div_le_self _ _
    have hw2 : whole (splitL (Z / 2 ^ m) (widN kind)) = Z / 2 ^ m := by
      apply Nat.eq_of_testBit_eq; intro i
      by_cases h : i < widN kind
      · unfold splitL; rw [map_bit _ _ _ h]
      · rw [Nat.testBit_lt_two_pow (Nat.lt_of_lt_of_le (show Z / 2 ^ m < 2 ^ widN kind by omega) (Nat.pow_le_pow_right (by omega) (by omega)))]
        have := whole_lt (splitL (Z / 2 ^ m) (widN kind)); rw [splitL_length] at this
        exact Nat.testBit_lt_two_pow (Nat.lt_of_lt_of_le this (Nat.pow_le_pow_right (by omega) (by omega)))
    have hZ2 : Z < 2 ^ (widN kind - 1) := by
      rw [Nat.testBit_eq_decide_div_mod_eq] at htop
      have h2 : 2 ^ widN kind = 2 * 2 ^ (widN kind - 1) := by rw [← Nat.pow_succ']; congr 1; omega
      have hp := Nat.two_pow_pos (widN kind - 1)
      have h3 : W / 2 ^ (widN kind - 1) % 2 = 1 := by simpa using htop
      have h4 : 2 ^ (widN kind - 1) ≤ W := by
        rcases Nat.lt_or_ge W (2 ^ (widN kind - 1)) with h | h
        · rw [Nat.div_eq_of_lt h] at h3; simp at h3
        · exact h
      omega
    rw [e]
    unfold rightI; rw [if_neg (by omega), ← hfW]
    have hd2 := hdiv Z (by omega)
    have hneg : ∀ (z : Nat) (d : Nat), 0 < d → (-1 - (z : Int)) / (d : Int) = -1 - ((z / d : Nat) : Int) := by
      intro z d hd
      have h1 := Nat.div_add_mod z d
      have h2 := Nat.mod_lt z hd
      have h3 : ((d : Int) * ((z / d : Nat) : Int)) + ((z % d : Nat) : Int) = z := by rw [← Int.natCast_mul, ← Int.natCast_add, h1]
      rw [show (-1 - (z : Int)) = (d - 1 - ((z % d : Nat) : Int)) + (d : Int) * (-1 - ((z / d : Nat) : Int)) by rw [Int.mul_sub]; omega]
      rw [Int.add_mul_ediv_left _ _ (by omega), Int.ediv_eq_zero_of_lt (by omega) (by omega)]; omega
    have hV : fitI kind (W : Int) = -1 - (Z : Int) := by
      rcases kinds hk with rfl | rfl | rfl | rfl | rfl | rfl | rfl | rfl
      all_goals first
        | (exfalso; omega)
        | (simp [widN] at hZ hZ2 hWl; simp only [fitI]; simp; omega)
    have epow : (2 : Int) ^ min m 64 = ((2 ^ min m 64 : Nat) : Int) := by simp
    rw [hV, epow, hneg Z _ (Nat.two_pow_pos _), hd2]
    rw [hw2] at hw1
    generalize whole ((splitL (Z / 2 ^ m) (widN kind)).map (!·)) = Y at *
    generalize Z / 2 ^ m = D at *
    rcases kinds hk with rfl | rfl | rfl | rfl | rfl | rfl | rfl | rfl
    all_goals first
      | (exfalso; omega)
      | (simp [widN] at hZ hZ2 hw1 hWl; simp only [fitI]; simp; omega)
  · have hg : ∀ i, i < widN kind → rbit kind (uN n) m i = (W / 2 ^ m).testBit i := fun i hi => by
      unfold rbit
      rw [Nat.testBit_div_two_pow]
      by_cases h : i + m < widN kind
      · rw [if_pos h, hbit _ h]
      · rw [if_neg h, hbit _ (by omega)]
        rw [Nat.testBit_lt_two_pow (Nat.lt_of_lt_of_le hWl (Nat.pow_le_pow_right (by omega) (show widN kind ≤ i + m by omega)))]
        by_cases h4 : kind < 4
        · have : W.testBit (widN kind - 1) = false := by
            cases hh : W.testBit (widN kind - 1)
            · rfl
            · exact absurd ⟨h4, hh⟩ hs
          rw [this]; simp
        · simp [h4]
    rw [fit_whole hk _ (W / 2 ^ m) hg]
    have hd2 := hdiv W (by omega)
    unfold rightI
    by_cases h7 : kind = 7
    · subst h7
      rw [if_pos rfl]
      have : W = uN n := by rw [hW]; exact Nat.mod_eq_of_lt (uN_lt n)
      rw [← this, hd2]
    · rw [if_neg h7, ← hfW]
      have hle2 : W / 2 ^ m ≤ W := Nat.div_le_self _ _
      have hlow : kind < 4 → W < 2 ^ (widN kind - 1) := fun h4 => by
        have hf : W.testBit (widN kind - 1) = false := by
          cases hh : W.testBit (widN kind - 1)
          · rfl
          · exact absurd ⟨h4, hh⟩ hs
        rw [Nat.testBit_eq_decide_div_mod_eq] at hf
        have h2 : 2 ^ widN kind = 2 * 2 ^ (widN kind - 1) := by rw [← Nat.pow_succ']; congr 1; omega
        have h3 : ¬ (W / 2 ^ (widN kind - 1) % 2 = 1) := by simpa using hf
        have h4 : W / 2 ^ (widN kind - 1) < 2 := Nat.div_lt_of_lt_mul (by omega)
        have h5 : W / 2 ^ (widN kind - 1) = 0 := by generalize W / 2 ^ (widN kind - 1) = z at h3 h4 ⊢; omega
        exact (Nat.div_eq_zero_iff_lt (Nat.two_pow_pos _)).1 h5
      have hself : ∀ y : Nat, y ≤ W → fitI kind (y : Int) = (y : Int) := fun y hy => by
        rcases kinds hk with rfl | rfl | rfl | rfl | rfl | rfl | rfl | rfl
        · have := hlow (by omega); simp [widN] at this; simp only [fitI]; simp; omega
        · have := hlow (by omega); simp [widN] at this; simp only [fitI]; simp; omega
        · have := hlow (by omega); simp [widN] at this; simp only [fitI]; simp; omega
        · have := hlow (by omega); simp [widN] at this; simp only [fitI]; simp; omega
        · simp [widN] at hWl; simp only [fitI]; simp; omega
        · simp [widN] at hWl; simp only [fitI]; simp; omega
        · simp [widN] at hWl; simp only [fitI]; simp; omega
        · exact absurd rfl h7
      rw [hself W (Nat.le_refl _), hself _ hle2, ← hd2, Int.natCast_ediv]; simp

set_option maxRecDepth 100000 in
set_option maxHeartbeats 600000 in
theorem docright_any (kind : Int) (hk : 0 ≤ kind ∧ kind ≤ 7) (n : Int) (m : Nat) (hm : m < 9223372036854775808) (w : World) :
    Calls Try.prog 22 #[.int .i64 kind, .int .i64 n, .int .i64 (m : Int)] w fun e w' => e = .returned (.tuple #[.int .i64 (rightI kind n m), .int .i64 0]) ∧ Below w.heap.size w w' := by
  have hwid : 8 ≤ widN kind ∧ widN kind ≤ 64 := by rcases wid_le kind with h | h | h | h <;> omega
  have h0 : ((widN kind : Int) == 0) = false := by rw [beq_eq_false_iff_ne]; omega
  have HU := Lib.hid (u64_val n)
  have HF : Hid (fitI kind (whole ((List.range (widN kind)).map (rbit kind (uN n) m)) : Int) = rightI kind n m) := Lib.hid (by
    exact right_doc hk n m)
  have kmk := run_make_row' (P := Try.prog) 40 4 (.bool false) 1 Try.underlying40 Try.info4 rfl .i64 .i64 (widN kind) (by omega) (by omega)
  go_enter Try.func22, Try.ntmps22
  go_wp2_with fail
  refine (width_any kind hk _).mono ?_
  rintro e w1 ⟨rfl, hb1⟩
  have HB1 := Lib.hid hb1
  clear hb1
  go_wp2_with fail
  rw [HU.out]
  refine (split_any _ _ (uN_lt _) hwid.2 _).mono ?_
  rintro e w2 ⟨v, rfl, hown, hb2⟩
  obtain ⟨a5, cap5, rfl, hB5⟩ := bol_of_own hown
  have HB2 := Lib.hid ((HB1.out).trans (hb2.mono HB1.out.size))
  have HB5 := Lib.hid hB5
  rw [splitL_length]
  have hst : (w2.alloc (.cells (madeCells #[.bool false] (widN kind)) 4)).rowIs w2.heap.size 4 (widN kind) (fun c => .bool (decide (c < 0) && (rbit kind (uN n) m) c)) := (World.rowIs_made w2 (.bool false) _ 4).congr (fun c _ => by simp)
  have HST := Lib.hid hst
  clear hown hb2 hB5 hst
  go_wp2_with fail
  go_loopw [11] (fun i wr => ∃ k : Nat, k ≤ widN kind ∧ i = .int .i64 (k : Int) ∧ Hid (wr.rowIs w2.heap.size 4 (widN kind) (fun c => .bool (decide (c < k) && (rbit kind (uN n) m) c)) ∧ Below w2.heap.size w2 wr)) (fun i _ => widN kind - (intOf i).toNat)
  case atStart => exact ⟨0, by omega, rfl, HST.out, (Below.refl _ _).alloc (Nat.le_refl _) _⟩
  case round =>
    obtain ⟨k, hk2, rfl, hI⟩ := hrel
    clear HST kmk
    by_cases hlt : k < widN kind
    · obtain ⟨b2, off2, e2, hck⟩ := (HB5.out.keep hI.out.2).at (k := widN kind - 1) (by rw [splitL_length]; omega)
      have hgd : (splitL (uN n) (widN kind))[widN kind - 1]'(by rw [splitL_length]; omega) = (uN n).testBit (widN kind - 1) := by simp [splitL]
      rw [hgd] at hck
      subst e2
      have hstep : ∀ v b, b = rbit kind (uN n) m k → ((wr.setCell ⟨w2.heap.size, k, none⟩ v).setCell ⟨w2.heap.size, k, none⟩ (.bool b)).rowIs w2.heap.size 4 (widN kind) (fun c => .bool (decide (c < k + 1) && rbit kind (uN n) m c)) := fun v b hb =>
        ((hI.out.1.set k v).set k (.bool b)).congr (fun c _ => by
          by_cases e : c = k
          · subst e; rw [if_pos rfl, hb]; simp
          · rw [if_neg e, if_neg e, show decide (c < k + 1) = decide (c < k) from decide_eq_decide.2 (by omega)])
      have hstep1 : ∀ b, b = rbit kind (uN n) m k → (wr.setCell ⟨w2.heap.size, k, none⟩ (.bool b)).rowIs w2.heap.size 4 (widN kind) (fun c => .bool (decide (c < k + 1) && rbit kind (uN n) m c)) := fun b hb =>
        (hI.out.1.set k (.bool b)).congr (fun c _ => by
          by_cases e : c = k
          · subst e; rw [if_pos rfl, hb]; simp
          · rw [if_neg e, show decide (c < k + 1) = decide (c < k) from decide_eq_decide.2 (by omega)])
      have HSTEP := Lib.hid hstep
      have HSTEP1 := Lib.hid hstep1
      have hBl := Lib.hid (fun v => hI.out.2.setCell (p := ⟨w2.heap.size, k, none⟩) (Nat.le_refl _) v)
      have hBl2 := Lib.hid (fun v u => (hI.out.2.setCell (p := ⟨w2.heap.size, k, none⟩) (Nat.le_refl _) v).setCell (p := ⟨w2.heap.size, k, none⟩) (Nat.le_refl _) u)
      have c0 := hI.out.1.cell hlt
      have z0 := hI.out.1.frozen k
      have hb2 : b2 ≠ w2.heap.size := by
        have := HB5.out
        rcases this with h | ⟨b3, o3, e3, h3, _⟩
        · have := splitL_length (uN n) (widN kind); rw [h] at this; simp at this; omega
        · simp at e3; omega
      have hb2' : w2.heap.size ≠ b2 := fun h => hb2 h.symm
      clear hstep hstep1 hgd
      by_cases hc : k + m < widN kind
      · obtain ⟨b4, off4, e4, hck4⟩ := (HB5.out.keep hI.out.2).at (k := k + m) (by rw [splitL_length]; omega)
        have hgd : (splitL (uN n) (widN kind))[k + m]'(by rw [splitL_length]; omega) = (uN n).testBit (k + m) := by simp [splitL]
        rw [hgd] at hck4
        obtain ⟨rfl, rfl⟩ : b2 = b4 ∧ off2 = off4 := by simpa using e4
        have HX : Hid ((uN n).testBit (k + m) = rbit kind (uN n) m k) := Lib.hid (by unfold rbit; rw [if_pos hc])
        have hmw : m < widN kind := by omega
        generalize (uN n).testBit (k + m) = bx at *
        generalize (uN n).testBit (widN kind - 1) = by_ at *
        clear hgd e4
        by_cases h4 : kind < 4
        all_goals
          go_wp2
          go_roundw
          case rel => exact ⟨k + 1, by omega, by go_num, HSTEP.out _ _ HX.out, hBl2.out _ _⟩
          case measure => simp [intOf]; omega
      · have HX : Hid ((decide (kind < 4) && (uN n).testBit (widN kind - 1)) = rbit kind (uN n) m k) := Lib.hid (by unfold rbit; rw [if_neg hc])
        generalize (uN n).testBit (widN kind - 1) = by_ at *
        by_cases h4 : kind < 4
        · have HX2 : Hid (by_ = rbit kind (uN n) m k) := Lib.hid (by rw [← HX.out]; simp [h4])
          by_cases hmw : m < widN kind
          all_goals
            go_wp2
            go_roundw
            case rel => exact ⟨k + 1, by omega, by go_num, HSTEP1.out _ HX2.out, hBl.out _⟩
            case measure => simp [intOf]; omega
        · have HX2 : Hid (false = rbit kind (uN n) m k) := Lib.hid (by rw [← HX.out]; simp [h4])
          by_cases hmw : m < widN kind
          all_goals
            go_wp2
            go_roundw
            case rel => exact ⟨k + 1, by omega, by go_num, HSTEP1.out _ HX2.out, hBl.out _⟩
            case measure => simp [intOf]; omega
    · obtain rfl : k = widN kind := by omega
      have hr : wr.rowIs w2.heap.size 4 (widN kind) (fun c => .bool ((rbit kind (uN n) m) c)) := hI.out.1.congr (fun c hc => by rw [decide_eq_true hc, Bool.true_and])
      have HR := Lib.hid (bol_of_row hr)
      have HB3 := Lib.hid (HB2.out.trans (hI.out.2.mono HB2.out.size))
      clear hr
      go_wp2_with fail
      refine (told_at kind hk _ _ _ _ _ (by simp) HR.out rfl).mono ?_
      rintro e w3 ⟨rfl, hb3⟩
      have HB4 := Lib.hid ((HB3.out).trans (hb3.mono HB3.out.size))
      clear hb3
      go_wp2
      go_ret2
      exact ⟨ret_two HF.out rfl, HB4.out⟩
end Go.Proofs.Ythmllebnhadjkaa
