/-
  The law ConvPieces, walked.
-/
import Derived.Test.YthmllebnhadjkaaConvL3
namespace Go.Proofs.Ythmllebnhadjkaa
open Go.RowKit

theorem quiet_of2 {P : Program} {f : FuncId} {args : Array Value} {w : World} {a n : Nat} {v : Value}
    (h : Calls P f args (w.drewN (a + n)) fun e w' => e = .returned v ∧ ∃ m, w' = (w.drewN (a + n)).drewN m) : Calls P f args (w.drewN (a + n)) fun e w'' => e = .returned v ∧ ∃ m, w'' = w.drewN (a + m) :=
  h.mono fun _ _ ⟨he, m, hm⟩ => ⟨he, n + m, by rw [hm, World.drewN_drewN, Nat.add_assoc]⟩
/-- Where the three pieces begin and end. -/
def edge (p q k : Nat) : Nat := if k = 0 then 0 else if k = 1 then p else if k = 2 then q else 64
def wd (p q k : Nat) : Nat := edge p q (k + 1) - edge p q k
theorem edge_mono {p q k : Nat} (hpq : p ≤ q) (hq : q ≤ 64) (hk : k < 3) : edge p q k + wd p q k = edge p q (k + 1) ∧ edge p q (k + 1) ≤ 64 := by
  unfold wd
  have : k = 0 ∨ k = 1 ∨ k = 2 := by omega
  rcases this with rfl | rfl | rfl <;> simp [edge] <;> omega
def upN (n p q k : Nat) : Nat := n % 2 ^ edge p q k
def dnN (n p q k : Nat) : Nat := n / 2 ^ edge p q (3 - k) * 2 ^ edge p q (3 - k)
theorem up_step (n p q k : Nat) (hn : n < 18446744073709551616) (hpq : p ≤ q) (hq : q ≤ 64) (hk : k < 3) :
    setN (upN n p q k) (edge p q k) (wd p q k) (n / 2 ^ edge p q k % 2 ^ wd p q k) = upN n p q (k + 1) := by
  obtain ⟨h1, h2⟩ := edge_mono hpq hq hk
  have hlt : upN n p q k < 18446744073709551616 := Nat.lt_of_le_of_lt (Nat.mod_le _ _) hn
  apply Nat.eq_of_testBit_eq; intro i
  rw [setN_bit _ _ _ _ hlt (by omega) (Nat.mod_lt _ (Nat.two_pow_pos _))]
  unfold upN
  rw [Nat.testBit_mod_two_pow, Nat.testBit_mod_two_pow, Nat.testBit_mod_two_pow, Nat.testBit_div_two_pow]
  by_cases c : edge p q k ≤ i ∧ i < edge p q k + wd p q k
  · rw [if_pos c, show i - edge p q k + edge p q k = i by omega, decide_eq_true (show i - edge p q k < wd p q k by omega), decide_eq_true (show i < edge p q (k + 1) by omega)]
  · rw [if_neg c]
    by_cases d : i < edge p q k
    · simp [d, show i < edge p q (k + 1) by omega]
    · simp [d, show ¬ i < edge p q (k + 1) by omega]
theorem dn_bit (n e i : Nat) : (n / 2 ^ e * 2 ^ e).testBit i = (decide (e ≤ i) && n.testBit i) := by
  rw [Nat.testBit_mul_two_pow]
  by_cases h : e ≤ i
  · rw [Nat.testBit_div_two_pow, show i - e + e = i by omega]
  · simp [h]
theorem dn_step (n p q k : Nat) (hn : n < 18446744073709551616) (hpq : p ≤ q) (hq : q ≤ 64) (hk : k < 3) :
    setN (dnN n p q k) (edge p q (2 - k)) (wd p q (2 - k)) (n / 2 ^ edge p q (2 - k) % 2 ^ wd p q (2 - k)) = dnN n p q (k + 1) := by
  obtain ⟨h1, h2⟩ := edge_mono hpq hq (show 2 - k < 3 by omega)
  rw [show 2 - k + 1 = 3 - k by omega] at h1 h2
  have hlt : dnN n p q k < 18446744073709551616 := Nat.lt_of_le_of_lt (Nat.div_mul_le_self _ _) hn
  apply Nat.eq_of_testBit_eq; intro i
  rw [setN_bit _ _ _ _ hlt (by omega) (Nat.mod_lt _ (Nat.two_pow_pos _))]
  unfold dnN
  rw [dn_bit, dn_bit, Nat.testBit_mod_two_pow, Nat.testBit_div_two_pow, show 3 - (k + 1) = 2 - k by omega]
  by_cases c : edge p q (2 - k) ≤ i ∧ i < edge p q (2 - k) + wd p q (2 - k)
  · rw [if_pos c, show i - edge p q (2 - k) + edge p q (2 - k) = i by omega, decide_eq_true (show i - edge p q (2 - k) < wd p q (2 - k) by omega), decide_eq_true c.1]
  · rw [if_neg c]
    by_cases d : edge p q (3 - k) ≤ i
    · simp [d, show edge p q (2 - k) ≤ i by omega]
    · simp [d, show ¬ edge p q (2 - k) ≤ i by omega]

theorem tri_cells (w : World) (x0 x1 x2 y0 y1 y2 : Value) (k : Nat) :
    ((w.alloc (.cells #[x0, x1, x2] 3)).alloc (.cells #[y0, y1, y2] 3)).cell? ⟨w.heap.size, k, none⟩ = (#[x0, x1, x2] : Array Value)[k]? ∧
    ((w.alloc (.cells #[x0, x1, x2] 3)).alloc (.cells #[y0, y1, y2] 3)).cell? ⟨w.heap.size + 1, k, none⟩ = (#[y0, y1, y2] : Array Value)[k]? := by
  constructor
  · rw [World.cell?_of_block (a := ⟨w.heap.size, k, none⟩) (w := w.alloc (.cells #[x0, x1, x2] 3)) (Below.heap_alloc _ _ _ (by simp)), World.cell?_alloc_mark]
  · have h2 := World.cell?_alloc_mark (w.alloc (.cells #[x0, x1, x2] 3)) #[y0, y1, y2] 3 (0, 0) k
    rwa [show (w.alloc (.cells #[x0, x1, x2] 3)).heap.size = w.heap.size + 1 by simp] at h2
/-- The places and the widths lie in memory. -/
def Pcs (w : World) (p q : Nat) (wr : World) : Prop :=
  (∀ k, k < 3 → wr.cell? ⟨w.heap.size, k, none⟩ = some (.int .i64 (edge p q k : Int))) ∧ (∀ k, k < 3 → wr.cell? ⟨w.heap.size + 1, k, none⟩ = some (.int .i64 (wd p q k : Int))) ∧ Below w.heap.size w wr
theorem pcs_start (w : World) (p q : Nat) (x1 x2 y0 y1 y2 : Int) (h1 : x1 = p) (h2 : x2 = q) (h3 : y0 = p) (h4 : y1 = (wd p q 1 : Nat)) (h5 : y2 = (wd p q 2 : Nat)) :
    Pcs w p q ((w.alloc (.cells #[.int .i64 0, .int .i64 x1, .int .i64 x2] 3)).alloc (.cells #[.int .i64 y0, .int .i64 y1, .int .i64 y2] 3)) := by
  refine ⟨fun k hk => ?_, fun k hk => ?_, ((Below.refl _ _).alloc (Nat.le_refl _) _).alloc (by simp) _⟩
  · rw [(tri_cells w _ _ _ _ _ _ k).1]
    have : k = 0 ∨ k = 1 ∨ k = 2 := by omega
    rcases this with rfl | rfl | rfl
    · rfl
    · subst h1; rfl
    · subst h2; rfl
  · rw [(tri_cells w _ _ _ _ _ _ k).2]
    have : k = 0 ∨ k = 1 ∨ k = 2 := by omega
    rcases this with rfl | rfl | rfl
    · subst h3; show some (Value.int .i64 (p : Int)) = _; simp [wd, edge]
    · subst h4; rfl
    · subst h5; rfl

namespace convPieces
set_option maxRecDepth 100000 in
set_option maxHeartbeats 1600000 in
theorem walk (a0 a1 a2 : Int) (w0 : (Lit.int .u64 a0).wf = true) (_w1 : (Lit.int .i64 a1).wf = true) (_w2 : (Lit.int .i64 a2).wf = true) (w : World) :
    Calls Try.prog 10 #[.int .u64 a0, .int .i64 a1, .int .i64 a2] w fun e w' => e = .returned (.bool true) ∧ Below w.heap.size w w' := by
  obtain ⟨n, rfl, hn⟩ := wf_u64 w0
  clear w0
  obtain ⟨p, q, hpq, hq, hij⟩ : ∃ p q : Nat, p ≤ q ∧ q ≤ 64 ∧
      ((wrap64 ((IntKind.u64.wrap a1).tmod 65) = (p : Int) ∧ wrap64 ((IntKind.u64.wrap a2).tmod 65) = (q : Int)) ∨
       (wrap64 ((IntKind.u64.wrap a1).tmod 65) = (q : Int) ∧ wrap64 ((IntKind.u64.wrap a2).tmod 65) = (p : Int) ∧ p < q)) := by
    obtain ⟨x, x0, x1, ex⟩ := modK a1 65 (by omega) (by omega)
    obtain ⟨y, y0, y1, ey⟩ := modK a2 65 (by omega) (by omega)
    rcases Int.lt_or_le y x with h | h
    · exact ⟨y.toNat, x.toNat, by omega, by omega, .inr ⟨by rw [ex]; omega, by rw [ey]; omega, by omega⟩⟩
    · exact ⟨x.toNat, y.toNat, by omega, by omega, .inl ⟨by rw [ex]; omega, by rw [ey]; omega⟩⟩
  rcases Nat.lt_or_ge p q with hlt | hge
  · rcases hij with ⟨ei, ej⟩ | ⟨ei, ej, _⟩
    all_goals
      go_enter Try.func10, Try.ntmps10
      go_wp2_with fail
      refine (wraps_any _).mono ?_
      rintro e w' ⟨rfl, rfl⟩
      go_wp2_with fail
      clear ei ej
      go_loopw [9, 10, 11] (fun u d i wr => ∃ k : Nat, k ≤ 3 ∧ u = .int .u64 (upN n p q k : Int) ∧ d = .int .u64 (dnN n p q k : Int) ∧ i = .int .i64 (k : Int) ∧ Hid (Pcs w p q wr)) (fun _ _ i _ => 3 - (intOf i).toNat)
      case atStart => exact ⟨0, by omega, by simp [upN, edge, Nat.mod_one], by simp [dnN, edge]; omega, rfl, pcs_start w p q _ _ _ _ _ (by omega) (by omega) (by omega) (by simp [wd, edge] <;> omega) (by simp [wd, edge] <;> omega)⟩
      case round =>
        obtain ⟨k, hk, rfl, rfl, rfl, hI⟩ := hrel
        by_cases hk3 : k < 3
        · have c1 := hI.out.1 k hk3
          have c2 := hI.out.2.1 k hk3
          have c3 := hI.out.1 (2 - k) (by omega)
          have c4 := hI.out.2.1 (2 - k) (by omega)
          have US := Lib.hid (up_step n p q k hn hpq hq hk3)
          have DS := Lib.hid (dn_step n p q k hn hpq hq hk3)
          have E1 := edge_mono hpq hq hk3
          have E2 := edge_mono hpq hq (show 2 - k < 3 by omega)
          have g1 : edge p q k + wd p q k ≤ 64 := by omega
          have g2 : edge p q (2 - k) + wd p q (2 - k) ≤ 64 := by omega
          have u1 : upN n p q k < 18446744073709551616 := Nat.lt_of_le_of_lt (Nat.mod_le _ _) hn
          have u2 : dnN n p q k < 18446744073709551616 := Nat.lt_of_le_of_lt (Nat.div_mul_le_self _ _) hn
          have t1 : n / 2 ^ edge p q k % 2 ^ wd p q k < 2 ^ wd p q k := Nat.mod_lt _ (Nat.two_pow_pos _)
          have t2 : n / 2 ^ edge p q (2 - k) % 2 ^ wd p q (2 - k) < 2 ^ wd p q (2 - k) := Nat.mod_lt _ (Nat.two_pow_pos _)
          have G1 := Lib.hid (fun wx => get_any n _ _ hn g1 wx)
          have G2 := Lib.hid (fun wx => get_any n _ _ hn g2 wx)
          have S1 := Lib.hid (fun wx => set_any (upN n p q k) _ _ _ u1 g1 t1 wx)
          have S2 := Lib.hid (fun wx => set_any (dnN n p q k) _ _ _ u2 g2 t2 wx)
          rw [US.out] at S1
          rw [DS.out] at S2
          generalize n / 2 ^ edge p q k % 2 ^ wd p q k = va at *
          generalize n / 2 ^ edge p q (2 - k) % 2 ^ wd p q (2 - k) = vb at *
          have hkk : (2 : Int) - (k : Int) = ((2 - k : Nat) : Int) := by omega
          have hkl : 2 - k < 3 := by omega
          generalize 2 - k = kk at *
          generalize edge p q k = ek at *
          generalize wd p q k = wk at *
          generalize edge p q kk = ekk at *
          generalize wd p q kk = wkk at *
          generalize upN n p q k = uk at *
          generalize dnN n p q k = dk at *
          have i1 : (k : Int) < 3 := by omega
          have i2 : (kk : Int) < 3 := by omega
          clear E1 E2 g1 g2 u1 u2 t1 t2 US DS
          go_wp2_with fail
          go_quiet ((go_at_call 27; exact Calls.quiet_of (G1.out _)))
          go_wp2_with fail
          go_quiet ((go_at_call 27; exact quiet_of2 (G2.out _)))
          go_wp2_with fail
          go_quiet ((go_at_call 29; exact quiet_of2 (S1.out _)))
          go_wp2_with fail
          go_quiet ((go_at_call 29; exact quiet_of2 (S2.out _)))
          go_wp2
          go_roundw
          case rel => exact ⟨k + 1, by omega, rfl, rfl, by go_num, (fun j hj => (World.cell?_drewN _ _ _).trans (hI.out.1 j hj)), (fun j hj => (World.cell?_drewN _ _ _).trans (hI.out.2.1 j hj)), hI.out.2.2.trans (below_drewN _ _ _)⟩
          case measure => simp [intOf]; omega
        · obtain rfl : k = 3 := by omega
          have HE : Hid (upN n p q 3 = n ∧ dnN n p q 3 = n) := Lib.hid ⟨by simp [upN, edge]; omega, by simp [dnN, edge]⟩
          rw [HE.out.1, HE.out.2]
          go_wp2
          go_ret
          exact ⟨rfl, hI.out.2.2⟩
  · obtain rfl : p = q := by omega
    rcases hij with ⟨ei, ej⟩ | ⟨ei, ej, h0⟩
    rotate_left
    · omega
    go_enter Try.func10, Try.ntmps10
    go_wp2_with fail
    refine (wraps_any _).mono ?_
    rintro e w' ⟨rfl, rfl⟩
    go_wp2_with fail
    clear ei ej
    go_loopw [9, 10, 11] (fun u d i wr => ∃ k : Nat, k ≤ 3 ∧ u = .int .u64 (upN n p p k : Int) ∧ d = .int .u64 (dnN n p p k : Int) ∧ i = .int .i64 (k : Int) ∧ Hid (Pcs w p p wr)) (fun _ _ i _ => 3 - (intOf i).toNat)
    case atStart => exact ⟨0, by omega, by simp [upN, edge, Nat.mod_one], by simp [dnN, edge]; omega, rfl, pcs_start w p p _ _ _ _ _ (by omega) (by omega) (by omega) (by simp [wd, edge] <;> omega) (by simp [wd, edge] <;> omega)⟩
    case round =>
      obtain ⟨k, hk, rfl, rfl, rfl, hI⟩ := hrel
      by_cases hk3 : k < 3
      · have c1 := hI.out.1 k hk3
        have c2 := hI.out.2.1 k hk3
        have c3 := hI.out.1 (2 - k) (by omega)
        have c4 := hI.out.2.1 (2 - k) (by omega)
        have US := Lib.hid (up_step n p p k hn hpq hq hk3)
        have DS := Lib.hid (dn_step n p p k hn hpq hq hk3)
        have E1 := edge_mono hpq hq hk3
        have E2 := edge_mono hpq hq (show 2 - k < 3 by omega)
        have g1 : edge p p k + wd p p k ≤ 64 := by omega
        have g2 : edge p p (2 - k) + wd p p (2 - k) ≤ 64 := by omega
        have u1 : upN n p p k < 18446744073709551616 := Nat.lt_of_le_of_lt (Nat.mod_le _ _) hn
        have u2 : dnN n p p k < 18446744073709551616 := Nat.lt_of_le_of_lt (Nat.div_mul_le_self _ _) hn
        have t1 : n / 2 ^ edge p p k % 2 ^ wd p p k < 2 ^ wd p p k := Nat.mod_lt _ (Nat.two_pow_pos _)
        have t2 : n / 2 ^ edge p p (2 - k) % 2 ^ wd p p (2 - k) < 2 ^ wd p p (2 - k) := Nat.mod_lt _ (Nat.two_pow_pos _)
        have G1 := Lib.hid (fun wx => get_any n _ _ hn g1 wx)
        have G2 := Lib.hid (fun wx => get_any n _ _ hn g2 wx)
        have S1 := Lib.hid (fun wx => set_any (upN n p p k) _ _ _ u1 g1 t1 wx)
        have S2 := Lib.hid (fun wx => set_any (dnN n p p k) _ _ _ u2 g2 t2 wx)
        rw [US.out] at S1
        rw [DS.out] at S2
        generalize n / 2 ^ edge p p k % 2 ^ wd p p k = va at *
        generalize n / 2 ^ edge p p (2 - k) % 2 ^ wd p p (2 - k) = vb at *
        have hkk : (2 : Int) - (k : Int) = ((2 - k : Nat) : Int) := by omega
        have hkl : 2 - k < 3 := by omega
        generalize 2 - k = kk at *
        generalize edge p p k = ek at *
        generalize wd p p k = wk at *
        generalize edge p p kk = ekk at *
        generalize wd p p kk = wkk at *
        generalize upN n p p k = uk at *
        generalize dnN n p p k = dk at *
        have i1 : (k : Int) < 3 := by omega
        have i2 : (kk : Int) < 3 := by omega
        clear E1 E2 g1 g2 u1 u2 t1 t2 US DS
        go_wp2_with fail
        go_quiet ((go_at_call 27; exact Calls.quiet_of (G1.out _)))
        go_wp2_with fail
        go_quiet ((go_at_call 27; exact quiet_of2 (G2.out _)))
        go_wp2_with fail
        go_quiet ((go_at_call 29; exact quiet_of2 (S1.out _)))
        go_wp2_with fail
        go_quiet ((go_at_call 29; exact quiet_of2 (S2.out _)))
        go_wp2
        go_roundw
        case rel => exact ⟨k + 1, by omega, rfl, rfl, by go_num, (fun j hj => (World.cell?_drewN _ _ _).trans (hI.out.1 j hj)), (fun j hj => (World.cell?_drewN _ _ _).trans (hI.out.2.1 j hj)), hI.out.2.2.trans (below_drewN _ _ _)⟩
        case measure => simp [intOf]; omega
      · obtain rfl : k = 3 := by omega
        have HE : Hid (upN n p p 3 = n ∧ dnN n p p 3 = n) := Lib.hid ⟨by simp [upN, edge]; omega, by simp [dnN, edge]⟩
        rw [HE.out.1, HE.out.2]
        go_wp2
        go_ret
        exact ⟨rfl, hI.out.2.2⟩
end convPieces
end Go.Proofs.Ythmllebnhadjkaa
