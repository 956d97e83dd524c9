/-
  The law AssartNumbers, walked.
-/
import Derived.Test.YtjdnjobaoiecoaaTopP
import Derived.Test.YtjdnjobaoiecoaaCvConvW2
import Derived.Test.YtjdnjobaoiecoaaIkIkW2
import Derived.Test.YtjdnjobaoiecoaaCrCrcW1
import Derived.Test.YtjdnjobaoiecoaaVaVarFix
namespace Go.Proofs.Ytjdnjobaoiecoaa
open Go.RowKit

theorem FreshU.slice {w w' : World} {l : List Nat} {e : Ending} (h : FreshU w l e w') (_hb : ∀ x ∈ l, x < 256) : ∃ a cap, e = .returned (.slice a l.length cap) ∧ Byt w' a l ∧ (a = none → l = []) ∧ l.length ≤ cap ∧ Below w.heap.size w w' := by
  obtain ⟨v, rfl, ho, hbel⟩ := h
  obtain ⟨a, cap, rfl, h1, h2, h3⟩ := byt_of_own ho
  exact ⟨a, cap, rfl, h1, h2, h3, hbel⟩
set_option maxRecDepth 100000 in
theorem awake_any (w : World) : Calls Try.prog 5 #[] w fun e w' => e = .returned (.bool true) ∧ Below w.heap.size w w' := by
  have hp : putL 300 = [172, 2] := by rw [putL_ge (by omega), putL_lt (by omega)]
  have HP := Lib.hid (Put_any w 300 (by omega))
  rw [hp] at HP
  go_enter Try.func5, Try.ntmps5
  go_wp2_with fail
  refine HP.out.mono ?_
  rintro e W1 hf
  obtain ⟨a, cap, rfl, hby, hno, hcap, hb1⟩ := hf.slice (by intro x hx; simp at hx; omega)
  have hcv := conv_bytes hby (by intro x hx; simp at hx; omega) hno cap 2 rfl
  have hs : strOf [172, 2] = ⟨#[172, 2]⟩ := rfl
  rw [hs] at hcv
  have HB := Lib.hid hb1
  clear hby hno hb1
  go_wp2
  go_ret
  exact ⟨rfl, HB.out⟩
theorem modM (x : Int) (n : Nat) (hp : 0 < n) (hb : n ≤ 9223372036854775807) : ∃ k : Nat, k < n ∧ wrap64 ((IntKind.u64.wrap x).tmod (n : Int)) = (k : Int) := by
  have h0 : 0 ≤ IntKind.u64.wrap x := by rw [u64_val]; omega
  rw [Int.tmod_eq_emod_of_nonneg h0]
  generalize IntKind.u64.wrap x = y at h0
  have h1 := Int.emod_nonneg y (show ((n : Nat) : Int) ≠ 0 by omega)
  have h2 := Int.emod_lt_of_pos y (show (0 : Int) < ((n : Nat) : Int) by omega)
  refine ⟨(y % ((n : Nat) : Int)).toNat, by omega, ?_⟩
  generalize y % ((n : Nat) : Int) = z at *
  unfold wrap64; omega
theorem run_part_one {w : World} {a : Option Addr} (len cap : Nat) (hp : 1 ≤ len) (_hl : len ≤ cap) :
    (Instr.slice 27 (.slice a len cap) (some (.int .i64 1)) none none).run Try.prog w = .ok (.slice (part a cap 1) (len - 1) (cap - 1)) w := by
  have hel : Try.prog.elem 27 = 5 := by kernel_rfl
  have h := run_slice_l (P := Try.prog) w 27 a len cap (by rw [hel]; exact Try.underlying27) .i64 1 (by omega) (by omega)
  rw [hel] at h
  refine Eq.trans h ?_
  simp [go_sem, sliced, part]
theorem byt_from1 {w : World} {a : Option Addr} {x : Nat} {l : List Nat} (h : Byt w a (x :: l)) (cap : Nat) (hc : (x :: l).length ≤ cap) (hl : l ≠ []) : Byt w (part a cap 1) l := by
  rcases h with h | ⟨b, off, rfl, hlt, hcl⟩
  · cases h
  · have hne : ¬ cap = 1 := by
      have : 0 < l.length := List.length_pos_iff.2 hl
      simp at hc; omega
    refine .inr ⟨b, off + 1, ?_, hlt, fun i hi => ?_⟩
    · unfold part; rw [if_neg hne]; simp [addr_add]
    · have := hcl (1 + i) (by simp; omega)
      rw [Nat.add_assoc, this]
      simp [Nat.add_comm 1 i]
namespace assartNumbers
set_option maxRecDepth 100000 in
set_option maxHeartbeats 4000000 in
theorem walk (a0 a1 a2 : Int) (W : World) (w0 : (Lit.int .i64 a0).wf = true) (_w1 : (Lit.int .i64 a1).wf = true) (w2 : (Lit.int .u32 a2).wf = true) :
    Calls Try.prog 4 #[.int .i64 a0, .int .i64 a1, .int .u32 a2] W fun e w' => e = .returned (.bool true) ∧ Below W.heap.size W w' := by
  obtain ⟨sm, rfl, hsm⟩ : ∃ n : Nat, a2 = (n : Int) ∧ n < 4294967296 := by
    simp [Lit.wf, IntKind.min, IntKind.max, IntKind.signed, IntKind.bits] at w2; exact ⟨a2.toNat, by omega, by omega⟩
  have hwf := wf_i64 w0
  obtain ⟨q, hq8, hqe⟩ := modM a1 8 (by omega) (by omega)
  have hqe' : wrap64 ((IntKind.u64.wrap a1).tmod 8) = (q : Int) := hqe
  obtain ⟨N, hN⟩ : ∃ N, CV.uN a0 = N := ⟨_, rfl⟩
  have hNl : N < 18446744073709551616 := by rw [← hN]; exact CV.uN_lt a0
  have hu1 : IntKind.u64.wrap a0 = (N : Int) := by rw [CV.u64_val, hN]
  -- the bits that are got
  have hg := fun wx => CV.get_any N 0 (8 * (q + 1)) hNl (by omega) wx
  obtain ⟨low, hlow⟩ : ∃ low, N / 2 ^ 0 % 2 ^ (8 * (q + 1)) = low := ⟨_, rfl⟩
  have hll : low < 2 ^ (8 * (q + 1)) := by rw [← hlow]; exact Nat.mod_lt _ (Nat.two_pow_pos _)
  have hl64 : low < 18446744073709551616 := Nat.lt_of_lt_of_le hll (show 2 ^ (8 * (q + 1)) ≤ 2 ^ 64 from Nat.pow_le_pow_right (by omega) (by omega))
  rw [hlow, show ((8 * (q + 1) : Nat) : Int) = 8 * (1 + (q : Int)) by omega, show ((0 : Nat) : Int) = 0 from rfl] at hg
  have hfx := fun wx => fixed_any low (q + 1) (by omega) hll wx
  rw [show ((q + 1 : Nat) : Int) = 1 + (q : Int) by omega] at hfx
  have hwv : acc8 (fixL low (q + 1)) (q + 1) = low := by rw [acc_fix _ _ _ (Nat.le_refl _)]; exact Nat.mod_eq_of_lt hll
  have hgs : getS (putL low) = (low, (putL low).length, 0) := by
    have := getS_put low [] hl64
    rwa [List.append_nil] at this
  have HG := Lib.hid hg
  have HFX := Lib.hid hfx
  have HWV := Lib.hid hwv
  have HGS := Lib.hid hgs
  have HLL := Lib.hid hll
  have HAW := Lib.hid (awake_any W)
  clear hg hfx hwv hgs hll hlow w0 w2 hqe hN
  go_enter Try.func4, Try.ntmps4
  go_wp2_with fail
  refine HAW.out.mono ?_
  rintro e W1 ⟨rfl, b1⟩
  have HB1 := Lib.hid b1
  have s1 := b1.size
  clear b1 HAW
  go_wp2_with fail
  refine (HG.out _).mono ?_
  rintro e W2 ⟨rfl, nq, rfl⟩
  have HB2 := Lib.hid (HB1.out.trans (below_drewN _ _ nq))
  generalize W1.drewN nq = W2 at *
  have s2 := HB2.out.size
  go_wp2_with fail
  refine (HFX.out _).mono ?_
  rintro e W3 ⟨a3, c3, rfl, y3, n3, b3⟩
  rw [fixL_length]
  have HB3 := Lib.hid (HB2.out.trans (b3.mono s2))
  have s3 := HB3.out.size
  have HW3 := Lib.hid (whole_any W3 a3 c3 (q + 1) (fixL low (q + 1)) (fixL_length _ _) y3 (fixL_byte _ _) (by omega))
  rw [HWV.out] at HW3
  clear y3 n3 b3
  go_wp2_with fail
  refine HW3.out.mono ?_
  rintro e w' ⟨rfl, rfl⟩
  have HP := Lib.hid (Put_any W3 low hl64)
  go_wp2_with fail
  refine HP.out.mono ?_
  rintro e W4 hf
  obtain ⟨a4, c4, rfl, y4, n4, hc4, b4⟩ := hf.slice (putL_byte low)
  have HB4 := Lib.hid (HB3.out.trans (b4.mono s3))
  have s4 := HB4.out.size
  have hpl := (putL_len10 low hl64).1
  have hga := get_at W4 a4 c4 (putL low).length (putL low) rfl y4 (putL_byte low) hc4 (by unfold maxLen; omega)
  rw [HGS.out] at hga
  unfold tup at hga
  have HGA := Lib.hid hga
  clear hf y4 n4 hc4 b4 hga HP HW3 hpl
  generalize (putL low).length = pl at *
  go_wp2_with fail
  refine HGA.out.mono ?_
  rintro e w' ⟨rfl, rfl⟩
  -- the bytes the other way round
  have hsw := CV.swap_any 7 (by omega) a0 W4
  obtain ⟨SW, hSW⟩ : ∃ SW, CV.swp (CV.uN a0) 8 = SW := ⟨_, rfl⟩
  rw [show CV.widN 7 / 8 = 8 from rfl, hSW] at hsw
  have hSWl : SW < 18446744073709551616 := by rw [← hSW]; exact CV.swp_lt _ 8
  obtain ⟨sv, hsv⟩ : ∃ sv, CV.fitI 7 (SW : Int) = sv := ⟨_, rfl⟩
  have hsvr : -9223372036854775808 ≤ sv ∧ sv ≤ 9223372036854775807 := by rw [← hsv]; exact CV.fit_range _
  have hu2 : IntKind.u64.wrap sv = (SW : Int) := by
    rw [u64_val, ← hsv]; unfold CV.fitI; simp; omega
  rw [hsv] at hsw
  have HSW := Lib.hid hsw
  have HSB : Hid (∀ i, i < 8 → SW / 2 ^ (8 * (7 - i)) % 256 = N / 2 ^ (8 * i) % 256) := Lib.hid (fun i hi => by
    rw [← hSW, swp_byte _ i hi]
    have : CV.uN a0 = N := by have := CV.u64_val a0; omega
    rw [this])
  have HF5 := Lib.hid (fun wx => fixed_any N 8 (by omega) hNl wx)
  have HF6 := Lib.hid (fun wx => fixed_any SW 8 (by omega) hSWl wx)
  clear hsw hSW hsv HG HFX HWV HGS HLL HGA hqe'
  go_wp2_with fail
  refine HSW.out.mono ?_
  rintro e w' ⟨rfl, rfl⟩
  go_wp2_with fail
  refine (HF5.out _).mono ?_
  rintro e W5 ⟨a5, c5, rfl, y5, n5, b5⟩
  rw [fixL_length]
  have HB5 := Lib.hid (HB4.out.trans (b5.mono s4))
  have s5 := HB5.out.size
  go_wp2_with fail
  refine (HF6.out _).mono ?_
  rintro e W6 ⟨a6, c6, rfl, y6, n6, b6⟩
  rw [fixL_length]
  have HB6 := Lib.hid (HB5.out.trans (b6.mono s5))
  have s6 := HB6.out.size
  have HY5 := Lib.hid (y5.keep b6)
  have HY6 := Lib.hid y6
  clear y5 n5 b5 y6 n6 b6 HF5 HF6 HSW
  go_wp2_with fail
  go_loopw [19] (fun u wr => ∃ i : Nat, u = .int .i64 (i : Int) ∧ i ≤ 8 ∧ Below W6.heap.size W6 wr) (fun u _ => 8 - (intOf u).toNat)
  case atStart => exact ⟨0, rfl, by omega, Below.refl _ _⟩
  case round =>
    obtain ⟨i, rfl, hi, hbel⟩ := hrel
    have HBL := Lib.hid hbel
    have y5 := HY5.out.keep hbel
    have y6 := HY6.out.keep hbel
    clear hbel
    by_cases hlt : i < 8
    · obtain ⟨b5, o5, rfl, q5⟩ := y5.at (k := i) (by rw [fixL_length]; exact hlt)
      obtain ⟨b6, o6, rfl, q6⟩ := y6.at (k := 7 - i) (by rw [fixL_length]; omega)
      have v5 : (fixL N 8)[i]'(by rw [fixL_length]; exact hlt) = N / 2 ^ (8 * i) % 256 := by simp [fixL]
      have v6 : (fixL SW 8)[7 - i]'(by rw [fixL_length]; omega) = N / 2 ^ (8 * i) % 256 := by
        rw [← HSB.out i hlt]; simp [fixL]
      rw [v5] at q5
      rw [v6] at q6
      obtain ⟨x, hx⟩ : ∃ x, N / 2 ^ (8 * i) % 256 = x := ⟨_, rfl⟩
      rw [hx] at q5 q6
      obtain ⟨j, hj⟩ : ∃ j, 7 - i = j := ⟨_, rfl⟩
      rw [hj] at q6
      have hjI : 7 - (i : Int) = (j : Int) := by omega
      have hjW : IntKind.i64.wrap (7 - (i : Int)) = (j : Int) := by rw [IntKind.wrap_i64]; omega
      have hj8 : j < 8 := by omega
      clear v5 v6 hx hj y5 y6
      go_wp2_with fail
      go_quiet (fail)
      go_wp2
      go_roundw
      case rel => exact ⟨i + 1, by go_num, by omega, HBL.out.trans (below_drewN _ _ _)⟩
      case measure => simp [intOf]; omega
    · have HB7 := Lib.hid (HB6.out.trans (HBL.out.mono s6))
      have s7 := HB7.out.size
      clear y5 y6 HY5 HY6 HBL HSB
      -- a version
      have hg := fun wx => CV.get_any N 0 56 hNl (by omega) wx
      obtain ⟨sq, hsq⟩ : ∃ sq, N / 2 ^ 0 % 2 ^ 56 = sq := ⟨_, rfl⟩
      have hsql : sq ≤ 72057594037927935 := by rw [← hsq]; have := Nat.mod_lt (N / 2 ^ 0) (show 0 < 2 ^ 56 by decide); omega
      rw [hsq, show ((0 : Nat) : Int) = 0 from rfl, show ((56 : Nat) : Int) = 56 from rfl] at hg
      have hok : IK.okV ⟨#[107]⟩ (sq : Int) 1 := ⟨by decide, by decide, by omega, by omega, .inr rfl⟩
      have hen := fun wx => IK.encode_any ⟨#[107]⟩ (sq : Int) 1 wx
      rw [show IK.encR ⟨#[107]⟩ (sq : Int) 1 = IK.encL ⟨#[107]⟩ (sq : Int) 1 from if_pos hok, IK.chk_yes hok] at hen
      obtain ⟨M, hM⟩ : ∃ M, IK.markN (sq : Int) 1 = M := ⟨_, rfl⟩
      have hMv : M = sq * 256 + 1 := by rw [← hM]; unfold IK.markN; omega
      have hel : IK.encL ⟨#[107]⟩ (sq : Int) 1 = 107 :: fixL M 8 := by unfold IK.encL; rw [hM]; rfl
      rw [hel] at hen
      have hM64 : M < 18446744073709551616 := by omega
      have hwm : acc8 (fixL M 8) 8 = M := by rw [acc_fix _ _ _ (Nat.le_refl _)]; exact Nat.mod_eq_of_lt hM64
      have HG := Lib.hid hg
      have HEN := Lib.hid hen
      have HWM := Lib.hid hwm
      have HMV := Lib.hid hMv
      clear hg hsq hok hen hM hMv hel hwm
      go_wp2_with fail
      refine (HG.out _).mono ?_
      rintro e W7 ⟨rfl, nq, rfl⟩
      have HB8 := Lib.hid (HB7.out.trans (below_drewN _ _ nq))
      generalize wr.drewN nq = W7 at *
      have s8 := HB8.out.size
      go_wp2_with fail
      refine (HEN.out _).mono ?_
      rintro e W8 ⟨a8, c8, rfl, y8, n8, hc8, b8⟩
      rw [show (107 :: fixL M 8).length = 9 by rw [List.length_cons, fixL_length]] at hc8 ⊢
      have y8' : Byt W8 a8 (107 :: fixL M 8) := y8
      have y9 := byt_from1 y8' c8 (by rw [List.length_cons, fixL_length]; exact hc8) (fun h => by have := congrArg List.length h; rw [fixL_length] at this; cases this)
      have HW9 := Lib.hid (whole_any W8 (part a8 c8 1) (c8 - 1) 8 (fixL M 8) (fixL_length _ _) y9 (fixL_byte _ _) (by omega))
      rw [HWM.out] at HW9
      have hsl := fun wx => run_part_one (w := wx) (a := a8) 9 c8 (by omega) hc8
      have HB9 := Lib.hid (HB8.out.trans (b8.mono s8))
      have s9 := HB9.out.size
      clear y8 y8' y9 n8 b8 HG HEN HWM
      go_wp2_with fail
      refine HW9.out.mono ?_
      rintro e w' ⟨rfl, rfl⟩
      -- a mask
      have htu := fun wx => CV.turn_any 6 (by omega) (sm : Int) (-15) wx
      obtain ⟨r, hr⟩ : ∃ r, CV.turnI 6 (sm : Int) (-15) = r := ⟨_, rfl⟩
      have hms := mask_sum sm hsm
      have hrb : 0 ≤ r ∧ r < 4294967296 := by rw [← hr, turn_mask sm hsm]; omega
      rw [hr] at htu hms
      have hwr := fun wx => CV.wrap_any 6 (by omega) (r + 2726488792) wx
      obtain ⟨mk, hmk⟩ : ∃ mk, (sm % 32768 * 131072 + sm / 32768 + 2726488792) % 4294967296 = mk := ⟨_, rfl⟩
      have hmkl : mk < 4294967296 := by rw [← hmk]; exact Nat.mod_lt _ (by omega)
      have hmask := fun wx => CR.mask_any sm hsm wx
      have hmv : CR.maskN sm = mk := hmk
      rw [hmv] at hmask
      rw [hmk] at hms
      rw [hms] at hwr
      have HTU := Lib.hid htu
      have HWR := Lib.hid hwr
      have HMA := Lib.hid hmask
      clear htu hr hms hwr hmk hmask hmv
      go_wp2_with fail
      refine (HTU.out _).mono ?_
      rintro e Wt ⟨rfl, nt, rfl⟩
      have HB10 := Lib.hid (HB9.out.trans (below_drewN _ _ nt))
      generalize W8.drewN nt = W10 at *
      go_wp2_with fail
      refine (HWR.out _).mono ?_
      rintro e w' ⟨rfl, rfl⟩
      have hMq : ((M : Int) == (sq : Int) * 256 + 1) = true := by rw [beq_iff_eq, HMV.out]; push_cast; rfl
      go_wp2_with fail
      refine (HMA.out _).mono ?_
      rintro e w' ⟨rfl, rfl⟩
      go_wp2
      go_ret
      exact ⟨rfl, HB10.out⟩
end assartNumbers
end Go.Proofs.Ytjdnjobaoiecoaa
