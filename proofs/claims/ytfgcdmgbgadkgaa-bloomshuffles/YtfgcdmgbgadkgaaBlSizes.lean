/-
  The law BloomSizes, walked.
-/
import Derived.Test.YtfgcdmgbgadkgaaBlFrame
namespace Go.Proofs.Ytfgcdmgbgadkgaa
open Go.RowKit

def bitsOf (b : Int) : Nat := 1 + (b % 64).toNat
theorem bitsOf_le (b : Int) : 1 ≤ bitsOf b ∧ bitsOf b ≤ 64 := by unfold bitsOf; omega
theorem bits_val (b : Int) : 1 + wrap64 ((IntKind.u64.wrap b).tmod 64) = (bitsOf b : Int) := by
  have h : (IntKind.u64.wrap b).tmod 64 = b % 64 := by
    rw [u64_val, Int.tmod_eq_emod_of_nonneg (by omega)]; omega
  rw [h]; unfold bitsOf wrap64; omega
theorem and_pred (b : Nat) (hb : b < 256) (h0 : 0 < b) : bits .and .u8 (b : Int) ((b : Int) - 1) = ((b &&& (b - 1) : Nat) : Int) := by
  rw [show (b : Int) - 1 = ((b - 1 : Nat) : Int) by omega]
  show IntKind.u8.wrap ((BitVec.ofInt 8 (b : Int) &&& BitVec.ofInt 8 ((b - 1 : Nat) : Int)).toNat : Int) = _
  have hle : b &&& (b - 1) ≤ b := Nat.and_le_left
  rw [BitVec.toNat_and, BitVec.ofInt_natCast, BitVec.ofInt_natCast, BitVec.toNat_ofNat, BitVec.toNat_ofNat, Nat.mod_eq_of_lt (by omega), Nat.mod_eq_of_lt (by omega)]
  generalize b &&& (b - 1) = q at *
  simp [IntKind.wrap, IntKind.bits, IntKind.signed]; omega
theorem allP_length (ks : List (List Nat)) (c b : Nat) : (allP ks c b).length = ks.length * c := by
  induction ks with
  | nil => simp [allP]
  | cons k ks ih =>
    show (probesOf (hashN k) c b ++ allP ks c b).length = _
    rw [List.length_append, ih]; simp [probesOf, Nat.add_mul]; omega
/-- How many bits of a filter are on. -/
theorem on_le (ks : List (List Nat)) (B : Nat) : cnt (hasP (allP ks (cntOf B) (8 * sizOf ks.length B))) (8 * sizOf ks.length B) ≤ ks.length * cntOf B := by
  rw [← allP_length ks (cntOf B) (8 * sizOf ks.length B)]
  exact cnt_list _ _
theorem on_pos (ks : List (List Nat)) (B : Nat) (hk : ks.length ≤ 100000) (hB : B ≤ 64) (h : 0 < ks.length) : 0 < cnt (hasP (allP ks (cntOf B) (8 * sizOf ks.length B))) (8 * sizOf ks.length B) := by
  have h2 := sizOf_le ks.length B hk hB
  have h1 := cntOf_le B
  refine cnt_pos _ (probeN (hashN ks[0]) 0 (8 * sizOf ks.length B)) _ (probeN_lt _ _ _ (by omega)) ?_
  unfold hasP allP
  rw [List.contains_iff_mem, List.mem_flatMap]
  exact ⟨ks[0], List.getElem_mem _, List.mem_map.2 ⟨0, List.mem_range.2 (by omega), rfl⟩⟩
theorem build_at (ks : List (List Nat)) (B i : Nat) (hi : i < sizOf ks.length B) : (buildL ks B).getD i 0 = byteS (hasP (allP ks (cntOf B) (8 * sizOf ks.length B))) i := by
  rw [getD_at (by rw [buildL_length]; omega)]
  unfold buildL
  rw [List.getElem_append_left (by simpa using hi)]; simp
theorem siz_max (n B : Nat) : max ((n * B + 7) / 8) 8 = sizOf n B := by unfold sizOf; omega
namespace bloomSizes
set_option maxRecDepth 100000 in
set_option maxHeartbeats 1600000 in
theorem walk (a0 : Option Addr) (len0 cap0 : Nat) (ss : List ByteArray) (bits : Int) (w : World) (w0 : IsStrs w a0 len0 cap0 ss) (_w1 : (Lit.int .i64 bits).wf = true) :
    Calls Try.prog 9 #[.slice a0 len0 cap0, .int .i64 bits] w fun e w' => e = .returned (.bool true) ∧ Below w.heap.size w w' := by
  obtain ⟨hn, hs, hcap, hsz⟩ := w0
  by_cases hbig : 2000 < len0
  · clear hn hs hcap hsz
    go_enter Try.func9, Try.ntmps9
    go_wp2_with fail
    refine (blooms_any _).mono ?_
    rintro e w1 ⟨rfl, hb1⟩
    have B1 := Lib.hid hb1
    clear hb1
    go_wp2_with fail
    refine (blooms_any _).mono ?_
    rintro e w2 ⟨rfl, hb2⟩
    have B2 := Lib.hid (B1.out.trans (hb2.mono B1.out.size))
    clear hb2
    go_wp2
    go_ret
    exact ⟨rfl, B2.out⟩
  · have hv := bits_val bits
    have hBl := bitsOf_le bits
    have hml : (ss.map natsOf).length = len0 := by rw [List.length_map, hn]
    have HBD : Hid (∀ wx, Below w.heap.size w wx → Calls Try.prog 14 #[.slice a0 len0 cap0, .int .i64 (bitsOf bits : Int)] wx (FreshE wx (buildL (ss.map natsOf) (bitsOf bits)) 0)) := Lib.hid (fun wx hx => by
      have h := build_any wx a0 cap0 len0 ss hn (hs.keep hx) hsz (by omega) (bitsOf bits : Int)
      rw [show buildR (ss.map natsOf) (bitsOf bits : Int) = buildL (ss.map natsOf) (bitsOf bits) by unfold buildR; rw [if_pos (by omega)]; rfl, show buildE (bitsOf bits : Int) = 0 by unfold buildE; rw [if_pos (by omega)]] at h
      exact h)
    generalize bitsOf bits = B at *
    have HON := Lib.hid (on_le (ss.map natsOf) B)
    have HOP := Lib.hid (on_pos (ss.map natsOf) B (by omega) hBl.2)
    have HBA := Lib.hid (build_at (ss.map natsOf) B)
    have HBL := Lib.hid (buildL_byte (ss.map natsOf) B)
    have HLA := Lib.hid (build_last (ss.map natsOf) B)
    have hLL := buildL_length (ss.map natsOf) B
    rw [hml] at HON HOP HBA hLL
    have hszl := sizOf_le len0 B (by omega) hBl.2
    have hcl := cntOf_le B
    have hmx := siz_max len0 B
    have hcn : cntOf B = B * 69 / 100 ∨ cntOf B = 1 ∨ cntOf B = 30 := by unfold cntOf; omega
    generalize hasP (allP (ss.map natsOf) (cntOf B) (8 * sizOf len0 B)) = SS at *
    generalize buildL (ss.map natsOf) B = L at *
    rw [hLL] at HLA
    generalize cntOf B = C at *
    generalize sizOf len0 B = S at *
    have HLL := Lib.hid hLL
    have HMX := Lib.hid hmx
    have HCN := Lib.hid hcn
    clear hn hs hcap hsz hml hLL hmx hcn
    have hq : decide ((2000 : Int) < (len0 : Int)) = false := by simp; omega
    go_enter Try.func9, Try.ntmps9
    go_wp2_with fail
    refine (blooms_any _).mono ?_
    rintro e w1 ⟨rfl, hb1⟩
    have B1 := Lib.hid hb1
    clear hb1
    go_wp2_with fail
    refine (HBD.out _ B1.out).mono ?_
    rintro e w2 ⟨a, cap, rfl, hy, -, hlc, hb2⟩
    have B2 := Lib.hid (B1.out.trans (hb2.mono B1.out.size))
    have HY := Lib.hid hy
    rw [HLL.out]
    rw [HLL.out] at hlc
    clear hb2 hy
    obtain ⟨b, off, rfl, hcS⟩ := HY.out.at (k := S) (by rw [HLL.out]; omega)
    rw [← getD_at (by rw [HLL.out]; omega), show L.getD S 0 = C from HLA.out] at hcS
    go_wp2_with fail
    clear hcS hv hq
    go_loop [9, 10] (fun y x => ∃ i : Nat, i ≤ S ∧ x = .int .i64 (i : Int) ∧ y = .int .i64 (cnt SS (8 * i) : Int)) (fun _ x => S - (intOf x).toNat)
    case atStart => exact ⟨0, by omega, rfl, rfl⟩
    case round =>
      obtain ⟨i, hi, rfl, rfl⟩ := hrel
      have hcle := cnt_le SS (8 * i)
      by_cases hlt : i < S
      · obtain ⟨b', off', e, hci⟩ := HY.out.at (k := i) (by rw [HLL.out]; omega)
        cases e
        rw [← getD_at (by rw [HLL.out]; omega), HBA.out i hlt] at hci
        have HPN := Lib.hid (pop_next SS i)
        have hb8 := byteS_lt SS i
        generalize byteS SS i = c at *
        go_wp2_with fail
        clear hci
        go_loop [9, 11] (fun y x => ∃ k m : Nat, k < 256 ∧ x = .int .u8 (k : Int) ∧ y = .int .i64 (m : Int) ∧ Hid (m + pop k = cnt SS (8 * (i + 1)))) (fun _ x => pop (intOf x).toNat)
        case atStart => exact ⟨c, cnt SS (8 * i), hb8, rfl, rfl, HPN.out⟩
        case round =>
          obtain ⟨k, m, hk, rfl, rfl, hI⟩ := hrel
          have hml : m ≤ 8 * (i + 1) := by
            have h1 := hI.out
            have h2 := cnt_le SS (8 * (i + 1))
            omega
          by_cases h0 : k = 0
          · subst h0
            have HM : Hid (m = cnt SS (8 * (i + 1))) := Lib.hid (by have := hI.out; rw [pop_zero] at this; omega)
            clear hI
            go_wp2
            go_round
            case rel => exact ⟨i + 1, by omega, by go_num, by rw [← HM.out]⟩
            case measure => simp [intOf]; omega
          · have hk0 : 0 < k := by omega
            have hps := pop_step k hk h0
            have HA := Lib.hid (and_pred k hk hk0)
            have HN : Hid (m + 1 + pop (k &&& (k - 1)) = cnt SS (8 * (i + 1))) := Lib.hid (by have := hI.out; omega)
            have hkl : k &&& (k - 1) ≤ k := Nat.and_le_left
            have HPS := Lib.hid hps
            have hq0 : ((k : Int) != 0) = true := by simp; omega
            clear hI hps h0
            generalize k &&& (k - 1) = k2 at *
            go_wp2
            go_round
            case rel => exact ⟨k2, m + 1, by omega, by rw [HA.out], by go_num, HN.out⟩
            case measure => rw [HA.out]; simp [intOf]; have := HPS.out; omega
      · obtain rfl : i = S := by omega
        have h1 := HON.out
        have h2 := HOP.out
        have h3 := HMX.out
        have h4 := HCN.out
        clear HON HOP HMX HCN HBA HY
        generalize cnt SS (8 * i) = ON at *
        have hnB : len0 * B ≤ 128000 := Nat.le_trans (Nat.mul_le_mul (show len0 ≤ 2000 by omega) hBl.2) (by omega)
        have hnC : len0 * C ≤ 60000 := Nat.le_trans (Nat.mul_le_mul (show len0 ≤ 2000 by omega) hcl.2) (by omega)
        have m1 : (len0 : Int) * (B : Int) = ((len0 * B : Nat) : Int) := by simp
        have m2 : (len0 : Int) * (C : Int) = ((len0 * C : Nat) : Int) := by simp
        have q1 : ∀ ts t wx, (Builtin.max_ ts t #[.int .i64 ((((len0 * B : Nat) : Int) + 7) / 8), .int .i64 8]).run Try.prog wx = .ok (.int .i64 (i : Int)) wx := fun ts t wx => run_max2 ts t _ _ _ (by omega)
        have q2 : decide ((1 : Int) ≤ (C : Int)) = true := by simp; omega
        have q3 : decide ((C : Int) ≤ (30 : Int)) = true := by simp; omega
        have q7 : decide ((ON : Int) ≤ ((len0 * C : Nat) : Int)) = true := by rw [decide_eq_true_eq]; omega
        have q8 : ON ≤ len0 * C := h1
        have q9 : decide (ON ≤ len0 * C) = true := by rw [decide_eq_true_eq]; exact h1
        have hA : (((C : Int) == (B : Int) * 69 / 100) = true) ∨ (((C : Int) == (B : Int) * 69 / 100) = false ∧ ((C : Int) == 1) = true) ∨ (((C : Int) == (B : Int) * 69 / 100) = false ∧ ((C : Int) == 1) = false ∧ ((C : Int) == 30) = true) := by
          simp only [beq_iff_eq, beq_eq_false_iff_ne]; omega
        have hD : ((len0 : Int) == 0) = true ∨ (((len0 : Int) == 0) = false ∧ decide ((0 : Int) < (ON : Int)) = true ∧ decide (0 < ON) = true ∧ 0 < ON) := by
          rcases Nat.eq_zero_or_pos len0 with h | h
          · left; simp; exact h
          · right; have := h2 h; simp; omega
        generalize len0 * B = NB at *
        generalize len0 * C = NC at *
        clear h1 h2 h3 h4
        rcases hA with hA | ⟨hA, hA1⟩ | ⟨hA, hA1, hA2⟩
        all_goals
          rcases hD with hD | ⟨hD, hD1, hD2, hD3⟩
          all_goals
            go_wp2
            go_ret
            exact ⟨rfl, B2.out⟩
end bloomSizes
end Go.Proofs.Ytfgcdmgbgadkgaa
