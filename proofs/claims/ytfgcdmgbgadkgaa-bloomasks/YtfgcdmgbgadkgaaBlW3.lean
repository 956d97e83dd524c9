/-
  What inForm, May and Merge answer.
-/
import Derived.Test.YtfgcdmgbgadkgaaBlW2
namespace Go.Proofs.Ytfgcdmgbgadkgaa
open Go.RowKit

theorem ret_bool {a b : Bool} (h : a = b) : Ending.returned (.bool a) = .returned (.bool b) := by rw [h]
/-- Has a filter a form? -/
def formB (l : List Nat) : Bool := decide (2 ≤ l.length ∧ 1 ≤ l.getD (l.length - 1) 0 ∧ l.getD (l.length - 1) 0 ≤ 30)
theorem getD_at {l : List Nat} {k : Nat} (h : k < l.length) : l.getD k 0 = l[k] := by
  rw [List.getD_eq_getElem?_getD, List.getElem?_eq_getElem h]; rfl
theorem getD_byte {l : List Nat} (hb : ∀ x ∈ l, x < 256) (k : Nat) : l.getD k 0 < 256 := by
  by_cases h : k < l.length
  · rw [getD_at h]; exact hb _ (List.getElem_mem h)
  · rw [List.getD_eq_getElem?_getD, List.getElem?_eq_none (by omega)]; simp
set_option maxRecDepth 100000 in
set_option maxHeartbeats 800000 in
theorem inForm_any (w : World) (a : Option Addr) (cap n : Nat) (l : List Nat) (hn : l.length = n) (hl : Byt w a l) (hb : ∀ x ∈ l, x < 256) (hm : n ≤ 140737488351232) :
    Calls Try.prog 24 #[.slice a n cap] w fun e w' => e = .returned (.bool (formB l)) ∧ w = w' := by
  by_cases h2 : n < 2
  · have HF : Hid (formB l = false) := Lib.hid (by unfold formB; rw [decide_eq_false]; omega)
    clear hl hn
    go_enter Try.func24, Try.ntmps24
    go_wp2
    go_ret
    exact ⟨by rw [HF.out]; rfl, rfl⟩
  · obtain ⟨b, off, rfl, hcl⟩ := hl.at (k := n - 1) (by omega)
    have hg := getD_at (l := l) (k := n - 1) (by omega)
    have hx := hb _ (List.getElem_mem (show n - 1 < l.length by omega))
    have HF : Hid (formB l = decide (1 ≤ l[n - 1]'(by omega) ∧ l[n - 1]'(by omega) ≤ 30)) := Lib.hid (by
      subst hn; unfold formB; rw [hg]; congr 1; rw [eq_iff_iff]; exact ⟨fun h => h.2, fun h => ⟨by omega, h⟩⟩)
    generalize l[n - 1]'(by omega) = c at *
    have hi0 : (n : Int) - 1 = ((n - 1 : Nat) : Int) := by omega
    have hlt : n - 1 < n := by omega
    generalize n - 1 = q at *
    clear hl hn hg
    by_cases h1 : 1 ≤ c
    · by_cases h30 : c ≤ 30
      · rw [decide_eq_true ⟨h1, h30⟩] at HF
        go_enter Try.func24, Try.ntmps24
        go_wp2
        go_ret
        exact ⟨ret_bool (by rw [HF.out]; exact decide_eq_true (by omega)), rfl⟩
      · rw [decide_eq_false (fun h => h30 h.2)] at HF
        go_enter Try.func24, Try.ntmps24
        go_wp2
        go_ret
        exact ⟨ret_bool (by rw [HF.out]; exact decide_eq_false (by omega)), rfl⟩
    · rw [decide_eq_false (fun h => h1 h.1)] at HF
      go_enter Try.func24, Try.ntmps24
      go_wp2
      go_ret
      exact ⟨by rw [HF.out]; rfl, rfl⟩
def mayB (l : List Nat) (h : Nat) : Bool := !formB l || (probesOf h (l.getD (l.length - 1) 0) (8 * (l.length - 1))).all (bitL l)
theorem shr_and (x p : Nat) (hx : x < 256) : bits .and .u8 ((x : Int) / 2 ^ (p % 8)) 1 = if x.testBit (p % 8) then 1 else 0 := by
  have e : (x : Int) / 2 ^ (p % 8) = ((x / 2 ^ (p % 8) : Nat) : Int) := by rw [Int.natCast_ediv]; simp
  have hq : x / 2 ^ (p % 8) < 256 := Nat.lt_of_le_of_lt (Nat.div_le_self _ _) hx
  rw [e]
  show IntKind.u8.wrap ((BitVec.ofInt 8 ((x / 2 ^ (p % 8) : Nat) : Int) &&& BitVec.ofInt 8 1).toNat : Int) = _
  rw [show BitVec.ofInt 8 1 = 1#8 from rfl, BitVec.toNat_and, BitVec.ofInt_natCast, BitVec.toNat_ofNat, Nat.mod_eq_of_lt (by omega), show (1#8).toNat = 1 from rfl, Nat.and_one_is_mod, Nat.testBit_eq_decide_div_mod_eq]
  simp only [decide_eq_true_eq]
  simp [IntKind.wrap, IntKind.bits, IntKind.signed]
  split <;> omega
set_option maxRecDepth 100000 in
set_option maxHeartbeats 800000 in
theorem may_any (w : World) (a : Option Addr) (cap n : Nat) (l : List Nat) (hn : l.length = n) (hl : Byt w a l) (hb : ∀ x ∈ l, x < 256) (hm : n ≤ 140737488351232) (key : ByteArray) (hk : key.size ≤ 9223372036854775807) :
    Calls Try.prog 17 #[.slice a n cap, .string key] w fun e w' => e = .returned (.bool (mayB l (hashN (natsOf key)))) ∧ Below w.heap.size w w' := by
  have HIF : Hid (∀ wx, Below w.heap.size w wx → Calls Try.prog 24 #[.slice a n cap] wx fun e w' => e = .returned (.bool (formB l)) ∧ wx = w') := Lib.hid (fun wx hx => inForm_any wx a cap n l hn (hl.keep hx) hb hm)
  by_cases hf : formB l = true
  · have hff : 2 ≤ l.length ∧ 1 ≤ l.getD (l.length - 1) 0 ∧ l.getD (l.length - 1) 0 ≤ 30 := of_decide_eq_true hf
    rw [hn] at hff
    have HM : Hid (mayB l (hashN (natsOf key)) = (probesOf (hashN (natsOf key)) (l.getD (n - 1) 0) (8 * (n - 1))).all (bitL l)) := Lib.hid (by unfold mayB; rw [hf, hn]; rfl)
    rw [hf] at HIF
    have HL := Lib.hid hl
    have HLN := Lib.hid hn
    have HLB := Lib.hid hb
    have hhl : hashN (natsOf key) < 4294967296 := hashF_lt _ _ (hash0_lt _)
    obtain ⟨b, off, rfl, hcl⟩ := hl.at (k := n - 1) (by omega)
    rw [← getD_at (by omega)] at hcl
    generalize l.getD (n - 1) 0 = C at *
    have hi0 : (n : Int) - 1 = ((n - 1 : Nat) : Int) := by omega
    have hlt : n - 1 < n := by omega
    generalize hS : n - 1 = S at *
    have HS := Lib.hid hS
    have hS8 : 1 ≤ S ∧ S ≤ 140737488351232 := by omega
    have HB0 := Lib.hid (hcl)
    clear hl hn hf hS hcl hb
    go_enter Try.func17, Try.ntmps17
    go_wp2_with fail
    refine (HIF.out _ (Below.refl _ _)).mono ?_
    rintro e w1 ⟨rfl, rfl⟩
    go_wp2_with fail
    refine (hash_any key hk _).mono ?_
    rintro e w2 ⟨rfl, hb2⟩
    generalize hHH : hashN (natsOf key) = h at *
    have HH := Lib.hid hHH
    clear hHH
    have HL2 := Lib.hid (HL.out.keep hb2)
    have hlb : b < w.heap.size := World.block_lt_of_cell? w _ HB0.out
    have hc2 := (hb2.cell (p := ⟨b, off + S, none⟩) hlb).trans HB0.out
    have HB2 := Lib.hid hb2
    clear hb2 HB0 HIF HL
    go_wp2_with fail
    clear hc2
    go_loop [22] (fun x => ∃ i : Nat, i ≤ C ∧ x = .int .i64 (i : Int) ∧ Hid ((probesOf h i (8 * S)).all (bitL l) = true)) (fun x => C - (intOf x).toNat)
    case atStart => exact ⟨0, by omega, rfl, rfl⟩
    case round =>
      obtain ⟨i, hi, rfl, hI⟩ := hrel
      by_cases hlt2 : i < C
      · have HP : Hid (∀ wx, Calls Try.prog 22 #[.int .u32 (h : Int), .int .i64 (i : Int), .int .i64 (8 * (S : Int))] wx fun e w' => e = .returned (.int .i64 (probeN h i (8 * S) : Int)) ∧ wx = w') := Lib.hid (fun wx => by
          have := probe_any h i (8 * S) hhl (by omega) (by omega) (by omega) wx
          rwa [show ((8 * S : Nat) : Int) = 8 * (S : Int) by omega] at this)
        have hpr := probeN_lt h i (8 * S) (by omega)
        have HPS := Lib.hid (probesOf_snoc h i (8 * S))
        have HPA : Hid (bitL l (probeN h i (8 * S)) = false → (probesOf h C (8 * S)).all (bitL l) = false) := Lib.hid (fun h0 => by
          rw [List.all_eq_false]
          exact ⟨probeN h i (8 * S), by unfold probesOf; exact List.mem_map.2 ⟨i, List.mem_range.2 hlt2, rfl⟩, by rw [h0]; simp⟩)
        generalize probeN h i (8 * S) = p at *
        obtain ⟨b', off', e, hcl⟩ := HL2.out.at (k := p / 8) (by rw [HLN.out]; omega)
        cases e
        have hx := HLB.out _ (List.getElem_mem (show p / 8 < l.length by rw [HLN.out]; omega))
        have HBT : Hid (bitL l p = (l[p / 8]'(by rw [HLN.out]; omega)).testBit (p % 8)) := Lib.hid (by unfold bitL; rw [getD_at])
        generalize l[p / 8]'(by rw [HLN.out]; omega) = c at *
        have hsa := shr_and c p hx
        by_cases hbit : c.testBit (p % 8) = true
        · rw [if_pos hbit] at hsa
          have HN : Hid ((probesOf h (i + 1) (8 * S)).all (bitL l) = true) := Lib.hid (by
            rw [HPS.out, List.all_append, hI.out]; simp [HBT.out, hbit])
          clear hbit hI
          go_wp2_with fail
          refine (HP.out _).mono ?_
          rintro e w3 ⟨rfl, rfl⟩
          go_wp2
          go_round
          case rel => exact ⟨i + 1, by omega, by go_num, HN.out⟩
          case measure => simp [intOf]; omega
        · rw [if_neg hbit] at hsa
          have HN : Hid (mayB l h = false) := Lib.hid (by rw [HM.out]; exact HPA.out (by rw [HBT.out]; simpa using hbit))
          clear hbit hI
          go_wp2_with fail
          refine (HP.out _).mono ?_
          rintro e w3 ⟨rfl, rfl⟩
          go_wp2
          go_ret
          exact ⟨ret_bool (by rw [HH.out, HN.out]), HB2.out⟩
      · obtain rfl : i = C := by omega
        go_wp2
        go_ret
        exact ⟨ret_bool (by rw [HH.out, HM.out, hI.out]), HB2.out⟩
  · have hf' : formB l = false := by simpa using hf
    have HM : Hid (mayB l (hashN (natsOf key)) = true) := Lib.hid (by unfold mayB; rw [hf']; rfl)
    rw [hf'] at HIF
    clear hf hf' hn hl hb
    go_enter Try.func17, Try.ntmps17
    go_wp2_with fail
    refine (HIF.out _ (Below.refl _ _)).mono ?_
    rintro e w1 ⟨rfl, rfl⟩
    go_wp2
    go_ret
    exact ⟨ret_bool (by rw [HM.out]), Below.refl _ _⟩
end Go.Proofs.Ytfgcdmgbgadkgaa
