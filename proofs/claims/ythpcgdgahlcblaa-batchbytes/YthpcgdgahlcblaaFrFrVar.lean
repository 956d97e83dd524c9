/-
  What Fixed and Whole of varint answer.
-/
import Derived.Test.YthpcgdgahlcblaaFrFrBase
namespace Go.Proofs.Ythpcgdgahlcblaa
open Go.RowKit

theorem or_put8 (acc c i : Nat) (hi : i ≤ 7) (ha : acc < 2 ^ (8 * i)) (hc : c < 256) :
    bits .or .u64 (acc : Int) (IntKind.u64.wrap ((c : Int) * 2 ^ (8 * i))) = ((acc + c * 2 ^ (8 * i) : Nat) : Int) := by
  have h1 : c * 2 ^ (8 * i) ≤ 255 * 2 ^ (8 * i) := Nat.mul_le_mul_right _ (by omega)
  have h2 : 2 ^ (8 * i) ≤ 2 ^ 56 := Nat.pow_le_pow_right (by omega) (by omega)
  have hlt : acc + c * 2 ^ (8 * i) < 18446744073709551616 := by omega
  have e2 : (c : Int) * 2 ^ (8 * i) = ((c * 2 ^ (8 * i) : Nat) : Int) := by rw [Int.natCast_mul]; simp
  rw [e2, u64_val, show ((c * 2 ^ (8 * i) : Nat) : Int) % 18446744073709551616 = ((c * 2 ^ (8 * i) : Nat) : Int) by omega]
  show IntKind.u64.wrap ((BitVec.ofInt 64 (acc : Int) ||| BitVec.ofInt 64 ((c * 2 ^ (8 * i) : Nat) : Int)).toNat : Int) = _
  rw [BitVec.toNat_or, BitVec.ofInt_natCast, BitVec.ofInt_natCast, BitVec.toNat_ofNat, BitVec.toNat_ofNat, Nat.mod_eq_of_lt (by omega), Nat.mod_eq_of_lt (by omega), u64_val]
  have e3 : acc ||| c * 2 ^ (8 * i) = acc + c * 2 ^ (8 * i) := by
    rw [Nat.or_comm, Nat.mul_comm, ← Nat.two_pow_add_eq_or_of_lt ha]; omega
  rw [e3]; omega
set_option maxRecDepth 100000 in
set_option maxHeartbeats 400000 in
theorem whole_any (w : World) (a : Option Addr) (cap n : Nat) (l : List Nat) (hn : l.length = n) (hl : Byt w a l) (hb : ∀ x ∈ l, x < 256) (h8 : n ≤ 8) :
    Calls Try.prog 35 #[.slice a n cap] w fun e w' => e = .returned (.tuple #[.int .u64 (acc8 l n : Int), .int .i64 0]) ∧ w = w' := by
  have HL := Lib.hid hl
  have HX := Lib.hid hb
  have HN := Lib.hid hn
  clear hl hb hn
  go_enter Try.func35, Try.ntmps35
  go_wp2
  go_loop [4, 5, 6, 12] (fun x _ _ i => ∃ k : Nat, k ≤ n ∧ x = .int .u64 (acc8 l k : Int) ∧ i = .int .i64 (k : Int)) (fun _ _ _ i => n - (intOf i).toNat)
  case atStart => exact ⟨0, by omega, rfl, rfl⟩
  case round =>
    obtain ⟨k, hk, rfl, rfl⟩ := hrel
    by_cases hlt : k < n
    · obtain ⟨b, off, rfl, hc⟩ := HL.out.at (k := k) (by rw [HN.out]; exact hlt)
      have hx := HX.out _ (List.getElem_mem (show k < l.length by rw [HN.out]; exact hlt))
      have HO := Lib.hid (or_put8 (acc8 l k) (l[k]'(by rw [HN.out]; exact hlt)) k (by omega) (acc8_lt l HX.out k) hx)
      have HA : Hid (acc8 l (k + 1) = acc8 l k + (l[k]'(by rw [HN.out]; exact hlt)) * 2 ^ (8 * k)) := Lib.hid (by
        show acc8 l k + l.getD k 0 * _ = _
        rw [List.getD_eq_getElem?_getD, List.getElem?_eq_getElem (by rw [HN.out]; exact hlt)]; rfl)
      generalize l[k]'(by rw [HN.out]; exact hlt) = c at *
      go_wp2
      go_round
      case rel => exact ⟨k + 1, by omega, by rw [HA.out, HO.out], by go_num⟩
      case measure => simp [intOf]; omega
    · obtain rfl : k = n := by omega
      go_wp2
      go_ret2
      exact ⟨rfl, rfl⟩
/-- New bytes behind OK. -/
def FreshT (w : World) (l : List Nat) (e : Ending) (w' : World) : Prop := ∃ cap, e = .returned (.tuple #[.slice (some ⟨w.heap.size, 0, none⟩) l.length cap, .int .i64 0]) ∧ Byt w' (some ⟨w.heap.size, 0, none⟩) l ∧ l.length ≤ cap ∧ Below w.heap.size w w'
set_option maxRecDepth 100000 in
set_option maxHeartbeats 800000 in
theorem fixed_any (n s : Nat) (h8 : s ≤ 8) (hn : n < 2 ^ (8 * s)) (w : World) :
    Calls Try.prog 31 #[.int .u64 (n : Int), .int .i64 (s : Int)] w (FreshT w (fixL n s)) := by
  have hn64 : n < 18446744073709551616 := Nat.lt_of_lt_of_le hn (show 2 ^ (8 * s) ≤ 2 ^ 64 from Nat.pow_le_pow_right (by omega) (by omega))
  have hz : ((n : Int) / 2 ^ (8 * s) != 0) = false := by
    have : (n : Int) / 2 ^ (8 * s) = ((n / 2 ^ (8 * s) : Nat) : Int) := by rw [Int.natCast_ediv]; simp
    rw [this, Nat.div_eq_of_lt hn]; rfl
  have kmk := run_make_row' (P := Try.prog) 23 5 (.int .u8 0) 1 Try.underlying23 Try.info5 rfl .i64 .i64 s (by omega) (by omega)
  have hst : (w.alloc (.cells (madeCells #[.int .u8 0] s) 5)).rowIs w.heap.size 5 s (fun c => .int .u8 ((if c < 0 then n / 2 ^ (8 * c) % 256 else 0 : Nat) : Int)) := (World.rowIs_made w (.int .u8 0) s 5).congr (fun c _ => by simp)
  have HST := Lib.hid hst
  clear hst hn
  go_enter Try.func31, Try.ntmps31
  go_wp2_with fail
  go_loopw [7, 23] (fun _ i wr => ∃ k : Nat, k ≤ s ∧ i = .int .i64 (k : Int) ∧ Hid (wr.rowIs w.heap.size 5 s (fun c => .int .u8 ((if c < k then n / 2 ^ (8 * c) % 256 else 0 : Nat) : Int)) ∧ Below w.heap.size w wr)) (fun _ i _ => s - (intOf i).toNat)
  case atStart => exact ⟨0, by omega, rfl, HST.out, (Below.refl _ _).alloc (Nat.le_refl _) _⟩
  case round =>
    obtain ⟨k, hk, rfl, hI⟩ := hrel
    clear HST kmk hz
    by_cases hlt : k < s
    · have c0 := hI.out.1.cell hlt
      have z0 := hI.out.1.frozen k
      have hv : ((n : Int) / 2 ^ (8 * k)) % 256 = ((n / 2 ^ (8 * k) % 256 : Nat) : Int) := by rw [Int.natCast_emod, Int.natCast_ediv]; simp
      have hstep : (wr.setCell ⟨w.heap.size, k, none⟩ (.int .u8 (((n : Int) / 2 ^ (8 * k)) % 256))).rowIs w.heap.size 5 s (fun c => .int .u8 ((if c < k + 1 then n / 2 ^ (8 * c) % 256 else 0 : Nat) : Int)) :=
        (hI.out.1.set k _).congr (fun c _ => by
          by_cases e : c = k
          · subst e; rw [if_pos rfl, if_pos (by omega), hv]
          · rw [if_neg e]
            by_cases e2 : c < k
            · rw [if_pos e2, if_pos (by omega)]
            · rw [if_neg e2, if_neg (by omega)])
      have HSTEP := Lib.hid hstep
      have HBL := Lib.hid (fun v => hI.out.2.setCell (p := ⟨w.heap.size, k, none⟩) (Nat.le_refl _) v)
      clear hstep hv hI
      go_wp2
      go_roundw
      case rel => exact ⟨k + 1, by omega, by go_num, HSTEP.out, HBL.out _⟩
      case measure => simp [intOf]; omega
    · obtain rfl : k = s := by omega
      have hB : Byt wr (some ⟨w.heap.size, 0, none⟩) (fixL n k) := by
        by_cases h0 : k = 0
        · left; subst h0; rfl
        · refine .inr ⟨w.heap.size, 0, rfl, hI.out.1.lt, fun i hi => ?_⟩
          rw [fixL_length] at hi
          rw [Nat.zero_add, hI.out.1.cell hi, if_pos hi]; simp [fixL]
      have HB := Lib.hid hB
      have HW := Lib.hid hI.out.2
      have HLN : Hid ((fixL n k).length = k) := Lib.hid (fixL_length n k)
      clear hB hI
      go_wp2
      go_ret2
      exact ⟨k, by rw [HLN.out]; rfl, HB.out, by rw [HLN.out]; exact Nat.le_refl _, HW.out⟩
end Go.Proofs.Ythpcgdgahlcblaa
