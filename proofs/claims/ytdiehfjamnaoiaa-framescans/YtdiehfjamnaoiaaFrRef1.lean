/-
  The document's own pieces and records: low, Piece, Room, Lay, DocFrame.
-/
import Derived.Test.YtdiehfjamnaoiaaFrRoomsW
namespace Go.Proofs.Ytdiehfjamnaoiaa
open Go.RowKit

def shr8 (n k : Nat) : Nat := n / 2 ^ (8 * k)
theorem shr8_succ (n k : Nat) : ((shr8 n k : Nat) : Int) / 256 = ((shr8 n (k + 1) : Nat) : Int) := by
  unfold shr8; rw [pow8, Nat.mul_comm 256, ← Nat.div_div_eq_div_mul]; omega
theorem fixL_snoc (n k : Nat) : fixL n (k + 1) = fixL n k ++ [n / 2 ^ (8 * k) % 256] := by simp [fixL, List.range_succ]
theorem natsOf_app (s t : ByteArray) : natsOf (s ++ t) = natsOf s ++ natsOf t := by
  unfold natsOf; rw [ByteArray.data_append]; simp
theorem natsOf_cut (t : ByteArray) (a b : Nat) (hb : b ≤ t.size) : natsOf (t.extract a b) = ((natsOf t).take b).drop a := by
  rw [extract_str t a b hb, natsOf_strOf (fun x hx => natsOf_byte t x (List.mem_of_mem_take (List.mem_of_mem_drop hx)))]
set_option maxRecDepth 100000 in
set_option maxHeartbeats 800000 in
theorem rlow_any (n s : Nat) (h8 : s ≤ 8) (hn : n ≤ 9223372036854775807) (w : World) :
    Calls Try.prog 31 #[.int .i64 (n : Int), .int .i64 (s : Int)] w fun e w' => e = .returned (.string (strOf (fixL n s))) ∧ Below w.heap.size w w' := by
  go_enter Try.func31, Try.ntmps31
  go_wp2
  go_loopw [0, 5, 6] (fun u0 u5 u6 wr => ∃ k : Nat, k ≤ s ∧ u0 = .int .i64 (shr8 n k : Int) ∧ u5 = .string (strOf (fixL n k)) ∧ u6 = .int .i64 (k : Int) ∧ Below w.heap.size w wr) (fun _ _ u6 _ => s - (intOf u6).toNat)
  case atStart => exact ⟨0, by omega, by simp [shr8], rfl, rfl, Below.refl _ _⟩
  case round =>
    obtain ⟨k, hk, rfl, rfl, rfl, hbel⟩ := hrel
    have hle : shr8 n k ≤ n := Nat.div_le_self _ _
    have hsz := hbel.size
    have HB := Lib.hid hbel
    clear hbel
    by_cases hlt : k < s
    · have HH := Lib.hid (shr8_succ n k)
      have hx : (shr8 n k : Int) % 256 = ((n / 2 ^ (8 * k) % 256 : Nat) : Int) := by unfold shr8; omega
      have hcv : (convert 22 9 (.slice (some ⟨wr.heap.size, 0, none⟩) 1 1)).run Try.prog (wr.alloc (.cells #[.int .u8 ((shr8 n k : Int) % 256)] 5)) = .ok (.string (strOf [n / 2 ^ (8 * k) % 256])) (wr.alloc (.cells #[.int .u8 ((shr8 n k : Int) % 256)] 5)) :=
        conv_one _ _ _ 1 (Nat.mod_lt _ (by omega)) (by simp) (by rw [cell_of_row _ _ _ _ _ _ (heap_alloc_new wr _), hx]; rfl)
      have HS : Hid (strOf (fixL n k) ++ strOf [n / 2 ^ (8 * k) % 256] = strOf (fixL n (k + 1))) := Lib.hid (by rw [strOf_app, fixL_snoc])
      have h1 : (strOf (fixL n k)).size = k := by rw [strOf_size, fixL_length]
      have h2 : (strOf [n / 2 ^ (8 * k) % 256]).size = 1 := strOf_size _
      generalize strOf (fixL n k) = S at *
      generalize strOf [n / 2 ^ (8 * k) % 256] = T at *
      have hadd := fun wx => run_string_add_sum (P := Try.prog) (w := wx) S T (by omega)
      clear hx
      go_wp2
      go_roundw
      case rel => exact ⟨k + 1, by omega, by rw [HH.out], by rw [HS.out], by go_num, HB.out.alloc hsz _⟩
      case measure => simp [intOf]; omega
    · obtain rfl : k = s := by omega
      go_wp2
      go_ret
      exact ⟨rfl, HB.out⟩
theorem cr_bytes (l : List Nat) : CR.bytesOf (strOf l) = bv l := by
  unfold CR.bytesOf strOf bv
  simp only [List.map_map]
  apply List.map_congr_left
  intro x _
  apply BitVec.eq_of_toNat_eq
  simp
set_option maxRecDepth 100000 in
set_option maxHeartbeats 800000 in
theorem rPiece_any (k : Nat) (hk : k < 256) (t : ByteArray) (hm : t.size ≤ 100000) (w : World) :
    Calls Try.prog 27 #[.int .i64 (k : Int), .string t] w fun e w' => e = .returned (.string (strOf (Frm.pieceL k (natsOf t)))) ∧ Below w.heap.size w w' := by
  have hb := natsOf_byte t
  have hln := natsOf_length t
  have hkm : (k : Int) % 256 = (k : Int) := by omega
  obtain ⟨W1, hW1⟩ : ∃ W1, w.alloc (.cells #[.int .u8 (k : Int)] 5) = W1 := ⟨_, rfl⟩
  have hb1 : Below w.heap.size w W1 := by rw [← hW1]; exact below_alloc (Nat.le_refl _) _
  have hcv : (convert 22 9 (.slice (some ⟨w.heap.size, 0, none⟩) 1 1)).run Try.prog W1 = .ok (.string (strOf [k])) W1 := by
    rw [← hW1]
    exact conv_one _ _ _ 1 hk (by simp) (by rw [cell_of_row _ _ _ _ _ _ (heap_alloc_new w _)]; rfl)
  have h1 : (strOf [k]).size = 1 := strOf_size _
  have hkt : strOf [k] ++ t = strOf (k :: natsOf t) := by
    conv => lhs; rw [← strOf_natsOf t]
    rw [strOf_cons]
  have hs := CR.rsum_any (strOf (k :: natsOf t)) W1 (by rw [strOf_size, List.length_cons, hln]; unfold maxLen; omega)
  rw [cr_bytes, ← hkt] at hs
  have hsl := (Crc.sum (bv (k :: natsOf t))).isLt
  have hmk := CR.rmask_any (Crc.sum (bv (k :: natsOf t))).toNat hsl W1
  have HSN : Hid (Frm.sumN k (natsOf t) = maskN (Crc.sum (bv (k :: natsOf t))).toNat) := Lib.hid rfl
  have hsn := maskN_lt (Crc.sum (bv (k :: natsOf t))).toNat
  have HL4 := Lib.hid (rlow_any (maskN (Crc.sum (bv (k :: natsOf t))).toNat) 4 (by omega) (by omega))
  have HL2 := Lib.hid (fun wx => rlow_any t.size 2 (by omega) (by omega) wx)
  have HRES : Hid (strOf (Frm.pieceL k (natsOf t)) = strOf (fixL (maskN (Crc.sum (bv (k :: natsOf t))).toNat) 4) ++ strOf (fixL t.size 2) ++ strOf [k] ++ t) := Lib.hid (by
    have e : t = strOf (natsOf t) := (strOf_natsOf t).symm
    conv => rhs; rw [e]
    rw [strOf_app, strOf_app, strOf_app]
    unfold Frm.pieceL
    rw [HSN.out, hln, strOf_natsOf]
    simp)
  have HS := Lib.hid hs
  have HM := Lib.hid hmk
  have HB1 := Lib.hid hb1
  have s1 := hb1.size
  have z4 : (strOf (fixL (maskN (Crc.sum (bv (k :: natsOf t))).toNat) 4)).size = 4 := by rw [strOf_size, fixL_length]
  have z2 : (strOf (fixL t.size 2)).size = 2 := by rw [strOf_size, fixL_length]
  generalize Crc.sum (bv (k :: natsOf t)) = sm at *
  generalize maskN (BitVec.toNat sm) = mk at *
  generalize strOf [k] = K at *
  generalize strOf (fixL mk 4) = A4 at *
  generalize strOf (fixL t.size 2) = A2 at *
  have ha1 := fun wx => run_string_add_sum (P := Try.prog) (w := wx) K t (by omega)
  have ha2 := fun wx => run_string_add_sum (P := Try.prog) (w := wx) A4 A2 (by omega)
  have ha3 := fun wx => run_string_add_sum (P := Try.prog) (w := wx) (A4 ++ A2) K (by rw [ByteArray.size_append]; omega)
  have ha4 := fun wx => run_string_add_sum (P := Try.prog) (w := wx) (A4 ++ A2 ++ K) t (by rw [ByteArray.size_append, ByteArray.size_append]; omega)
  clear hb hs hmk hb1 hln hkt
  go_enter Try.func27, Try.ntmps27
  go_wp2_with fail
  refine (HS.out).mono ?_
  rintro e w' ⟨rfl, rfl⟩
  go_wp2_with fail
  refine (HM.out).mono ?_
  rintro e w' ⟨rfl, rfl⟩
  go_wp2_with fail
  refine (HL4.out _).mono ?_
  rintro e W2 ⟨rfl, hb2⟩
  have HB2 := Lib.hid (HB1.out.trans (hb2.mono s1))
  have s2 := HB2.out.size
  clear hb2
  go_wp2_with fail
  refine (HL2.out _).mono ?_
  rintro e W3 ⟨rfl, hb3⟩
  have HB3 := Lib.hid (HB2.out.trans (hb3.mono s2))
  clear hb3
  go_wp2
  go_ret
  exact ⟨by rw [HRES.out]; rfl, HB3.out⟩
theorem rRoom_any (n : Nat) (hn : n ≤ 9223372036854775807) (w : World) : Calls Try.prog 14 #[.int .i64 (n : Int)] w fun e w' => e = .returned (.int .i64 (Frm.room n : Int)) ∧ w = w' := by
  have HR : Hid (Frm.room n = if 128 - n % 128 < 7 then 121 else 128 - n % 128 - 7) := Lib.hid rfl
  by_cases h7 : 128 - n % 128 < 7
  · have h7' : 128 - (n : Int) % 128 < 7 := by omega
    go_enter Try.func14, Try.ntmps14
    go_wp2
    go_ret
    exact ⟨ret_int (by rw [HR.out, if_pos h7]; rfl), rfl⟩
  · have h7' : ¬ (128 - (n : Int) % 128 < 7) := by omega
    go_enter Try.func14, Try.ntmps14
    go_wp2
    go_ret
    exact ⟨ret_int (by rw [HR.out, if_neg h7]; omega), rfl⟩
theorem rRoom_neg (z : Int) (hz : z < 0) (w : World) : Calls Try.prog 14 #[.int .i64 z] w fun e w' => e = .returned (.int .i64 0) ∧ w = w' := by
  go_enter Try.func14, Try.ntmps14
  go_wp2
  go_ret
  exact ⟨rfl, rfl⟩
end Go.Proofs.Ytdiehfjamnaoiaa
