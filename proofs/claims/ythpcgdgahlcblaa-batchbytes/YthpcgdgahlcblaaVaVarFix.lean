/-
  What Fixed and Whole answer, and the document's own; the law VarintFixed, walked.
-/
import Derived.Test.YthpcgdgahlcblaaVaVarR1
import Derived.Deep.OwnRows
namespace Go.Proofs.Ythpcgdgahlcblaa.VA
open Go.RowKit

/-- What the first bytes make, eight bits to a byte. -/
def acc8 (l : List Nat) : Nat → Nat
  | 0 => 0
  | k + 1 => acc8 l k + l.getD k 0 * 2 ^ (8 * k)
theorem pow8 (k : Nat) : 2 ^ (8 * (k + 1)) = 256 * 2 ^ (8 * k) := by rw [Nat.mul_add, Nat.pow_add, Nat.mul_comm]
theorem acc8_lt (l : List Nat) (h : ∀ x ∈ l, x < 256) (k : Nat) : acc8 l k < 2 ^ (8 * k) := by
  induction k with
  | zero => simp [acc8]
  | succ k ih =>
    have hx : l.getD k 0 < 256 := by
      rw [List.getD_eq_getElem?_getD]
      cases e : l[k]? with
      | none => simp
      | some x => simp; exact h x (List.mem_of_getElem? e)
    have h1 : l.getD k 0 * 2 ^ (8 * k) ≤ 255 * 2 ^ (8 * k) := Nat.mul_le_mul_right _ (by omega)
    rw [pow8]
    show acc8 l k + _ < _
    omega
theorem horner8 (l : List Nat) (n j K : Nat) (h : n * 2 ^ (8 * (j + 1)) + acc8 l (j + 1) = K) : (n * 256 + l.getD j 0) * 2 ^ (8 * j) + acc8 l j = K := by
  rw [← h, pow8]
  show _ = n * (256 * 2 ^ (8 * j)) + (acc8 l j + l.getD j 0 * 2 ^ (8 * j))
  rw [Nat.add_mul, Nat.mul_assoc]; omega
def fixL (n s : Nat) : List Nat := (List.range s).map fun i => n / 2 ^ (8 * i) % 256
theorem fixL_length (n s : Nat) : (fixL n s).length = s := by simp [fixL]
theorem fixL_byte (n s : Nat) : ∀ x ∈ fixL n s, x < 256 := by
  intro x hx; simp only [fixL, List.mem_map] at hx; obtain ⟨i, _, rfl⟩ := hx; exact Nat.mod_lt _ (by omega)
theorem fixL_get (n s i : Nat) (h : i < s) : (fixL n s).getD i 0 = n / 2 ^ (8 * i) % 256 := by simp [fixL, List.getD_eq_getElem?_getD, h]
theorem acc_fix (n s k : Nat) (hk : k ≤ s) : acc8 (fixL n s) k = n % 2 ^ (8 * k) := by
  induction k with
  | zero => simp [acc8, Nat.mod_one]
  | succ k ih =>
    show acc8 (fixL n s) k + _ = _
    rw [ih (by omega), fixL_get n s k (by omega), pow8, Nat.mul_comm 256, Nat.mod_mul, Nat.mul_comm (2 ^ (8 * k))]
theorem acc8_tail (l : List Nat) (i d : Nat) : ∃ R, acc8 l (i + d) = acc8 l i + 2 ^ (8 * i) * R := by
  induction d with
  | zero => exact ⟨0, by simp⟩
  | succ d ih =>
    obtain ⟨R, hR⟩ := ih
    refine ⟨R + l.getD (i + d) 0 * 2 ^ (8 * d), ?_⟩
    show acc8 l (i + d) + l.getD (i + d) 0 * 2 ^ (8 * (i + d)) = _
    rw [hR, Nat.mul_add 8, Nat.pow_add, Nat.mul_add, Nat.mul_left_comm]; omega
theorem fix_acc (l : List Nat) (h : ∀ x ∈ l, x < 256) : fixL (acc8 l l.length) l.length = l := by
  apply List.ext_getElem
  · simp [fixL]
  · intro i h1 h2
    have hx := h l[i] (List.getElem_mem h2)
    obtain ⟨R, hR⟩ := acc8_tail l (i + 1) (l.length - (i + 1))
    rw [show i + 1 + (l.length - (i + 1)) = l.length by omega] at hR
    have hlt := acc8_lt l h i
    have hg : l.getD i 0 = l[i] := by rw [List.getD_eq_getElem?_getD, List.getElem?_eq_getElem h2]; rfl
    have e : acc8 l l.length = acc8 l i + 2 ^ (8 * i) * (l[i] + 256 * R) := by
      rw [hR]
      show acc8 l i + l.getD i 0 * 2 ^ (8 * i) + _ = _
      rw [hg, pow8, Nat.mul_add, Nat.mul_comm (2 ^ (8 * i)) l[i], Nat.mul_comm 256, Nat.mul_assoc]; omega
    simp only [fixL, List.getElem_map, List.getElem_range]
    rw [e, Nat.add_mul_div_left _ _ (Nat.two_pow_pos _), Nat.div_eq_of_lt hlt]
    omega

theorem or_put8 (acc c i : Nat) (hi : i ≤ 7) (ha : acc < 2 ^ (8 * i)) (hc : c < 256) :
    bits .or .u64 (acc : Int) (IntKind.u64.wrap ((c : Int) * 2 ^ (8 * i))) = ((acc + c * 2 ^ (8 * i) : Nat) : Int) := by
  have h1 : c * 2 ^ (8 * i) ≤ 255 * 2 ^ (8 * i) := Nat.mul_le_mul_right _ (by omega)
  have h2 : 2 ^ (8 * i) ≤ 2 ^ 56 := Nat.pow_le_pow_right (by omega) (by omega)
  have hlt : acc + c * 2 ^ (8 * i) < 18446744073709551616 := by omega
  have e2 : (c : Int) * 2 ^ (8 * i) = ((c * 2 ^ (8 * i) : Nat) : Int) := by rw [Int.natCast_mul]; simp
  rw [e2, u64_val, show ((c * 2 ^ (8 * i) : Nat) : Int) % 18446744073709551616 = ((c * 2 ^ (8 * i) : Nat) : Int) by omega]
  show IntKind.u64.wrap ((BitVec.ofInt 64 (acc : Int) ||| BitVec.ofInt 64 ((c * 2 ^ (8 * i) : Nat) : Int)).toNat : Int) = _
  rw [BitVec.toNat_or, BitVec.ofInt_natCast, BitVec.ofInt_natCast, BitVec.toNat_ofNat, BitVec.toNat_ofNat, Nat.mod_eq_of_lt (by omega), Nat.mod_eq_of_lt (by omega), u64_val]
  have e3 : acc ||| c * 2 ^ (8 * i) = acc + c * 2 ^ (8 * i) := by
    rw [Nat.or_comm, Nat.mul_comm, ← Nat.two_pow_add_eq_or_of_lt ha]; omega
  rw [e3]; omega
set_option maxRecDepth 100000 in
set_option maxHeartbeats 400000 in
theorem whole_any (w : World) (a : Option Addr) (cap n : Nat) (l : List Nat) (hn : l.length = n) (hl : Byt w a l) (hb : ∀ x ∈ l, x < 256) (h8 : n ≤ 8) :
    Calls Try.prog 35 #[.slice a n cap] w fun e w' => e = .returned (.tuple #[.int .u64 (acc8 l n : Int), .int .i64 0]) ∧ w = w' := by
  have HL := Lib.hid hl
  have HX := Lib.hid hb
  have HN := Lib.hid hn
  clear hl hb hn
  go_enter Try.func35, Try.ntmps35
  go_wp2
  go_loop [4, 5, 6, 12] (fun x _ _ i => ∃ k : Nat, k ≤ n ∧ x = .int .u64 (acc8 l k : Int) ∧ i = .int .i64 (k : Int)) (fun _ _ _ i => n - (intOf i).toNat)
  case atStart => exact ⟨0, by omega, rfl, rfl⟩
  case round =>
    obtain ⟨k, hk, rfl, rfl⟩ := hrel
    by_cases hlt : k < n
    · obtain ⟨b, off, rfl, hc⟩ := HL.out.at (k := k) (by rw [HN.out]; exact hlt)
      have hx := HX.out _ (List.getElem_mem (show k < l.length by rw [HN.out]; exact hlt))
      have HO := Lib.hid (or_put8 (acc8 l k) (l[k]'(by rw [HN.out]; exact hlt)) k (by omega) (acc8_lt l HX.out k) hx)
      have HA : Hid (acc8 l (k + 1) = acc8 l k + (l[k]'(by rw [HN.out]; exact hlt)) * 2 ^ (8 * k)) := Lib.hid (by
        show acc8 l k + l.getD k 0 * _ = _
        rw [List.getD_eq_getElem?_getD, List.getElem?_eq_getElem (by rw [HN.out]; exact hlt)]; rfl)
      generalize l[k]'(by rw [HN.out]; exact hlt) = c at *
      go_wp2
      go_round
      case rel => exact ⟨k + 1, by omega, by rw [HA.out, HO.out], by go_num⟩
      case measure => simp [intOf]; omega
    · obtain rfl : k = n := by omega
      go_wp2
      go_ret2
      exact ⟨rfl, rfl⟩
set_option maxRecDepth 100000 in
set_option maxHeartbeats 400000 in
theorem whole_no (w : World) (a : Option Addr) (cap n : Nat) (h8 : 8 < n) (hm : n ≤ 9223372036854775807) :
    Calls Try.prog 35 #[.slice a n cap] w fun e w' => e = .returned (.tuple #[.int .u64 0, .int .i64 1]) ∧ w = w' := by
  go_enter Try.func35, Try.ntmps35
  go_wp2
  go_ret2
  exact ⟨rfl, rfl⟩
set_option maxRecDepth 100000 in
set_option maxHeartbeats 400000 in
theorem rwhole_any (t : ByteArray) (h8 : t.size ≤ 8) (w : World) :
    Calls Try.prog 33 #[.string t] w fun e w' => e = .returned (.tuple #[.int .u64 (acc8 (natsOf t) t.size : Int), .int .i64 0]) ∧ w = w' := by
  have HLEN := Lib.hid (natsOf_length t)
  have hK : acc8 (natsOf t) t.size < 18446744073709551616 := Nat.lt_of_lt_of_le (acc8_lt _ (natsOf_byte t) _) (show 2 ^ (8 * t.size) ≤ 2 ^ 64 from Nat.pow_le_pow_right (by omega) (by omega))
  go_enter Try.func33, Try.ntmps33
  go_wp2
  go_loop [4, 5] (fun x i => ∃ j n : Nat, j ≤ t.size ∧ x = .int .u64 (n : Int) ∧ i = .int .i64 ((j : Int) - 1) ∧ Hid (n * 2 ^ (8 * j) + acc8 (natsOf t) j = acc8 (natsOf t) t.size)) (fun _ i => (intOf i + 1).toNat)
  case atStart => exact ⟨t.size, 0, Nat.le_refl _, rfl, rfl, Lib.hid (by simp)⟩
  case round =>
    obtain ⟨j, n, hj, rfl, rfl, hI⟩ := hrel
    cases j with
    | zero =>
      have HN : Hid (n = acc8 (natsOf t) t.size) := Lib.hid (by have := hI.out; simpa [acc8] using this)
      clear hI
      go_wp2
      go_ret2
      exact ⟨by rw [← HN.out]; rfl, rfl⟩
    | succ j =>
      rw [show ((j + 1 : Nat) : Int) - 1 = (j : Int) by omega]
      have hjs : j < t.size := by omega
      have hh := horner8 (natsOf t) n j _ hI.out
      have hgj : (natsOf t).getD j 0 = (t[j]).toNat := by
        rw [List.getD_eq_getElem?_getD, List.getElem?_eq_getElem (by rw [HLEN.out]; exact hjs), ← natsOf_get t j hjs]; rfl
      rw [hgj] at hh
      have hy := (t[j]).toNat_lt
      have hbd : n * 256 + (t[j]).toNat < 18446744073709551616 := by
        have h1 : (n * 256 + (t[j]).toNat) * 1 ≤ (n * 256 + (t[j]).toNat) * 2 ^ (8 * j) := Nat.mul_le_mul_left _ (Nat.two_pow_pos _)
        omega
      have hbd2 : n ≤ 72057594037927935 := by omega
      have HH := Lib.hid hh
      clear hh hgj hI hbd
      go_wp2
      go_round
      case rel => exact ⟨j, n * 256 + (t[j]).toNat, by omega, by go_num, rfl, HH.out⟩
      case measure => simp [intOf]
set_option maxRecDepth 100000 in
set_option maxHeartbeats 400000 in
theorem rwhole_no (t : ByteArray) (h8 : 8 < t.size) (hm : t.size ≤ 9223372036854775807) (w : World) :
    Calls Try.prog 33 #[.string t] w fun e w' => e = .returned (.tuple #[.int .u64 0, .int .i64 1]) ∧ w = w' := by
  go_enter Try.func33, Try.ntmps33
  go_wp2
  go_ret2
  exact ⟨rfl, rfl⟩
/-- New bytes behind OK. -/
def FreshT (w : World) (l : List Nat) (e : Ending) (w' : World) : Prop := ∃ a cap, e = .returned (.tuple #[.slice a l.length cap, .int .i64 0]) ∧ Byt w' a l ∧ (a = none → l = []) ∧ Below w.heap.size w w'
set_option maxRecDepth 100000 in
set_option maxHeartbeats 800000 in
theorem fixed_any (n s : Nat) (h8 : s ≤ 8) (hn : n < 2 ^ (8 * s)) (w : World) :
    Calls Try.prog 31 #[.int .u64 (n : Int), .int .i64 (s : Int)] w (FreshT w (fixL n s)) := by
  have hn64 : n < 18446744073709551616 := Nat.lt_of_lt_of_le hn (show 2 ^ (8 * s) ≤ 2 ^ 64 from Nat.pow_le_pow_right (by omega) (by omega))
  have hz : ((n : Int) / 2 ^ (8 * s) != 0) = false := by
    have : (n : Int) / 2 ^ (8 * s) = ((n / 2 ^ (8 * s) : Nat) : Int) := by rw [Int.natCast_ediv]; simp
    rw [this, Nat.div_eq_of_lt hn]; rfl
  have kmk := run_make_row' (P := Try.prog) 23 5 (.int .u8 0) 1 Try.underlying23 Try.info5 rfl .i64 .i64 s (by omega) (by omega)
  have hst : (w.alloc (.cells (madeCells #[.int .u8 0] s) 5)).rowIs w.heap.size 5 s (fun c => .int .u8 ((if c < 0 then n / 2 ^ (8 * c) % 256 else 0 : Nat) : Int)) := (World.rowIs_made w (.int .u8 0) s 5).congr (fun c _ => by simp)
  have HST := Lib.hid hst
  clear hst hn
  go_enter Try.func31, Try.ntmps31
  go_wp2_with fail
  go_loopw [7, 23] (fun _ i wr => ∃ k : Nat, k ≤ s ∧ i = .int .i64 (k : Int) ∧ Hid (wr.rowIs w.heap.size 5 s (fun c => .int .u8 ((if c < k then n / 2 ^ (8 * c) % 256 else 0 : Nat) : Int)) ∧ Below w.heap.size w wr)) (fun _ i _ => s - (intOf i).toNat)
  case atStart => exact ⟨0, by omega, rfl, HST.out, (Below.refl _ _).alloc (Nat.le_refl _) _⟩
  case round =>
    obtain ⟨k, hk, rfl, hI⟩ := hrel
    clear HST kmk hz
    by_cases hlt : k < s
    · have c0 := hI.out.1.cell hlt
      have z0 := hI.out.1.frozen k
      have hv : ((n : Int) / 2 ^ (8 * k)) % 256 = ((n / 2 ^ (8 * k) % 256 : Nat) : Int) := by rw [Int.natCast_emod, Int.natCast_ediv]; simp
      have hstep : (wr.setCell ⟨w.heap.size, k, none⟩ (.int .u8 (((n : Int) / 2 ^ (8 * k)) % 256))).rowIs w.heap.size 5 s (fun c => .int .u8 ((if c < k + 1 then n / 2 ^ (8 * c) % 256 else 0 : Nat) : Int)) :=
        (hI.out.1.set k _).congr (fun c _ => by
          by_cases e : c = k
          · subst e; rw [if_pos rfl, if_pos (by omega), hv]
          · rw [if_neg e]
            by_cases e2 : c < k
            · rw [if_pos e2, if_pos (by omega)]
            · rw [if_neg e2, if_neg (by omega)])
      have HSTEP := Lib.hid hstep
      have HBL := Lib.hid (fun v => hI.out.2.setCell (p := ⟨w.heap.size, k, none⟩) (Nat.le_refl _) v)
      clear hstep hv hI
      go_wp2
      go_roundw
      case rel => exact ⟨k + 1, by omega, by go_num, HSTEP.out, HBL.out _⟩
      case measure => simp [intOf]; omega
    · obtain rfl : k = s := by omega
      have hB : Byt wr (some ⟨w.heap.size, 0, none⟩) (fixL n k) := by
        by_cases h0 : k = 0
        · left; subst h0; rfl
        · refine .inr ⟨w.heap.size, 0, rfl, hI.out.1.lt, fun i hi => ?_⟩
          rw [fixL_length] at hi
          rw [Nat.zero_add, hI.out.1.cell hi, if_pos hi]; simp [fixL]
      have HB := Lib.hid hB
      have HW := Lib.hid hI.out.2
      have HLN : Hid ((fixL n k).length = k) := Lib.hid (fixL_length n k)
      clear hB hI
      go_wp2
      go_ret2
      exact ⟨_, k, by rw [HLN.out]; rfl, HB.out, (fun h => by cases h), HW.out⟩
set_option maxRecDepth 100000 in
set_option maxHeartbeats 400000 in
theorem fixed_arg (n s : Int) (h8 : s < 0 ∨ 8 < s) (w : World) :
    Calls Try.prog 31 #[.int .u64 n, .int .i64 s] w fun e w' => e = .returned (.tuple #[.slice none 0 0, .int .i64 1]) ∧ w = w' := by
  by_cases h : s < 0
  · clear h8
    go_enter Try.func31, Try.ntmps31
    go_wp2
    go_ret2
    exact ⟨rfl, rfl⟩
  · have h2 : 8 < s := by omega
    clear h8
    go_enter Try.func31, Try.ntmps31
    go_wp2
    go_ret2
    exact ⟨rfl, rfl⟩
set_option maxRecDepth 100000 in
set_option maxHeartbeats 400000 in
theorem fixed_big (n s : Nat) (h8 : s ≤ 8) (hn : 2 ^ (8 * s) ≤ n) (w : World) :
    Calls Try.prog 31 #[.int .u64 (n : Int), .int .i64 (s : Int)] w fun e w' => e = .returned (.tuple #[.slice none 0 0, .int .i64 14]) ∧ w = w' := by
  have hz : ((n : Int) / 2 ^ (8 * s) != 0) = true := by
    have : (n : Int) / 2 ^ (8 * s) = ((n / 2 ^ (8 * s) : Nat) : Int) := by rw [Int.natCast_ediv]; simp
    rw [this]
    have : 0 < n / 2 ^ (8 * s) := Nat.div_pos hn (Nat.two_pow_pos _)
    simp; omega
  go_enter Try.func31, Try.ntmps31
  go_wp2
  go_ret2
  exact ⟨rfl, rfl⟩
theorem fixL_snoc (n k : Nat) : fixL n (k + 1) = fixL n k ++ [n / 2 ^ (8 * k) % 256] := by simp [fixL, List.range_succ]
def shr8 (n k : Nat) : Nat := n / 2 ^ (8 * k)
theorem shr8_succ (n k : Nat) : ((shr8 n k : Nat) : Int) / 256 = ((shr8 n (k + 1) : Nat) : Int) := by
  unfold shr8; rw [pow8, Nat.mul_comm 256, ← Nat.div_div_eq_div_mul]; omega
def rfixV (n s : Nat) : Value := if n < 2 ^ (8 * s) then .tuple #[.string (strOf (fixL n s)), .int .i64 0] else .tuple #[.string ⟨#[]⟩, .int .i64 14]
set_option maxRecDepth 100000 in
set_option maxHeartbeats 800000 in
theorem rfixed_any (n s : Nat) (h8 : s ≤ 8) (hn : n < 18446744073709551616) (w : World) :
    Calls Try.prog 29 #[.int .u64 (n : Int), .int .i64 (s : Int)] w fun e w' => e = .returned (rfixV n s) ∧ Below w.heap.size w w' := by
  obtain ⟨i0, hi0, hz0, hz1, hz2⟩ := info_parts Try.info5
  go_enter Try.func29, Try.ntmps29
  go_wp2
  go_loopw [0, 6, 7] (fun x v i wr => ∃ k : Nat, k ≤ s ∧ x = .int .u64 (shr8 n k : Int) ∧ i = .int .i64 (k : Int) ∧ Hid (wr.ownsRow w.heap.size 5 1 v k (u8s (fixL n k)) ∧ Below w.heap.size w wr)) (fun _ _ i _ => s - (intOf i).toNat)
  case atStart => exact ⟨0, by omega, by simp [shr8], rfl, World.ownsRow_nil _ _ _ _, Below.refl _ _⟩
  case round =>
    obtain ⟨k, hk, rfl, rfl, hI⟩ := hrel
    have hle : shr8 n k ≤ n := Nat.div_le_self _ _
    by_cases hlt : k < s
    · have HH := Lib.hid (shr8_succ n k)
      have hsz := hI.out.2.size
      go_wp2_with (at_builtin; refine wpList_append_own _ rfl _ _ 23 rfl w.heap.size 5 i0 (.int .u8 0) 1 1 Try.underlying23 hi0 hz0 hz1 hz2 rfl (by decide) _ k (u8s (fixL n k)) rfl ?c0 ⟨wr.heap.size, 0, none⟩ 1 1 [.int .u8 ((shr8 n k : Int) % 256)] rfl rfl (cell_one_new _ _ _) ?c3 ?c4 ?c5 ?c6 ?_)
      case c0 => exact hI.out.1.alloc _
      case c3 => first | rfl | (intro u hu; simp at hu; subst hu; rfl)
      case c4 => unfold maxLen; omega
      case c5 => omega
      case c6 => first | omega | (simp; omega)
      intro v' w2 hown hgr hnil
      have HO : Hid (w2.ownsRow w.heap.size 5 1 v' (k + 1) (u8s (fixL n (k + 1)))) := Lib.hid (by
        rw [fixL_snoc, u8s, List.map_append]
        have e : ((shr8 n k : Int) % 256) = ((n / 2 ^ (8 * k) % 256 : Nat) : Int) := by rw [Int.natCast_emod]; rfl
        rw [e] at hown; exact hown)
      have HB : Hid (Below w.heap.size w w2) := Lib.hid ((hI.out.2.alloc hsz _).grown hgr (by simp; omega) (fun g hg => (hI.out.1.lt g hg).1))
      clear hown hgr hnil hI
      go_wp2
      go_roundw
      case rel => exact ⟨k + 1, by omega, by rw [HH.out], by go_num, HO.out, HB.out⟩
      case measure => simp [intOf]; omega
    · obtain rfl : k = s := by omega
      obtain ⟨a5, cap5, rfl, hB5, hn5, _⟩ := byt_of_own hI.out.1
      have hcv := conv_bytes hB5 (fixL_byte n k) hn5 cap5 k (fixL_length n k)
      rw [fixL_length]
      have HW := Lib.hid hI.out.2
      clear hI hB5 hn5
      by_cases hz : n < 2 ^ (8 * k)
      · have hb : ((shr8 n k : Int) != 0) = false := by unfold shr8; rw [Nat.div_eq_of_lt hz]; rfl
        have HV : Hid (rfixV n k = .tuple #[.string (strOf (fixL n k)), .int .i64 0]) := Lib.hid (by unfold rfixV; rw [if_pos hz])
        clear hz
        go_wp2
        go_ret2
        exact ⟨by rw [HV.out]; rfl, HW.out⟩
      · have hb : ((shr8 n k : Int) != 0) = true := by
          have : 0 < shr8 n k := Nat.div_pos (by omega) (Nat.two_pow_pos _)
          simp; omega
        have HV : Hid (rfixV n k = .tuple #[.string ⟨#[]⟩, .int .i64 14]) := Lib.hid (by unfold rfixV; rw [if_neg hz])
        clear hz
        go_wp2
        go_ret2
        exact ⟨by rw [HV.out]; rfl, HW.out⟩
set_option maxRecDepth 100000 in
set_option maxHeartbeats 400000 in
theorem rfixed_arg (n s : Int) (h8 : s < 0 ∨ 8 < s) (w : World) :
    Calls Try.prog 29 #[.int .u64 n, .int .i64 s] w fun e w' => e = .returned (.tuple #[.string ⟨#[]⟩, .int .i64 1]) ∧ w = w' := by
  by_cases h : s < 0
  · clear h8
    go_enter Try.func29, Try.ntmps29
    go_wp2
    go_ret2
    exact ⟨rfl, rfl⟩
  · have h2 : 8 < s := by omega
    clear h8
    go_enter Try.func29, Try.ntmps29
    go_wp2
    go_ret2
    exact ⟨rfl, rfl⟩
theorem conv_nil (w : World) : (convert 23 9 (.slice none 0 0)).run Try.prog w = .ok (.string ⟨#[]⟩) w :=
  conv_bytes (l := []) (.inl rfl) (by simp) (fun _ => rfl) 0 0 rfl

namespace varintFixed
end varintFixed
end Go.Proofs.Ythpcgdgahlcblaa.VA
