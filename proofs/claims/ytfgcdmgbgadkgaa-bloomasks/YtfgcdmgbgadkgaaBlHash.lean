/-
  What number, Hash and the document's own Hash answer.
-/
import Derived.Test.YtfgcdmgbgadkgaaBlBase
namespace Go.Proofs.Ytfgcdmgbgadkgaa
open Go.RowKit

theorem u32_val (n : Int) : IntKind.u32.wrap n = n % 4294967296 := by simp [IntKind.wrap, IntKind.bits, IntKind.signed]
theorem bel1 (w : World) (o : Obj) : Below w.heap.size w (w.alloc o) := (Below.refl _ _).alloc (Nat.le_refl _) _
theorem bel2 (w : World) (o p : Obj) : Below w.heap.size w ((w.alloc o).alloc p) := ((Below.refl _ _).alloc (Nat.le_refl _) _).alloc (by simp) _
theorem or_put32 (acc c i : Nat) (hi : i ≤ 3) (ha : acc < 2 ^ (8 * i)) (hc : c < 256) :
    bits .or .u32 (acc : Int) ((c : Int) * 2 ^ (8 * i) % 4294967296) = ((acc + c * 2 ^ (8 * i) : Nat) : Int) := by
  have h1 : c * 2 ^ (8 * i) ≤ 255 * 2 ^ (8 * i) := Nat.mul_le_mul_right _ (by omega)
  have h2 : 2 ^ (8 * i) ≤ 2 ^ 24 := Nat.pow_le_pow_right (by omega) (by omega)
  have hlt : acc + c * 2 ^ (8 * i) < 4294967296 := by omega
  have e2 : (c : Int) * 2 ^ (8 * i) = ((c * 2 ^ (8 * i) : Nat) : Int) := by rw [Int.natCast_mul]; simp
  rw [e2, show ((c * 2 ^ (8 * i) : Nat) : Int) % 4294967296 = ((c * 2 ^ (8 * i) : Nat) : Int) by omega]
  show IntKind.u32.wrap ((BitVec.ofInt 32 (acc : Int) ||| BitVec.ofInt 32 ((c * 2 ^ (8 * i) : Nat) : Int)).toNat : Int) = _
  rw [BitVec.toNat_or, BitVec.ofInt_natCast, BitVec.ofInt_natCast, BitVec.toNat_ofNat, BitVec.toNat_ofNat, Nat.mod_eq_of_lt (by omega), Nat.mod_eq_of_lt (by omega), u32_val]
  have e3 : acc ||| c * 2 ^ (8 * i) = acc + c * 2 ^ (8 * i) := by
    rw [Nat.or_comm, Nat.mul_comm, ← Nat.two_pow_add_eq_or_of_lt ha]; omega
  rw [e3]; omega
theorem xor32 (a b : Nat) (ha : a < 4294967296) (hb : b < 4294967296) : bits .xor .u32 (a : Int) (b : Int) = ((a ^^^ b : Nat) : Int) := by
  show IntKind.u32.wrap ((BitVec.ofInt 32 (a : Int) ^^^ BitVec.ofInt 32 (b : Int)).toNat : Int) = _
  have hx : a ^^^ b < 2 ^ 32 := Nat.xor_lt_two_pow ha hb
  rw [BitVec.toNat_xor, BitVec.ofInt_natCast, BitVec.ofInt_natCast, BitVec.toNat_ofNat, BitVec.toNat_ofNat, Nat.mod_eq_of_lt (by omega), Nat.mod_eq_of_lt (by omega), u32_val]
  omega
/-- A text's bytes, laid anew. -/
theorem conv_new (wr : World) (s : ByteArray) (p : Nat) (hp : wr.heap.size = p) :
    ∃ cap w2, (convert 9 30 (.string s)).run Try.prog wr = .ok (.slice (some ⟨p, 0, none⟩) s.size cap) w2 ∧ s.size ≤ cap ∧ Byt w2 (some ⟨p, 0, none⟩) (natsOf s) ∧ Below wr.heap.size wr w2 := by
  subst hp
  have h := run_bytes_of_string (P := Try.prog) wr 9 30 5 s Try.underlying9 Try.underlying30 Try.underlying5
  refine ⟨_, _, h, grownCap_ge _ _ _ _, .inr ⟨wr.heap.size, 0, rfl, by simp, fun i hi => ?_⟩, ((Below.refl _ wr).drew).alloc (by simp) _⟩
  rw [natsOf_length] at hi
  have e : (wr.drew.alloc (.cells (bytesRow s (grownCap wr s.size 0 5)) 5 ((bytesRow s (grownCap wr s.size 0 5)).size, (bytesRow s (grownCap wr s.size 0 5)).size + 1))).heap[wr.heap.size]? = some (.cells (bytesRow s (grownCap wr s.size 0 5)) 5 ((bytesRow s (grownCap wr s.size 0 5)).size, (bytesRow s (grownCap wr s.size 0 5)).size + 1)) := by
    show (wr.heap.push _)[wr.heap.size]? = _
    simp
  rw [Nat.zero_add, cell_of_row _ _ _ _ _ _ e]
  unfold bytesRow
  have hd : i < s.data.size := hi
  rw [Array.getElem?_append_left (by simpa using hd)]
  simp [natsOf]
  exact ⟨s.data[i], Array.getElem?_eq_getElem hd, rfl⟩
set_option maxRecDepth 100000 in
set_option maxHeartbeats 800000 in
theorem number_any (s : ByteArray) (h4 : s.size ≤ 4) (w : World) :
    Calls Try.prog 19 #[.string s] w fun e w' => e = .returned (.int .u32 (acc8 (natsOf s) s.size : Int)) ∧ Below w.heap.size w w' := by
  obtain ⟨cap, w2, hcv, hcap, hby, hb2⟩ := conv_new w s w.heap.size rfl
  have HP := Lib.hid hby
  have HB := Lib.hid hb2
  have HL := Lib.hid (natsOf_length s)
  have HX := Lib.hid (natsOf_byte s)
  clear hby hb2
  generalize natsOf s = M at *
  go_enter Try.func19, Try.ntmps19
  go_wp2_with fail
  clear hcv
  go_loop [3, 4, 5, 9] (fun x _ _ i => ∃ k : Nat, k ≤ s.size ∧ x = .int .u32 (acc8 M k : Int) ∧ i = .int .i64 (k : Int)) (fun _ _ _ i => s.size - (intOf i).toNat)
  case atStart => exact ⟨0, by omega, rfl, rfl⟩
  case round =>
    obtain ⟨k, hk, rfl, rfl⟩ := hrel
    by_cases hlt : k < s.size
    · obtain ⟨b, off, e, hcl⟩ := HP.out.at (k := k) (by rw [HL.out]; exact hlt)
      cases e
      rw [Nat.zero_add] at hcl
      have hx := HX.out _ (List.getElem_mem (show k < M.length by rw [HL.out]; exact hlt))
      have HO := Lib.hid (or_put32 (acc8 M k) (M[k]'(by rw [HL.out]; exact hlt)) k (by omega) (acc8_lt M HX.out k) hx)
      have HA : Hid (acc8 M (k + 1) = acc8 M k + (M[k]'(by rw [HL.out]; exact hlt)) * 2 ^ (8 * k)) := Lib.hid (by
        show acc8 M k + M.getD k 0 * _ = _
        rw [List.getD_eq_getElem?_getD, List.getElem?_eq_getElem (by rw [HL.out]; exact hlt)]; rfl)
      generalize M[k]'(by rw [HL.out]; exact hlt) = c at *
      go_wp2
      go_round
      case rel => exact ⟨k + 1, by omega, by rw [HA.out, HO.out], by go_num⟩
      case measure => simp [intOf]; omega
    · obtain rfl : k = s.size := by omega
      go_wp2
      go_ret
      exact ⟨rfl, HB.out⟩
def lenS : Value → Nat
  | .string t => t.size
  | _ => 0
/-- The factor, and a round of the number. -/
def mulM (n : Nat) : Nat := n * 3332679571 % 4294967296
def fold16 (h n : Nat) : Nat := mulM ((h + n) % 4294967296) ^^^ (mulM ((h + n) % 4294967296) / 65536)
def fold24 (h n : Nat) : Nat := mulM ((h + n) % 4294967296) ^^^ (mulM ((h + n) % 4294967296) / 16777216)
theorem mulM_lt (n : Nat) : mulM n < 4294967296 := Nat.mod_lt _ (by omega)
theorem fold16_lt (h n : Nat) : fold16 h n < 4294967296 := Nat.xor_lt_two_pow (n := 32) (mulM_lt _) (by have := mulM_lt ((h + n) % 4294967296); omega)
theorem fold24_lt (h n : Nat) : fold24 h n < 4294967296 := Nat.xor_lt_two_pow (n := 32) (mulM_lt _) (by have := mulM_lt ((h + n) % 4294967296); omega)
def hashF (h : Nat) (l : List Nat) : Nat :=
  if 4 ≤ l.length then hashF (fold16 h (acc8 (l.take 4) 4)) (l.drop 4)
  else if l.length = 0 then h else fold24 h (acc8 l l.length)
termination_by l.length
def hash0 (n : Nat) : Nat := 3164544308 ^^^ mulM (n % 4294967296)
def hashN (l : List Nat) : Nat := hashF (hash0 l.length) l
theorem hash0_lt (n : Nat) : hash0 n < 4294967296 := Nat.xor_lt_two_pow (n := 32) (by omega) (mulM_lt _)
theorem hashF_lt (h : Nat) (l : List Nat) (hh : h < 4294967296) : hashF h l < 4294967296 := by
  unfold hashF
  split
  · exact hashF_lt _ _ (fold16_lt _ _)
  · split
    · exact hh
    · exact fold24_lt _ _
termination_by l.length
theorem hash_step {h : Nat} {l : List Nat} (h4 : 4 ≤ l.length) : hashF h l = hashF (fold16 h (acc8 (l.take 4) 4)) (l.drop 4) := by
  conv => lhs; unfold hashF
  rw [if_pos h4]
theorem hash_end {h : Nat} {l : List Nat} (h4 : ¬ 4 ≤ l.length) : hashF h l = if l.length = 0 then h else fold24 h (acc8 l l.length) := by
  conv => lhs; unfold hashF
  rw [if_neg h4]
theorem acc_lt32 (l : List Nat) (hb : ∀ x ∈ l, x < 256) (k : Nat) (hk : k ≤ 4) : acc8 l k < 4294967296 :=
  Nat.lt_of_lt_of_le (acc8_lt l hb k) (show 2 ^ (8 * k) ≤ 2 ^ 32 from Nat.pow_le_pow_right (by omega) (by omega))
theorem take_nats (t : ByteArray) (n : Nat) (h : n ≤ t.size) : natsOf (t.extract 0 n) = (natsOf t).take n := by
  rw [extract_str t 0 n h, List.drop_zero, natsOf_strOf (fun x hx => natsOf_byte t x (List.mem_of_mem_take hx))]
theorem drop_nats (t : ByteArray) (n : Nat) : natsOf (t.extract n t.size) = (natsOf t).drop n := by
  rw [extract_str t n t.size (Nat.le_refl _), List.take_of_length_le (by rw [natsOf_length]; exact Nat.le_refl _), natsOf_strOf (fun x hx => natsOf_byte t x (List.mem_of_mem_drop hx))]
theorem mul_val (n : Nat) : (n : Int) * 3332679571 % 4294967296 = ((mulM n : Nat) : Int) := by
  unfold mulM; omega
theorem fold16_val (h n : Nat) : bits .xor .u32 (((h : Int) + (n : Int)) % 4294967296 * 3332679571 % 4294967296) (((h : Int) + (n : Int)) % 4294967296 * 3332679571 % 4294967296 / 65536) = ((fold16 h n : Nat) : Int) := by
  have e : ((h : Int) + (n : Int)) % 4294967296 = (((h + n) % 4294967296 : Nat) : Int) := by omega
  have hl := mulM_lt ((h + n) % 4294967296)
  rw [e, mul_val, show ((mulM ((h + n) % 4294967296) : Nat) : Int) / 65536 = ((mulM ((h + n) % 4294967296) / 65536 : Nat) : Int) by omega, xor32 _ _ hl (by omega)]
  rfl
theorem fold24_val (h n : Nat) : bits .xor .u32 (((h : Int) + (n : Int)) % 4294967296 * 3332679571 % 4294967296) (((h : Int) + (n : Int)) % 4294967296 * 3332679571 % 4294967296 / 16777216) = ((fold24 h n : Nat) : Int) := by
  have e : ((h : Int) + (n : Int)) % 4294967296 = (((h + n) % 4294967296 : Nat) : Int) := by omega
  have hl := mulM_lt ((h + n) % 4294967296)
  rw [e, mul_val, show ((mulM ((h + n) % 4294967296) : Nat) : Int) / 16777216 = ((mulM ((h + n) % 4294967296) / 16777216 : Nat) : Int) by omega, xor32 _ _ hl (by omega)]
  rfl
theorem hash0_val (n : Nat) : bits .xor .u32 3164544308 ((n : Int) % 4294967296 * 3332679571 % 4294967296) = ((hash0 n : Nat) : Int) := by
  rw [show (n : Int) % 4294967296 = ((n % 4294967296 : Nat) : Int) by omega, mul_val]
  exact xor32 3164544308 _ (by omega) (mulM_lt _)
set_option maxRecDepth 100000 in
set_option maxHeartbeats 800000 in
theorem hash_any (key : ByteArray) (hm : key.size ≤ 9223372036854775807) (w : World) :
    Calls Try.prog 11 #[.string key] w fun e w' => e = .returned (.int .u32 (hashN (natsOf key) : Int)) ∧ Below w.heap.size w w' := by
  have HX0 := Lib.hid (hash0_val key.size)
  have H0 : Hid (hashF (hash0 key.size) (natsOf key) = hashN (natsOf key)) := Lib.hid (by unfold hashN; rw [natsOf_length])
  have h0l := hash0_lt key.size
  go_enter Try.func11, Try.ntmps11
  go_wp2_with fail
  go_loopw [0, 3] (fun x h wr => ∃ (t : ByteArray) (n : Nat), x = .string t ∧ t.size ≤ 9223372036854775807 ∧ n < 4294967296 ∧ h = .int .u32 (n : Int) ∧ Hid (hashF n (natsOf t) = hashN (natsOf key) ∧ Below w.heap.size w wr)) (fun x _ _ => lenS x)
  case atStart => exact ⟨key, hash0 key.size, rfl, hm, h0l, by rw [HX0.out], H0.out, Below.refl _ _⟩
  case round =>
    obtain ⟨t, n, rfl, htm, hn, rfl, hI⟩ := hrel
    have hcut := extract_str t 4 t.size (Nat.le_refl _)
    by_cases h4 : 4 ≤ t.size
    · have HN : Hid (∀ wx, Calls Try.prog 19 #[.string (t.extract 0 4)] wx fun e w' => e = .returned (.int .u32 (acc8 ((natsOf t).take 4) 4 : Int)) ∧ Below wx.heap.size wx w') := Lib.hid (fun wx => by
        have := number_any (t.extract 0 4) (by simp; omega) wx
        rwa [take_nats t 4 h4, show (t.extract 0 4).size = 4 by simp; omega] at this)
      have hal := acc_lt32 ((natsOf t).take 4) (fun x hx => natsOf_byte t x (List.mem_of_mem_take hx)) 4 (by omega)
      have HS : Hid (hashF (fold16 n (acc8 ((natsOf t).take 4) 4)) (natsOf (t.extract 4 t.size)) = hashN (natsOf key)) := Lib.hid (by
        rw [drop_nats, ← hash_step (by rw [natsOf_length]; exact h4)]; exact hI.out.1)
      have HB := Lib.hid hI.out.2
      have hex : (t.extract 4 t.size).size = t.size - 4 := by simp
      generalize acc8 ((natsOf t).take 4) 4 = c at *
      have HF := Lib.hid (fold16_val n c)
      have hfl := fold16_lt n c
      clear hI hcut
      go_wp2_with fail
      refine (HN.out _).mono ?_
      rintro e w1 ⟨rfl, hb1⟩
      have HB1 := Lib.hid (HB.out.trans (hb1.mono HB.out.size))
      clear hb1 HN
      go_wp2
      go_roundw
      case rel => exact ⟨t.extract 4 t.size, fold16 n c, rfl, by omega, hfl, by rw [← HF.out], HS.out, HB1.out⟩
      case measure => simp [lenS]; omega
    · by_cases h0 : t.size = 0
      · have HS : Hid (n = hashN (natsOf key)) := Lib.hid (by
          have := hI.out.1
          rwa [hash_end (by rw [natsOf_length]; exact h4), if_pos (by rw [natsOf_length]; exact h0)] at this)
        have HB := Lib.hid hI.out.2
        clear hI hcut
        go_wp2
        go_ret
        exact ⟨by rw [← HS.out]; rfl, HB.out⟩
      · have HN : Hid (∀ wx, Calls Try.prog 19 #[.string t] wx fun e w' => e = .returned (.int .u32 (acc8 (natsOf t) t.size : Int)) ∧ Below wx.heap.size wx w') := Lib.hid (fun wx => number_any t (by omega) wx)
        have hal := acc_lt32 (natsOf t) (natsOf_byte t) t.size (by omega)
        have HS : Hid (fold24 n (acc8 (natsOf t) t.size) = hashN (natsOf key)) := Lib.hid (by
          have := hI.out.1
          rwa [hash_end (by rw [natsOf_length]; exact h4), if_neg (by rw [natsOf_length]; exact h0), natsOf_length] at this)
        have HB := Lib.hid hI.out.2
        generalize acc8 (natsOf t) t.size = c at *
        have HF := Lib.hid (fold24_val n c)
        clear hI hcut
        go_wp2_with fail
        refine (HN.out _).mono ?_
        rintro e w1 ⟨rfl, hb1⟩
        have HB1 := Lib.hid (HB.out.trans (hb1.mono HB.out.size))
        clear hb1 HN
        go_wp2
        go_ret
        exact ⟨by rw [← HS.out, ← HF.out]; rfl, HB1.out⟩
end Go.Proofs.Ytfgcdmgbgadkgaa
