/-
  Bytes in memory; what put, Put, PutSigned, Get and GetSigned answer.
-/
import Derived.Test.YthpcgdgahlcblaaProg
import Derived.Test.YthpcgdgahlcblaaVaVarPure
import Derived.WalkKit
import Derived.WalkSpells
import Derived.WalkLawsBesides
import Derived.BigQuiet
import Derived.Lib.Hide
import Derived.Outline
import Derived.Deep.LoopGhost
import Derived.Deep.QuietTactic
import Derived.Deep.AppendLies
import Derived.Maps.AppendAt
import Derived.Below
import Derived.Laws.IdiomStrings
import Derived.Lib.BufferRead
namespace Go.Proofs.Ythpcgdgahlcblaa.VA
open Go.RowKit

theorem ret_int {k : IntKind} {a b : Int} (h : a = b) : Ending.returned (.int k a) = .returned (.int k b) := by rw [h]
theorem Try.info5 : (Try.prog.info? 5).map (fun i => (i.zero, i.size, i.bytes)) = some (some (.int .u8 0), 1, 1) := by kernel_rfl
theorem below_drewN (B : Nat) (w : World) (n : Nat) : Below B w (w.drewN n) := ⟨rfl, rfl, rfl, Nat.le_refl _, fun _ _ => rfl⟩
theorem below_next {w w1 w2 : World} (h : Below w.heap.size w w1) (k : Below w1.heap.size w1 w2) : Below w.heap.size w w2 := h.trans (k.mono h.size)
theorem addr_add (b off i : Nat) : (⟨b, off, none⟩ : Addr).add i = ⟨b, off + i, none⟩ := by unfold Addr.add; split <;> simp_all

/-- Bytes that lie in memory. -/
def Byt (w : World) (a : Option Addr) (l : List Nat) : Prop :=
  l = [] ∨ ∃ b off, a = some ⟨b, off, none⟩ ∧ b < w.heap.size ∧ ∀ i (_ : i < l.length), w.cell? ⟨b, off + i, none⟩ = some (.int .u8 (l[i] : Int))
theorem Byt.keep {w w' : World} {a : Option Addr} {l : List Nat} (h : Byt w a l) (hb : Below w.heap.size w w') : Byt w' a l := by
  rcases h with h | ⟨b, off, rfl, hlt, hc⟩
  · exact .inl h
  · exact .inr ⟨b, off, rfl, Nat.lt_of_lt_of_le hlt hb.size, fun i hi => (hb.cell (p := ⟨b, off + i, none⟩) hlt).trans (hc i hi)⟩
theorem Byt.drewN {w : World} {a : Option Addr} {l : List Nat} (h : Byt w a l) (n : Nat) : Byt (w.drewN n) a l := h.keep (below_drewN _ _ _)
theorem Byt.at {w : World} {a : Option Addr} {l : List Nat} (h : Byt w a l) {k : Nat} (hk : k < l.length) : ∃ b off, a = some ⟨b, off, none⟩ ∧ w.cell? ⟨b, off + k, none⟩ = some (.int .u8 (l[k] : Int)) := by
  rcases h with h | ⟨b, off, rfl, _, hc⟩
  · subst h; simp at hk
  · exact ⟨b, off, rfl, hc k hk⟩
def u8s (l : List Nat) : List Value := l.map fun n : Nat => Value.int .u8 n
/-- Bytes of one's own. -/
theorem byt_of_own {w : World} {B n : Nat} {v : Value} {l : List Nat} (h : w.ownsRow B 5 1 v n (u8s l)) : ∃ a cap, v = .slice a l.length cap ∧ Byt w a l ∧ (a = none → l = []) ∧ l.length ≤ cap := by
  have hn : n = l.length := by have := h.1; simp [u8s] at this; omega
  subst hn
  have hc := fun g hg => World.ownsRow.cells h (g := g) hg
  rcases h.2 with ⟨rfl, h0⟩ | ⟨g, cap, cur, rfl, hB, hg, h1, h2, h3, h4⟩
  · exact ⟨none, 0, by rw [h0], .inl (List.length_eq_zero_iff.1 h0), fun _ => List.length_eq_zero_iff.1 h0, by omega⟩
  · refine ⟨some ⟨g, 0, none⟩, cap, rfl, .inr ⟨g, 0, rfl, ?_, fun i hi => ?_⟩, (fun h => by cases h), h1⟩
    · rcases Nat.lt_or_ge g w.heap.size with h | h
      · exact h
      · rw [Array.getElem?_eq_none h] at hg; cases hg
    · have := hc g rfl i (.int .u8 (l[i] : Int)) (by simp [u8s, hi])
      rw [addr_add] at this; exact this

theorem u64_val (n : Int) : IntKind.u64.wrap n = n % 18446744073709551616 := by simp [IntKind.wrap, IntKind.bits, IntKind.signed]
theorem or128 (n : Nat) : bits .or .u8 ((n : Int) % 256) 128 = ((n % 128 + 128 : Nat) : Int) := by
  have h := u8_or_nat (n % 256) 128 (Nat.mod_lt _ (by omega)) (by omega)
  have e : ((n % 256 : Nat) : Int) = (n : Int) % 256 := by omega
  rw [e] at h
  rw [show ((128 : Nat) : Int) = 128 from rfl] at h
  rw [h]
  have k : 128 + n % 128 = 128 ||| n % 128 := by
    have := Nat.two_pow_add_eq_or_of_lt (i := 7) (show n % 128 < 2 ^ 7 by omega) 1
    simpa using this
  have : n % 256 ||| 128 = n % 128 + 128 := by
    have h2 : n % 256 = n % 128 ∨ n % 256 = 128 + n % 128 := by omega
    rcases h2 with h2 | h2
    · rw [h2, Nat.or_comm, ← k]; omega
    · rw [h2, k, Nat.or_comm, ← Nat.or_assoc, Nat.or_self, ← k]; omega
  rw [this]

theorem xor_zero64 (x : Int) (hx : 0 ≤ x ∧ x < 18446744073709551616) : bits .xor .u64 x 0 = x := by
  show IntKind.u64.wrap ((BitVec.ofInt 64 x ^^^ BitVec.ofInt 64 0).toNat : Int) = _
  rw [show BitVec.ofInt 64 0 = 0#64 from rfl, BitVec.xor_zero, BitVec.toNat_ofInt, u64_val]; omega
theorem xor_ones64 (x : Int) (hx : 0 ≤ x ∧ x < 18446744073709551616) : bits .xor .u64 x 18446744073709551615 = 18446744073709551615 - x := by
  show IntKind.u64.wrap ((BitVec.ofInt 64 x ^^^ BitVec.ofInt 64 18446744073709551615).toNat : Int) = _
  rw [show BitVec.ofInt 64 18446744073709551615 = BitVec.allOnes 64 from by decide, BitVec.xor_allOnes, BitVec.toNat_not, BitVec.toNat_ofInt, u64_val]; omega
theorem xor_zeroI (x : Int) (hx : 0 ≤ x ∧ x < 9223372036854775808) : bits .xor .i64 x 0 = x := by
  show IntKind.i64.wrap ((BitVec.ofInt 64 x ^^^ BitVec.ofInt 64 0).toNat : Int) = _
  rw [show BitVec.ofInt 64 0 = 0#64 from rfl, BitVec.xor_zero, BitVec.toNat_ofInt, IntKind.wrap_i64]; omega
theorem xor_onesI (x : Int) (hx : 0 ≤ x ∧ x < 9223372036854775808) : bits .xor .i64 x (-1) = -x - 1 := by
  show IntKind.i64.wrap ((BitVec.ofInt 64 x ^^^ BitVec.ofInt 64 (-1)).toNat : Int) = _
  rw [show BitVec.ofInt 64 (-1) = BitVec.allOnes 64 from by decide, BitVec.xor_allOnes, BitVec.toNat_not, BitVec.toNat_ofInt, IntKind.wrap_i64]; omega
theorem fold_val (m : Int) (hm : -9223372036854775808 ≤ m ∧ m ≤ 9223372036854775807) :
    bits .xor .u64 (IntKind.u64.wrap (IntKind.u64.wrap m * 2)) (IntKind.u64.wrap (m / 9223372036854775808)) = (foldN m : Int) := by
  rw [u64_val, u64_val, u64_val]
  by_cases h : m < 0
  · rw [show m / 9223372036854775808 % 18446744073709551616 = 18446744073709551615 by omega, xor_ones64 _ (by omega)]
    unfold foldN; rw [if_pos h]; omega
  · rw [show m / 9223372036854775808 % 18446744073709551616 = 0 by omega, xor_zero64 _ (by omega)]
    unfold foldN; rw [if_neg h]; omega

set_option maxRecDepth 100000 in
set_option maxHeartbeats 800000 in
theorem put_any (w : World) (B : Nat) (hB : B ≤ w.heap.size) (v : Value) (xs : List Nat) (hx : xs.length ≤ 100) (hv : w.ownsRow B 5 1 v xs.length (u8s xs)) (n : Nat) (hn : n < 18446744073709551616) :
    Calls Try.prog 56 #[v, .int .u64 (n : Int)] w fun e w' => ∃ v', e = .returned v' ∧ w'.ownsRow B 5 1 v' (xs ++ putL n).length (u8s (xs ++ putL n)) ∧ Below B w w' := by
  obtain ⟨i0, hi0, hz0, hz1, hz2⟩ := info_parts Try.info5
  have hlen := putL_len10 n hn
  have HV := Lib.hid hv
  clear hv
  go_enter Try.func56, Try.ntmps56
  go_wp2
  go_loopw [0, 1] (fun b x wr => ∃ (m : Nat) (ys : List Nat), m ≤ n ∧ x = .int .u64 (m : Int) ∧ Hid (wr.ownsRow B 5 1 b ys.length (u8s ys) ∧ Below B w wr ∧ ys ++ putL m = xs ++ putL n)) (fun _ x _ => (intOf x).toNat)
  case atStart => exact ⟨n, xs, Nat.le_refl _, rfl, HV.out, Below.refl _ _, rfl⟩
  case round =>
    obtain ⟨m, ys, hm, rfl, hI⟩ := hrel
    have hsz := hI.out.2.1.size
    have hyl : ys.length ≤ xs.length + 10 := by
      have := congrArg List.length hI.out.2.2
      have h1 := (putL_len10 m (by omega)).2
      simp at this; omega
    by_cases hge : 128 ≤ m
    · have HO := Lib.hid (or128 m)
      go_wp2_with (at_builtin; refine wpList_append_own _ rfl _ _ 23 rfl B 5 i0 (.int .u8 0) 1 1 Try.underlying23 hi0 hz0 hz1 hz2 rfl (by decide) _ ys.length (u8s ys) rfl ?c0 ⟨wr.heap.size, 0, none⟩ 1 1 [.int .u8 (bits .or .u8 ((m : Int) % 256) 128)] rfl rfl (cell_one_new _ _ _) ?c3 ?c4 ?c5 ?c6 ?_)
      case c0 => exact hI.out.1.alloc _
      case c3 => first | rfl | (intro u hu; simp at hu; subst hu; rfl)
      case c4 => unfold maxLen; omega
      case c5 => omega
      case c6 => first | omega | (simp; omega)
      intro v' w2 hown hgr hnil
      have HO2 : Hid (w2.ownsRow B 5 1 v' (ys ++ [m % 128 + 128]).length (u8s (ys ++ [m % 128 + 128]))) := Lib.hid (by
        rw [HO.out] at hown; simpa [u8s] using hown)
      have HB : Hid (Below B w w2) := Lib.hid ((hI.out.2.1.alloc (by omega) _).grown hgr (by simp; omega) (fun g hg => (hI.out.1.lt g hg).1))
      have HE : Hid ((ys ++ [m % 128 + 128]) ++ putL (m / 128) = xs ++ putL n) := Lib.hid (by
        rw [← hI.out.2.2, putL_ge hge]; simp)
      clear hown hgr hnil hI
      go_wp2
      go_roundw
      case rel => exact ⟨m / 128, ys ++ [m % 128 + 128], by omega, by go_num, HO2.out, HB.out, HE.out⟩
      case measure => simp [intOf]; omega
    · go_wp2_with (at_builtin; refine wpList_append_own _ rfl _ _ 23 rfl B 5 i0 (.int .u8 0) 1 1 Try.underlying23 hi0 hz0 hz1 hz2 rfl (by decide) _ ys.length (u8s ys) rfl ?c0 ⟨wr.heap.size, 0, none⟩ 1 1 [.int .u8 (m : Int)] rfl rfl (cell_one_new _ _ _) ?c3 ?c4 ?c5 ?c6 ?_)
      case c0 => exact hI.out.1.alloc _
      case c3 => first | rfl | (intro u hu; simp at hu; subst hu; rfl)
      case c4 => unfold maxLen; omega
      case c5 => omega
      case c6 => first | omega | (simp; omega)
      intro v' w2 hown hgr hnil
      have HO2 : Hid (w2.ownsRow B 5 1 v' (xs ++ putL n).length (u8s (xs ++ putL n))) := Lib.hid (by
        rw [← hI.out.2.2, putL_lt (by omega)]; simpa [u8s] using hown)
      have HB : Hid (Below B w w2) := Lib.hid ((hI.out.2.1.alloc (by omega) _).grown hgr (by simp; omega) (fun g hg => (hI.out.1.lt g hg).1))
      clear hown hgr hnil hI
      go_wp2
      go_ret
      exact ⟨_, rfl, HO2.out, HB.out⟩
/-- New bytes. -/
def FreshU (w : World) (l : List Nat) (e : Ending) (w' : World) : Prop := ∃ v, e = .returned v ∧ w'.ownsRow w.heap.size 5 1 v l.length (u8s l) ∧ Below w.heap.size w w'
theorem andNot128 (c : Nat) (hc : c < 256) : bits .andNot .u8 (c : Int) 128 = ((c % 128 : Nat) : Int) := by
  have h := u8_andNot_nat c 128 hc (by omega)
  rw [show ((128 : Nat) : Int) = 128 from rfl] at h
  rw [h, show (255 - 128 : Nat) = 2 ^ 7 - 1 from rfl, Nat.and_two_pow_sub_one_eq_mod]
theorem or_put (acc c i : Nat) (hi : i ≤ 9) (ha : acc < 2 ^ (7 * i)) (hc : c < 128) (h9 : i = 9 → c ≤ 1) :
    bits .or .u64 (acc : Int) (IntKind.u64.wrap ((c : Int) * 2 ^ (7 * i))) = ((acc + c * 2 ^ (7 * i) : Nat) : Int) ∧ acc + c * 2 ^ (7 * i) < 2 ^ (7 * (i + 1)) ∧ acc + c * 2 ^ (7 * i) < 18446744073709551616 := by
  have e : 2 ^ (7 * (i + 1)) = 128 * 2 ^ (7 * i) := by rw [Nat.mul_add, Nat.pow_add, Nat.mul_comm]
  have h1 : c * 2 ^ (7 * i) ≤ 127 * 2 ^ (7 * i) := Nat.mul_le_mul_right _ (by omega)
  have hlt : acc + c * 2 ^ (7 * i) < 18446744073709551616 := by
    rcases Nat.lt_or_ge i 9 with h | h
    · have : 2 ^ (7 * i) ≤ 2 ^ 56 := Nat.pow_le_pow_right (by omega) (by omega)
      omega
    · have : i = 9 := by omega
      subst this
      have := h9 rfl
      have h2 : c * 2 ^ (7 * 9) ≤ 1 * 2 ^ (7 * 9) := Nat.mul_le_mul_right _ this
      omega
  refine ⟨?_, by omega, hlt⟩
  have e2 : (c : Int) * 2 ^ (7 * i) = ((c * 2 ^ (7 * i) : Nat) : Int) := by rw [Int.natCast_mul]; simp
  rw [e2, u64_val, show ((c * 2 ^ (7 * i) : Nat) : Int) % 18446744073709551616 = ((c * 2 ^ (7 * i) : Nat) : Int) by omega]
  show IntKind.u64.wrap ((BitVec.ofInt 64 (acc : Int) ||| BitVec.ofInt 64 ((c * 2 ^ (7 * i) : Nat) : Int)).toNat : Int) = _
  rw [BitVec.toNat_or, BitVec.ofInt_natCast, BitVec.ofInt_natCast, BitVec.toNat_ofNat, BitVec.toNat_ofNat, Nat.mod_eq_of_lt (by omega), Nat.mod_eq_of_lt (by omega), u64_val]
  have e3 : acc ||| c * 2 ^ (7 * i) = acc + c * 2 ^ (7 * i) := by
    rw [Nat.or_comm, Nat.mul_comm, ← Nat.two_pow_add_eq_or_of_lt ha]; omega
  rw [e3]; omega

def tup (r : Nat × Nat × Nat) : Value := .tuple #[.int .u64 (r.1 : Int), .int .i64 (r.2.1 : Int), .int .i64 (r.2.2 : Int)]
/-- Where a part of a slice lies. -/
def part (a : Option Addr) (cap p : Nat) : Option Addr := if cap = p then a else a.map (·.add p)
theorem part_zero {a : Option Addr} {cap : Nat} {w : World} {l : List Nat} (h : Byt w a l) : Byt w (part a cap 0) l := by
  rcases h with h | ⟨b, off, rfl, hlt, hc⟩
  · exact .inl h
  · refine .inr ⟨b, off, ?_, hlt, hc⟩
    unfold part; split
    · rfl
    · simp [addr_add]
theorem run_part_to {w : World} {a : Option Addr} (len cap q : Nat) (hq : q ≤ cap) :
    (Instr.slice 23 (.slice a len cap) none (some (.int .i64 (q : Int))) none).run Try.prog w = .ok (.slice (part a cap 0) q cap) w := by
  have hel : Try.prog.elem 23 = 5 := by kernel_rfl
  rw [run_slice_h (P := Try.prog) w 23 a len cap (by rw [hel]; exact Try.underlying23) .i64 q (by omega) (by omega), hel]
  simp [go_sem, sliced, part]

set_option maxRecDepth 100000 in
set_option maxHeartbeats 800000 in
theorem get_any (w : World) (a : Option Addr) (cap : Nat) (l : List Nat) (hl : Byt w a l) (hb : ∀ x ∈ l, x < 256) (hc : l.length ≤ cap) (hm : l.length ≤ maxLen) :
    Calls Try.prog 106 #[.slice a l.length cap] w fun e w' => e = .returned (tup (getS l)) ∧ w = w' := by
  unfold maxLen at hm
  have HL := Lib.hid (part_zero (cap := cap) hl)
  have HX := Lib.hid hb
  obtain ⟨pa, hpa⟩ : ∃ pa, part a cap 0 = pa := ⟨_, rfl⟩
  rw [hpa] at HL
  have HPA := Lib.hid hpa
  clear hl hb hpa
  by_cases h10 : l.length ≤ 10
  · have s1 : ∀ wx, (Instr.slice 23 (.slice a l.length cap) none (some (.int .i64 (l.length : Int))) none).run Try.prog wx = .ok (.slice pa l.length cap) wx := fun wx => HPA.out ▸ run_part_to (w := wx) (a := a) l.length cap l.length (by omega)
    go_enter Try.func106, Try.ntmps106
    go_wp2_with fail
    clear s1
    go_loop [5, 6, 7, 14] (fun x _ _ i => ∃ (k acc : Nat), k ≤ l.length ∧ x = .int .u64 (acc : Int) ∧ i = .int .i64 (k : Int) ∧ Hid (acc < 2 ^ (7 * k) ∧ getF k acc (l.drop k) = getS l)) (fun _ _ _ i => l.length - (intOf i).toNat)
    case atStart => exact ⟨0, 0, by omega, rfl, rfl, by simp, rfl⟩
    case round =>
      obtain ⟨k, acc, hk, rfl, rfl, hI⟩ := hrel
      by_cases hlt : k < l.length
      · have hkl : k < l.length := by omega
        obtain ⟨b, off, rfl, hcell⟩ := HL.out.at hkl
        have hx := HX.out _ (List.getElem_mem hkl)
        have hstep : getF k acc (l[k] :: l.drop (k + 1)) = getS l := by rw [← List.drop_eq_getElem_cons hkl]; exact hI.out.2
        generalize l[k] = c at *
        have hacc := hI.out.1
        unfold getF at hstep
        rw [if_neg (by omega)] at hstep
        by_cases h9 : k = 9 ∧ 1 < c
        · rw [if_pos h9] at hstep
          obtain ⟨rfl, h9c⟩ := h9
          have HS := Lib.hid hstep
          clear hstep hacc hI
          go_wp2
          go_ret3
          exact ⟨by rw [← HS.out]; rfl, rfl⟩
        · rw [if_neg h9] at hstep
          have hk9 : k ≤ 9 := by omega
          have hmod : c % 128 < 128 := Nat.mod_lt _ (by omega)
          obtain ⟨o1, o2, o3⟩ := or_put acc (c % 128) k hk9 hacc hmod (fun e => by omega)
          have HA := Lib.hid (andNot128 c hx)
          have HO := Lib.hid o1
          have HO2 := Lib.hid o2
          clear o1 o2 hacc
          have hg : ((k : Int) == 9) = false ∨ (((k : Int) == 9) = true ∧ c ≤ 1) := by
            by_cases e : k = 9
            · exact .inr ⟨by rw [e]; rfl, by omega⟩
            · left; rw [beq_eq_false_iff_ne]; omega
          clear h9
          have han : bits .andNot .u8 (c : Int) 128 = ((c % 128 : Nat) : Int) := HA.out
          generalize hcm : c % 128 = cm at *
          by_cases h128 : 128 ≤ c
          · rw [if_pos h128] at hstep
            have HS := Lib.hid hstep
            clear hstep hI
            have HCM := Lib.hid hcm
            clear hcm
            rcases hg with hg | ⟨_, hc1⟩
            · go_wp2
              go_round
              case rel => exact ⟨k + 1, acc + cm * 2 ^ (7 * k), by omega, by rw [HO.out], by go_num, HO2.out, HS.out⟩
              case measure => simp [intOf]; omega
            · exfalso; omega
          · rw [if_neg h128] at hstep
            by_cases h0 : c = 0 ∧ 0 < k
            · rw [if_pos h0] at hstep
              obtain ⟨hc0, hk0⟩ := h0
              have hcb : ((c : Int) == 0) = true := by rw [hc0]; rfl
              have HC0 := Lib.hid hc0
              clear hc0
              have HS := Lib.hid hstep
              clear hstep hI hcm
              rcases hg with hg | ⟨hg, hc1⟩
              all_goals
                go_wp2
                go_ret3
                exact ⟨by rw [← HS.out]; rfl, rfl⟩
            · rw [if_neg h0] at hstep
              have HS := Lib.hid hstep
              clear hstep hI hcm
              by_cases hc0 : c = 0
              · have hcb : ((c : Int) == 0) = true := by rw [hc0]; rfl
                have hk0 : ¬ (0 < k) := fun h => h0 ⟨hc0, h⟩
                have hg9 : ((k : Int) == 9) = false := by rw [beq_eq_false_iff_ne]; omega
                clear hg h0 hc0
                go_wp2
                go_ret3
                exact ⟨by rw [← HS.out]; simp only [tup]; rw [← HO.out]; rfl, rfl⟩
              · have hcb : ((c : Int) == 0) = false := by rw [beq_eq_false_iff_ne]; omega
                clear h0
                rcases hg with hg | ⟨hg, hc1⟩
                all_goals
                  go_wp2
                  go_ret3
                  exact ⟨by rw [← HS.out]; simp only [tup]; rw [← HO.out]; rfl, rfl⟩
      · obtain rfl : k = l.length := by omega
        have HS : Hid (getS l = (0, 0, 9)) := Lib.hid (by rw [← hI.out.2]; exact getF_end _ _ _ (by first | (left; omega) | (right; simp; done)))
        clear hI
        go_wp2
        go_ret3
        exact ⟨by rw [HS.out]; rfl, rfl⟩
  · have s1 : ∀ wx, (Instr.slice 23 (.slice a l.length cap) none (some (.int .i64 10)) none).run Try.prog wx = .ok (.slice pa 10 cap) wx := fun wx => HPA.out ▸ run_part_to (w := wx) (a := a) l.length cap 10 (by omega)
    go_enter Try.func106, Try.ntmps106
    go_wp2_with fail
    clear s1
    go_loop [5, 6, 7, 14] (fun x _ _ i => ∃ (k acc : Nat), k ≤ 10 ∧ x = .int .u64 (acc : Int) ∧ i = .int .i64 (k : Int) ∧ Hid (acc < 2 ^ (7 * k) ∧ getF k acc (l.drop k) = getS l)) (fun _ _ _ i => 10 - (intOf i).toNat)
    case atStart => exact ⟨0, 0, by omega, rfl, rfl, by simp, rfl⟩
    case round =>
      obtain ⟨k, acc, hk, rfl, rfl, hI⟩ := hrel
      by_cases hlt : k < 10
      · have hkl : k < l.length := by omega
        obtain ⟨b, off, rfl, hcell⟩ := HL.out.at hkl
        have hx := HX.out _ (List.getElem_mem hkl)
        have hstep : getF k acc (l[k] :: l.drop (k + 1)) = getS l := by rw [← List.drop_eq_getElem_cons hkl]; exact hI.out.2
        generalize l[k] = c at *
        have hacc := hI.out.1
        unfold getF at hstep
        rw [if_neg (by omega)] at hstep
        by_cases h9 : k = 9 ∧ 1 < c
        · rw [if_pos h9] at hstep
          obtain ⟨rfl, h9c⟩ := h9
          have HS := Lib.hid hstep
          clear hstep hacc hI
          go_wp2
          go_ret3
          exact ⟨by rw [← HS.out]; rfl, rfl⟩
        · rw [if_neg h9] at hstep
          have hk9 : k ≤ 9 := by omega
          have hmod : c % 128 < 128 := Nat.mod_lt _ (by omega)
          obtain ⟨o1, o2, o3⟩ := or_put acc (c % 128) k hk9 hacc hmod (fun e => by omega)
          have HA := Lib.hid (andNot128 c hx)
          have HO := Lib.hid o1
          have HO2 := Lib.hid o2
          clear o1 o2 hacc
          have hg : ((k : Int) == 9) = false ∨ (((k : Int) == 9) = true ∧ c ≤ 1) := by
            by_cases e : k = 9
            · exact .inr ⟨by rw [e]; rfl, by omega⟩
            · left; rw [beq_eq_false_iff_ne]; omega
          clear h9
          have han : bits .andNot .u8 (c : Int) 128 = ((c % 128 : Nat) : Int) := HA.out
          generalize hcm : c % 128 = cm at *
          by_cases h128 : 128 ≤ c
          · rw [if_pos h128] at hstep
            have HS := Lib.hid hstep
            clear hstep hI
            have HCM := Lib.hid hcm
            clear hcm
            rcases hg with hg | ⟨_, hc1⟩
            · go_wp2
              go_round
              case rel => exact ⟨k + 1, acc + cm * 2 ^ (7 * k), by omega, by rw [HO.out], by go_num, HO2.out, HS.out⟩
              case measure => simp [intOf]; omega
            · exfalso; omega
          · rw [if_neg h128] at hstep
            by_cases h0 : c = 0 ∧ 0 < k
            · rw [if_pos h0] at hstep
              obtain ⟨hc0, hk0⟩ := h0
              have hcb : ((c : Int) == 0) = true := by rw [hc0]; rfl
              have HC0 := Lib.hid hc0
              clear hc0
              have HS := Lib.hid hstep
              clear hstep hI hcm
              rcases hg with hg | ⟨hg, hc1⟩
              all_goals
                go_wp2
                go_ret3
                exact ⟨by rw [← HS.out]; rfl, rfl⟩
            · rw [if_neg h0] at hstep
              have HS := Lib.hid hstep
              clear hstep hI hcm
              by_cases hc0 : c = 0
              · have hcb : ((c : Int) == 0) = true := by rw [hc0]; rfl
                have hk0 : ¬ (0 < k) := fun h => h0 ⟨hc0, h⟩
                have hg9 : ((k : Int) == 9) = false := by rw [beq_eq_false_iff_ne]; omega
                clear hg h0 hc0
                go_wp2
                go_ret3
                exact ⟨by rw [← HS.out]; simp only [tup]; rw [← HO.out]; rfl, rfl⟩
              · have hcb : ((c : Int) == 0) = false := by rw [beq_eq_false_iff_ne]; omega
                clear h0
                rcases hg with hg | ⟨hg, hc1⟩
                all_goals
                  go_wp2
                  go_ret3
                  exact ⟨by rw [← HS.out]; simp only [tup]; rw [← HO.out]; rfl, rfl⟩
      · obtain rfl : k = 10 := by omega
        have HS : Hid (getS l = (0, 0, 9)) := Lib.hid (by rw [← hI.out.2]; exact getF_end _ _ _ (by first | (left; omega) | (right; simp; done)))
        clear hI
        go_wp2
        go_ret3
        exact ⟨by rw [HS.out]; rfl, rfl⟩
end Go.Proofs.Ythpcgdgahlcblaa.VA
