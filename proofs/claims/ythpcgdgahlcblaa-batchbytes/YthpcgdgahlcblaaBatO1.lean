/-
  The document's Ops: the same changes?
-/
import Derived.Test.YthpcgdgahlcblaaBatE3
namespace Go.Proofs.Ythpcgdgahlcblaa
open Go.RowKit

theorem toList_inj2 {t u : ByteArray} (h : t.toList = u.toList) : t = u := by
  rw [toList_eq, toList_eq] at h
  apply ByteArray.ext
  exact Array.toList_inj.1 h
theorem toList_iff2 {t u : ByteArray} : t.toList = u.toList ↔ t = u := ⟨toList_inj2, fun h => by rw [h]⟩
theorem drewN_add2 (w : World) (a b : Nat) : (w.drewN a).drewN b = w.drewN (a + b) := by simp [World.drewN, Nat.add_assoc]
def opB (o p : OpV) : Bool := decide (o.kind = p.kind ∧ o.key = p.key ∧ o.val = p.val)
theorem opB_iff {o p : OpV} : opB o p = true ↔ o = p := by
  obtain ⟨a, b, c⟩ := o
  obtain ⟨d, e, f⟩ := p
  simp [opB]
def opsB : List OpV → List OpV → Bool
  | [], [] => true
  | o :: l, p :: m => opB o p && opsB l m
  | _, _ => false
theorem opsB_iff (l m : List OpV) : opsB l m = true ↔ l = m := by
  induction l generalizing m with
  | nil => cases m <;> simp [opsB]
  | cons o l ih =>
    cases m with
    | nil => simp [opsB]
    | cons p m => simp [opsB, opB_iff, ih]
theorem opsB_self (l : List OpV) : opsB l l = true := (opsB_iff l l).2 rfl
theorem opsB_false {l m : List OpV} (h : l ≠ m) : opsB l m = false := by
  cases hb : opsB l m with
  | true => exact absurd ((opsB_iff l m).1 hb) h
  | false => rfl
theorem run_op_ne (w : World) (k k' : Int) (x y x' y' : ByteArray) : (binOp .neq 48 (.agg #[.int .i64 k, .string x, .string y]) (.agg #[.int .i64 k', .string x', .string y'])).run Try.prog w = .ok (.bool (!opB ⟨k, x, y⟩ ⟨k', x', y'⟩)) w := by
  unfold opB
  go_simp
  simp only [toList_iff2]
  by_cases h1 : k = k' <;> by_cases h2 : x = x' <;> by_cases h3 : y = y' <;> simp [h1, h2, h3]
set_option maxRecDepth 100000 in
set_option maxHeartbeats 1000000 in
theorem rOps_any (w : World) (a b : Option Addr) (n m c d : Nat) (l k : List OpV) (hl : OpsAt w a l) (hk : OpsAt w b k) (hn : l.length = n) (hm : k.length = m) (hnb : n ≤ 9223372036854775807) (hmb : m ≤ 9223372036854775807) :
    Calls Try.prog 16 #[.slice a n c, .slice b m d] w fun e w' => e = .returned (.bool (opsB l k)) ∧ ∃ q, w' = w.drewN q := by
  by_cases hnm : n = m
  · subst hnm
    have q0 : ((n : Int) != (n : Int)) = false := by simp
    have HL := Lib.hid hl
    have HK := Lib.hid hk
    have HN := Lib.hid hn
    have HM := Lib.hid hm
    clear hl hk hn hm
    go_enter Try.func16, Try.ntmps16
    go_wp2_with fail
    go_loopw [5] (fun u wr => ∃ i : Nat, u = .int .i64 (i : Int) ∧ i ≤ n ∧ l.take i = k.take i ∧ ∃ q, wr = w.drewN q) (fun u _ => n - (intOf u).toNat)
    case atStart => exact ⟨0, rfl, Nat.zero_le _, rfl, 0, rfl⟩
    case round =>
      obtain ⟨i, rfl, hi, he, q, rfl⟩ := hrel
      have HE := Lib.hid he
      clear he q0
      by_cases hin : i < n
      · have hil : i < l.length := by rw [HN.out]; exact hin
        have hik : i < k.length := by rw [HM.out]; exact hin
        obtain ⟨b1, o1, rfl, t1, c0, c1, c2⟩ := HL.out.at hil
        obtain ⟨b2, o2, rfl, t2, d0, d1, d2⟩ := HK.out.at hik
        have HS : Hid (l[i] = k[i] → l.take (i + 1) = k.take (i + 1)) := Lib.hid (fun h => by rw [List.take_succ_eq_append_getElem hil, List.take_succ_eq_append_getElem hik, HE.out, h])
        have HF : Hid (opB l[i] k[i] = false → opsB l k = false) := Lib.hid (fun h => opsB_false (fun e => by
          have e2 : l[i] = k[i] := by simp only [e]
          rw [opB_iff.2 e2] at h; cases h))
        generalize l[i] = p at *
        generalize k[i] = r at *
        have HPI := Lib.hid (@opB_iff p r)
        obtain ⟨k0, k1, k2⟩ := p
        obtain ⟨r0, r1, r2⟩ := r
        dsimp only at c0 c1 c2 d0 d1 d2
        have hop := fun wx => run_op_ne wx k0 r0 k1 k2 r1 r2
        generalize opB ⟨k0, k1, k2⟩ ⟨r0, r1, r2⟩ = bb at *
        cases bb with
        | true =>
          have HS2 := Lib.hid (HS.out (HPI.out.1 rfl))
          clear HS HF HPI
          simp only [Bool.not_true] at hop
          go_wp2_with fail
          go_quiet (fail)
          go_wp2_with fail
          go_roundw
          case rel => exact ⟨i + 1, by go_num, by omega, HS2.out, _, rfl⟩
          case measure => simp [intOf]; omega
        | false =>
          have HF2 := Lib.hid (HF.out rfl)
          clear HS HF HPI
          simp only [Bool.not_false] at hop
          go_wp2_with fail
          go_quiet (fail)
          go_wp2_with fail
          go_ret
          exact ⟨by rw [HF2.out]; rfl, _, drewN_add2 _ _ _⟩
      · obtain rfl : i = n := by omega
        have HT : Hid (opsB l k = true) := Lib.hid ((opsB_iff l k).2 (by
          have := HE.out
          rwa [List.take_of_length_le (by rw [HN.out]; exact Nat.le_refl _), List.take_of_length_le (by rw [HM.out]; exact Nat.le_refl _)] at this))
        go_wp2_with fail
        go_ret
        exact ⟨by rw [HT.out]; rfl, _, rfl⟩
  · have HF : Hid (opsB l k = false) := Lib.hid (opsB_false (fun e => hnm (by rw [← hn, ← hm, e])))
    have q0 : ((n : Int) != (m : Int)) = true := by
      rw [bne_iff_ne]; omega
    clear hl hk hn hm hnm
    go_enter Try.func16, Try.ntmps16
    go_wp2_with fail
    go_ret
    exact ⟨by rw [HF.out]; rfl, 0, rfl⟩
end Go.Proofs.Ythpcgdgahlcblaa
