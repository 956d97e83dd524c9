/-
  What the document's own bits answer: Width, Split, Whole, Told.
-/
import Derived.Test.YthmllebnhadjkaaConvL1
import Derived.Maps.AppendAt
import Derived.Deep.OwnRows
import Derived.Deep.AppendLies
namespace Go.Proofs.Ythmllebnhadjkaa
open Go.RowKit

theorem Try.info4 : (Try.prog.info? 4).map (fun i => (i.zero, i.size, i.bytes)) = some (some (.bool false), 1, 1) := by kernel_rfl

/-- The number from 0 on of bits, the lowest first. -/
def whole : List Bool → Nat
  | [] => 0
  | b :: l => (if b then 1 else 0) + 2 * whole l
theorem whole_lt (l : List Bool) : whole l < 2 ^ l.length := by
  induction l with
  | nil => simp [whole]
  | cons b l ih => simp only [whole, List.length_cons, Nat.pow_succ]; split <;> omega
theorem whole_bit (l : List Bool) (i : Nat) : (whole l).testBit i = l.getD i false := by
  induction l generalizing i with
  | nil => simp [whole]
  | cons b l ih =>
    cases i with
    | zero => simp only [whole, Nat.testBit_zero]; cases b <;> simp <;> omega
    | succ i =>
      rw [Nat.testBit_succ]
      have : whole (b :: l) / 2 = whole l := by simp only [whole]; split <;> omega
      rw [this, ih]; simp
theorem whole_not (l : List Bool) : whole (l.map (!·)) + whole l + 1 = 2 ^ l.length := by
  induction l with
  | nil => rfl
  | cons b l ih => simp only [List.map_cons, whole, List.length_cons, Nat.pow_succ]; cases b <;> simp <;> omega
def splitL (n b : Nat) : List Bool := (List.range b).map n.testBit
theorem splitL_length (n b : Nat) : (splitL n b).length = b := by simp [splitL]
theorem splitL_snoc (n b : Nat) : splitL n (b + 1) = splitL n b ++ [n.testBit b] := by simp [splitL, List.range_succ]
theorem splitL_get (n b i : Nat) (h : i < b) : (splitL n b).getD i false = n.testBit i := by
  simp [splitL, List.getD_eq_getElem?_getD, h]

/-- Bits that lie in memory. -/
def Bol (w : World) (a : Option Addr) (l : List Bool) : Prop :=
  l = [] ∨ ∃ b off, a = some ⟨b, off, none⟩ ∧ b < w.heap.size ∧ ∀ i (_ : i < l.length), w.cell? ⟨b, off + i, none⟩ = some (.bool l[i])
theorem Bol.keep {w w' : World} {a : Option Addr} {l : List Bool} (h : Bol w a l) (hb : Below w.heap.size w w') : Bol w' a l := by
  rcases h with h | ⟨b, off, rfl, hlt, hc⟩
  · exact .inl h
  · exact .inr ⟨b, off, rfl, Nat.lt_of_lt_of_le hlt hb.size, fun i hi => (hb.cell (p := ⟨b, off + i, none⟩) hlt).trans (hc i hi)⟩
theorem Bol.at {w : World} {a : Option Addr} {l : List Bool} (h : Bol w a l) {k : Nat} (hk : k < l.length) : ∃ b off, a = some ⟨b, off, none⟩ ∧ w.cell? ⟨b, off + k, none⟩ = some (.bool l[k]) := by
  rcases h with h | ⟨b, off, rfl, _, hc⟩
  · subst h; simp at hk
  · exact ⟨b, off, rfl, hc k hk⟩
def bls (l : List Bool) : List Value := l.map .bool
theorem addr_add (b off i : Nat) : (⟨b, off, none⟩ : Addr).add i = ⟨b, off + i, none⟩ := by unfold Addr.add; split <;> simp_all
/-- Bits of one's own. -/
theorem bol_of_own {w : World} {B n : Nat} {v : Value} {l : List Bool} (h : w.ownsRow B 4 1 v n (bls l)) : ∃ a cap, v = .slice a l.length cap ∧ Bol w a l := by
  have hn : n = l.length := by have := h.1; simp [bls] at this; omega
  subst hn
  have hc := fun g hg => World.ownsRow.cells h (g := g) hg
  rcases h.2 with ⟨rfl, h0⟩ | ⟨g, cap, cur, rfl, hB, hg, h1, h2, h3, h4⟩
  · exact ⟨none, 0, by rw [h0], .inl (List.length_eq_zero_iff.1 h0)⟩
  · refine ⟨some ⟨g, 0, none⟩, cap, rfl, .inr ⟨g, 0, rfl, ?_, fun i hi => ?_⟩⟩
    · rcases Nat.lt_or_ge g w.heap.size with h | h
      · exact h
      · rw [Array.getElem?_eq_none h] at hg; cases hg
    · have := hc g rfl i (.bool l[i]) (by simp [bls, hi])
      rw [addr_add] at this; exact this

set_option maxRecDepth 100000 in
set_option maxHeartbeats 400000 in
theorem width_any (kind : Int) (hk : 0 ≤ kind ∧ kind ≤ 7) (w : World) :
    Calls Try.prog 18 #[.int .i64 kind] w fun e w' => e = .returned (.int .i64 (widN kind : Int)) ∧ Below w.heap.size w w' := by
  rcases kinds hk with rfl | rfl | rfl | rfl | rfl | rfl | rfl | rfl
  all_goals
    clear hk
    go_enter Try.func18, Try.ntmps18
    go_wp2
    go_ret
    exact ⟨rfl, (Below.refl _ _).alloc (Nat.le_refl _) _⟩
set_option maxRecDepth 100000 in
set_option maxHeartbeats 400000 in
theorem width_no (kind : Int) (hk : kind < 0 ∨ 7 < kind) (w : World) :
    Calls Try.prog 18 #[.int .i64 kind] w fun e w' => e = .returned (.int .i64 0) ∧ w = w' := by
  by_cases h : kind < 0
  · clear hk
    go_enter Try.func18, Try.ntmps18
    go_wp2
    go_ret
    exact ⟨rfl, rfl⟩
  · have h7 : 7 < kind := by omega
    clear hk
    go_enter Try.func18, Try.ntmps18
    go_wp2
    go_ret
    exact ⟨rfl, rfl⟩

def halve (n k : Nat) : Nat := n / 2 ^ k
theorem bit_div (n k : Nat) : (((halve n k : Nat) : Int) % 2 == 1) = n.testBit k := by
  unfold halve
  rw [Nat.testBit_eq_decide_div_mod_eq]
  generalize n / 2 ^ k = y
  by_cases e : y % 2 = 1
  · rw [decide_eq_true e]; simp; omega
  · rw [decide_eq_false e]; simp; omega
theorem halve_succ (n k : Nat) : ((halve n k : Nat) : Int) / 2 = ((halve n (k + 1) : Nat) : Int) := by
  unfold halve; rw [Nat.pow_succ, ← Nat.div_div_eq_div_mul]; omega
theorem halve_le (n k : Nat) : halve n k ≤ n := Nat.div_le_self _ _

/-- New memory with these bits. -/
def FreshB (w : World) (l : List Bool) (e : Ending) (w' : World) : Prop := ∃ v, e = .returned v ∧ w'.ownsRow w.heap.size 4 1 v l.length (bls l) ∧ Below w.heap.size w w'

set_option maxRecDepth 100000 in
set_option maxHeartbeats 800000 in
theorem split_any (n b : Nat) (hn : n < 18446744073709551616) (hb : b ≤ 64) (w : World) :
    Calls Try.prog 31 #[.int .u64 (n : Int), .int .i64 (b : Int)] w (FreshB w (splitL n b)) := by
  obtain ⟨i0, hi0, hz0, hz1, hz2⟩ := info_parts Try.info4
  go_enter Try.func31, Try.ntmps31
  go_wp2
  go_loopw [0, 5, 6] (fun x v i wr => ∃ k : Nat, k ≤ b ∧ x = .int .u64 (halve n k : Int) ∧ i = .int .i64 (k : Int) ∧ Hid (wr.ownsRow w.heap.size 4 1 v k (bls (splitL n k)) ∧ Below w.heap.size w wr)) (fun _ _ i _ => b - (intOf i).toNat)
  case atStart => exact ⟨0, by omega, by simp [halve], rfl, World.ownsRow_nil _ _ _ _, Below.refl _ _⟩
  case round =>
    obtain ⟨k, hk, rfl, rfl, hI⟩ := hrel
    have hle := halve_le n k
    by_cases hlt : k < b
    · have hbit := Lib.hid (bit_div n k)
      have HH := Lib.hid (halve_succ n k)
      have hsz := hI.out.2.size
      go_wp2_with (at_builtin; refine wpList_append_own _ rfl _ _ 40 rfl w.heap.size 4 i0 (.bool false) 1 1 Try.underlying40 hi0 hz0 hz1 hz2 rfl (by decide) _ k (bls (splitL n k)) rfl ?c0 ⟨wr.heap.size, 0, none⟩ 1 1 [.bool ((halve n k : Int) % 2 == 1)] rfl rfl (cell_one_new _ _ _) ?c3 ?c4 ?c5 ?c6 ?_)
      case c0 => exact hI.out.1.alloc _
      case c3 => intro u hu; simp at hu; subst hu; rfl
      case c4 => unfold maxLen; omega
      case c5 => omega
      case c6 => simp; omega
      intro v' w2 hown hgr hnil
      have HO : Hid (w2.ownsRow w.heap.size 4 1 v' (k + 1) (bls (splitL n (k + 1)))) := Lib.hid (by
        rw [splitL_snoc, bls, List.map_append, ← hbit.out]; exact hown)
      have HB : Hid (Below w.heap.size w w2) := Lib.hid ((hI.out.2.alloc hsz _).grown hgr (by simp; omega) (fun g hg => (hI.out.1.lt g hg).1))
      clear hown hgr hnil hI
      go_wp2
      go_roundw
      case rel => exact ⟨k + 1, by omega, by rw [HH.out], by go_num, HO.out, HB.out⟩
      case measure => simp [intOf]; omega
    · obtain rfl : k = b := by omega
      go_wp2
      go_ret
      refine ⟨_, rfl, ?_, hI.out.2⟩
      rw [splitL_length]; exact hI.out.1

theorem whole_drop (l : List Bool) (j : Nat) (hj : j < l.length) : whole (l.drop j) = (if l[j] then 1 else 0) + 2 * whole (l.drop (j + 1)) := by
  rw [List.drop_eq_getElem_cons hj]; rfl
theorem whole_drop_le (l : List Bool) (j : Nat) (hl : l.length ≤ 64) : whole (l.drop (j + 1)) ≤ 9223372036854775807 := by
  have h := whole_lt (l.drop (j + 1))
  have h2 : 2 ^ (l.drop (j + 1)).length ≤ 2 ^ 63 := Nat.pow_le_pow_right (by omega) (by simp; omega)
  omega
set_option maxRecDepth 100000 in
set_option maxHeartbeats 400000 in
theorem whole_any (w : World) (a : Option Addr) (cap : Nat) (l : List Bool) (hl : Bol w a l) (hm : l.length ≤ 64) :
    Calls Try.prog 36 #[.slice a l.length cap] w fun e w' => e = .returned (.int .u64 (whole l : Int)) ∧ w = w' := by
  have HL := Lib.hid hl
  clear hl
  go_enter Try.func36, Try.ntmps36
  go_wp2
  go_loop [3, 4] (fun x i => ∃ k : Nat, k ≤ l.length ∧ x = .int .u64 (whole (l.drop k) : Int) ∧ i = .int .i64 ((k : Int) - 1)) (fun _ i => (intOf i + 1).toNat)
  case atStart => exact ⟨l.length, Nat.le_refl _, by rw [List.drop_length]; rfl, rfl⟩
  case round =>
    obtain ⟨k, hk, rfl, rfl⟩ := hrel
    cases k with
    | zero =>
      go_wp2
      go_ret
      exact ⟨rfl, rfl⟩
    | succ j =>
      obtain ⟨b, off, rfl, hc⟩ := HL.out.at (k := j) (by omega)
      have hb := whole_drop_le l j hm
      have HD := Lib.hid (whole_drop l j (by omega))
      rw [show ((j + 1 : Nat) : Int) - 1 = (j : Int) by omega]
      have hj : j < l.length := by omega
      generalize hy : whole (l.drop (j + 1)) = y at *
      clear hy
      cases hbit : l[j]
      · rw [hbit] at hc
        have HD2 : Hid (whole (l.drop j) = 2 * y) := Lib.hid (by rw [HD.out, hbit]; simp)
        clear hbit HD
        go_wp2
        go_round
        case rel => exact ⟨j, by omega, by rw [HD2.out]; go_num, rfl⟩
        case measure => simp [intOf]
      · rw [hbit] at hc
        have HD2 : Hid (whole (l.drop j) = 1 + 2 * y) := Lib.hid (by rw [HD.out, hbit]; simp)
        clear hbit HD
        go_wp2
        go_round
        case rel => exact ⟨j, by omega, by rw [HD2.out]; go_num, rfl⟩
        case measure => simp [intOf]

theorem whole_at (w : World) (a : Option Addr) (cap n : Nat) (l : List Bool) (hn : l.length = n) (hl : Bol w a l) (hm : n ≤ 64) :
    Calls Try.prog 36 #[.slice a n cap] w fun e w' => e = .returned (.int .u64 (whole l : Int)) ∧ w = w' := by
  subst hn; exact whole_any w a cap l hl hm
theorem told_val {kind : Int} (hk : 0 ≤ kind ∧ kind ≤ 7) (l : List Bool) (hl : l.length = widN kind) :
    (kind < 4 → l.getD (widN kind - 1) false = true → -(whole (l.map (!·)) : Int) - 1 = fitI kind (whole l : Int) ∧ (whole (l.map (!·)) : Int) ≤ 9223372036854775807) ∧
    (kind < 4 → l.getD (widN kind - 1) false = false → wrap64 (whole l : Int) = fitI kind (whole l : Int)) ∧ (4 ≤ kind → wrap64 (whole l : Int) = fitI kind (whole l : Int)) := by
  have h1 := whole_not l
  have h2 := whole_lt l
  have h3 := whole_bit l (widN kind - 1)
  rw [hl] at h1 h2
  rw [← h3]
  rw [Nat.testBit_eq_decide_div_mod_eq]
  generalize whole l = y at *
  generalize whole (l.map (!·)) = z at *
  rcases kinds hk with rfl | rfl | rfl | rfl | rfl | rfl | rfl | rfl
  all_goals
    simp [widN] at h1 h2 ⊢
    simp only [fitI, wrap64]
    simp
    try omega
end Go.Proofs.Ythmllebnhadjkaa
