/-
  What the document's own Probes answers.
-/
import Derived.Test.YtfgcdmgbgadkgaaBlRHash
namespace Go.Proofs.Ytfgcdmgbgadkgaa
open Go.RowKit

theorem Try.info3 : (Try.prog.info? 3).map (fun i => (i.zero, i.size, i.bytes)) = some (some (.int .i64 0), 1, 8) := by kernel_rfl
def intV (l : List Nat) : List Value := l.map fun n : Nat => Value.int .i64 n
/-- Numbers that lie in memory. -/
def Ints (w : World) (a : Option Addr) (l : List Nat) : Prop :=
  l = [] ∨ ∃ b off, a = some ⟨b, off, none⟩ ∧ b < w.heap.size ∧ ∀ i (_ : i < l.length), w.cell? ⟨b, off + i, none⟩ = some (.int .i64 (l[i] : Int))
theorem Ints.keep {w w' : World} {a : Option Addr} {l : List Nat} (h : Ints w a l) (hb : Below w.heap.size w w') : Ints w' a l := by
  rcases h with h | ⟨b, off, rfl, hlt, hc⟩
  · exact .inl h
  · exact .inr ⟨b, off, rfl, Nat.lt_of_lt_of_le hlt hb.size, fun i hi => (hb.cell (p := ⟨b, off + i, none⟩) hlt).trans (hc i hi)⟩
theorem Ints.at {w : World} {a : Option Addr} {l : List Nat} (h : Ints w a l) {k : Nat} (hk : k < l.length) : ∃ b off, a = some ⟨b, off, none⟩ ∧ w.cell? ⟨b, off + k, none⟩ = some (.int .i64 (l[k] : Int)) := by
  rcases h with h | ⟨b, off, rfl, _, hc⟩
  · subst h; simp at hk
  · exact ⟨b, off, rfl, hc k hk⟩
theorem appI (B : Nat) (w0 wr : World) (v : Value) (ys : List Nat) (n : Nat) (x : Int) (c : Nat) (hx : x = c) (hown : wr.ownsRow B 3 1 v n (intV ys)) (hb : Below B w0 wr) (hB : B ≤ w0.heap.size) (p : Nat) (hp : wr.heap.size = p) (hl : n ≤ 1000000) :
    ∃ v' w2, (Builtin.append_ #[44, 44] 44 #[v, .slice (some ⟨p, 0, none⟩) 1 1]).run Try.prog (wr.alloc (.cells #[.int .i64 x] 3)) = .ok v' w2 ∧ w2.ownsRow B 3 1 v' (n + 1) (intV (ys ++ [c])) ∧ Below B w0 w2 := by
  subst hp
  subst hx
  obtain ⟨i0, hi0, hz0, hz1, hz2⟩ := info_parts Try.info3
  have hsz := hb.size
  obtain ⟨v', w2, h1, h2, h3, _⟩ := run_append_own (P := Try.prog) (wr.alloc (.cells #[.int .i64 (c : Int)] 3)) B 44 44 3 i0 (.int .i64 0) 1 8 Try.underlying44 hi0 hz0 hz1 hz2 rfl (by decide) v n (intV ys) (hown.alloc _) ⟨wr.heap.size, 0, none⟩ 1 1 [.int .i64 (c : Int)] rfl (cell_one_new _ _ _) (by intro u hu; simp at hu; subst hu; rfl) (by unfold maxLen; omega) (by omega) (by simp; omega)
  exact ⟨v', w2, h1, by unfold intV; rw [List.map_append]; exact h2, (hb.alloc (by omega) _).grown h3 (by simp; omega) (fun g hg => (hown.lt g hg).1)⟩
theorem ints_of_own {w : World} {B n : Nat} {v : Value} {l : List Nat} (h : w.ownsRow B 3 1 v n (intV l)) : ∃ a cap, v = .slice a n cap ∧ l.length = n ∧ Ints w a l := by
  have hn : n = l.length := by have := h.1; simp [intV] at this; omega
  subst hn
  have hc := fun g hg => World.ownsRow.cells h (g := g) hg
  rcases h.2 with ⟨rfl, h0⟩ | ⟨g, cap, cur, rfl, hB, hg, h1, h2, h3, h4⟩
  · exact ⟨none, 0, by rw [h0], rfl, .inl (List.length_eq_zero_iff.1 h0)⟩
  · refine ⟨some ⟨g, 0, none⟩, cap, rfl, rfl, .inr ⟨g, 0, rfl, ?_, fun i hi => ?_⟩⟩
    · rcases Nat.lt_or_ge g w.heap.size with h | h
      · exact h
      · rw [Array.getElem?_eq_none h] at hg; cases hg
    · have := hc g rfl i (.int .i64 (l[i] : Int)) (by simp [intV, hi])
      rw [addr_add] at this; exact this
def IntsR (w : World) (l : List Nat) (e : Ending) (w' : World) : Prop := ∃ a cap, e = .returned (.slice a l.length cap) ∧ Ints w' a l ∧ Below w.heap.size w w'
theorem turn_val (h : Nat) : (h : Int) / 131072 + (h : Int) % 131072 * 32768 = (turn17 h : Int) := by unfold turn17; omega
theorem probesOf_length (h c b : Nat) : (probesOf h c b).length = c := by simp [probesOf]
set_option maxRecDepth 100000 in
set_option maxHeartbeats 800000 in
theorem rprobes_any (key : ByteArray) (hm : key.size ≤ 9223372036854775807) (b c : Nat) (hb0 : 0 < b) (hb : b < 4294967296) (hc : c ≤ 255) (w : World) :
    Calls Try.prog 20 #[.string key, .int .i64 (b : Int), .int .i64 (c : Int)] w (IntsR w (probesOf (hashN (natsOf key)) c b)) := by
  have hhl : hashN (natsOf key) < 4294967296 := hashF_lt _ _ (hash0_lt _)
  have HH : Hid (∀ wx, Calls Try.prog 12 #[.string key] wx fun e w' => e = .returned (.int .u32 (hashN (natsOf key) : Int)) ∧ Below wx.heap.size wx w') := Lib.hid (rhash_any key hm)
  generalize hashN (natsOf key) = h at *
  have htv := turn_val h
  have htl := turn17_lt h hhl
  have HPN : Hid (∀ i : Nat, wrap64 ((((h : Int) + (i : Int) * (turn17 h : Int)) % 4294967296) % (b : Int)) = (probeN h i b : Int)) := Lib.hid (fun i => by
    have e : (((h : Int) + (i : Int) * (turn17 h : Int)) % 4294967296) % (b : Int) = (probeN h i b : Int) := by
      unfold probeN; rw [Int.natCast_emod, Int.natCast_emod, Int.natCast_add, Int.natCast_mul]; rfl
    have hl := probeN_lt h i b hb0
    rw [e]; unfold wrap64; omega)
  have HPL := Lib.hid (fun i => probeN_lt h i b hb0)
  generalize turn17 h = T at *
  go_enter Try.func20, Try.ntmps20
  go_wp2_with fail
  refine (HH.out _).mono ?_
  rintro e w1 ⟨rfl, hb1⟩
  have B1 := Lib.hid hb1
  clear hb1
  go_wp2_with fail
  clear htv
  go_loopw [9, 10] (fun v x wr => ∃ i : Nat, i ≤ c ∧ x = .int .i64 (i : Int) ∧ Hid (wr.ownsRow w1.heap.size 3 1 v i (intV (probesOf h i b)) ∧ Below w1.heap.size w1 wr)) (fun _ x _ => c - (intOf x).toNat)
  case atStart => exact ⟨0, by omega, rfl, World.ownsRow_nil _ _ _ _, Below.refl _ _⟩
  case round =>
    obtain ⟨i, hi, rfl, hI⟩ := hrel
    obtain ⟨ho, hB⟩ := hI.out
    by_cases hlt : i < c
    · have hpv := HPN.out i
      have hpl := HPL.out i
      obtain ⟨v5, w5, r5, o5, b5⟩ := appI w1.heap.size w1 wr _ _ _ _ _ hpv ho hB (Nat.le_refl _) wr.heap.size rfl (by omega)
      have HF : Hid (w5.ownsRow w1.heap.size 3 1 v5 (i + 1) (intV (probesOf h (i + 1) b)) ∧ Below w1.heap.size w1 w5) := Lib.hid ⟨by rw [probesOf_snoc]; exact o5, b5⟩
      have hnz : ¬ ((b : Int) = 0) := by omega
      have hnz2 : ¬ (b = 0) := by omega
      clear ho hB hI o5 b5 hpv
      go_wp2_with (at_builtin; refine wpList_app_run rfl rfl r5 rfl rfl ?_)
      go_roundw
      case rel => exact ⟨i + 1, by omega, by go_num, HF.out⟩
      case measure => simp [intOf]; omega
    · obtain rfl : i = c := by omega
      obtain ⟨a, cap, rfl, hl, hy⟩ := ints_of_own ho
      have HF : Hid (IntsR w (probesOf h i b) (.returned (.slice a i cap)) wr) := Lib.hid ⟨a, cap, by rw [hl], hy, B1.out.trans (hB.mono B1.out.size)⟩
      clear ho hB hI hl hy
      go_wp2
      go_ret
      exact HF.out
end Go.Proofs.Ytfgcdmgbgadkgaa
