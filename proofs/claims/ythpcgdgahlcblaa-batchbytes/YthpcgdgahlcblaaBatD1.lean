/-
  What cutText and cutOp answer: a text, a change, that bytes begin with.
-/
import Derived.Test.YthpcgdgahlcblaaBatL1
namespace Go.Proofs.Ythpcgdgahlcblaa
open Go.RowKit

/-- The text that bytes begin with, how many bytes it takes, and whether there is one. -/
def cutS (l : List Nat) (most : Nat) : ByteArray × Nat × Bool :=
  if (VA.getS l).2.2 ≠ 0 ∨ most < (VA.getS l).1 ∨ l.length - (VA.getS l).2.1 < (VA.getS l).1 then (⟨#[]⟩, 0, false)
  else (strOf ((l.take ((VA.getS l).2.1 + (VA.getS l).1)).drop (VA.getS l).2.1), (VA.getS l).2.1 + (VA.getS l).1, true)
theorem cutS_le {l : List Nat} {most : Nat} (hb : ∀ x ∈ l, x < 256) : (cutS l most).2.1 ≤ l.length ∧ (cutS l most).1.size ≤ most := by
  have hlt := VA.getS_lt l hb
  unfold cutS
  split
  · exact ⟨Nat.zero_le _, Nat.zero_le _⟩
  · rename_i h
    refine ⟨by dsimp only; omega, ?_⟩
    dsimp only
    rw [strOf_size, List.length_drop, List.length_take]
    omega
/-- What GetText tells, and what cutText makes of it. -/
theorem text_cut (l : List Nat) (most : Nat) : ∃ E : Int, VA.textV l most = .tuple #[.string (cutS l most).1, .int .i64 ((cutS l most).2.1 : Int), .int .i64 E] ∧ (E == 0) = (cutS l most).2.2 ∧ 0 ≤ E ∧ E ≤ 14 + ((VA.getS l).2.2 : Int) := by
  unfold VA.textV cutS
  by_cases h1 : (VA.getS l).2.2 ≠ 0
  · rw [if_pos h1, if_pos (.inl h1)]
    exact ⟨_, rfl, by simpa using h1, by omega, by omega⟩
  · rw [if_neg h1]
    by_cases h2 : most < (VA.getS l).1
    · rw [if_pos (.inr (by omega)), if_pos (.inr (.inl h2))]
      exact ⟨14, rfl, rfl, by omega, by omega⟩
    · rw [if_neg (by omega)]
      by_cases h3 : l.length - (VA.getS l).2.1 < (VA.getS l).1
      · rw [if_pos h3, if_pos (.inr (.inr h3))]
        exact ⟨9, rfl, rfl, by omega, by omega⟩
      · rw [if_neg h3, if_neg (fun h => h.elim h1 (fun h => h.elim h2 h3))]
        exact ⟨0, rfl, rfl, by omega, by omega⟩
theorem run_part_from0 {w : World} {a : Option Addr} (len cap p : Nat) (hp : p ≤ len) (hl : len ≤ cap) :
    (Instr.slice 23 (.slice a len cap) (some (.int .i64 (p : Int))) none none).run Try.prog w = .ok (.slice (part a cap p) (len - p) (cap - p)) w := run_part_from (w := w) (a := a) len cap p (p : Int) rfl hp hl
set_option maxRecDepth 100000 in
set_option maxHeartbeats 800000 in
theorem cutText_any (w : World) (a : Option Addr) (n cap : Nat) (l : List Nat) (hl : Byt w a l) (hn : l.length = n) (hb : ∀ x ∈ l, x < 256) (hnil : a = none → l = []) (hc : n ≤ cap) (hm : n ≤ 9223372036854775807) (most : Nat) (hmo : most ≤ 100000) :
    Calls Try.prog 71 #[.slice a n cap, .int .i64 (most : Int)] w fun e w' => e = .returned (.tuple #[.string (cutS l most).1, .slice (part a cap (cutS l most).2.1) (n - (cutS l most).2.1) (cap - (cutS l most).2.1), .bool (cutS l most).2.2]) ∧ ∃ q, w' = w.drewN q := by
  subst hn
  have hg := VA.getText_any w a cap l hl hb hnil hc (by unfold maxLen; omega) most (by omega)
  obtain ⟨E, hE, hE0, hE1, hE2⟩ := text_cut l most
  have hle := (cutS_le (most := most) hb).1
  have h9 := (VA.getS_lt l hb).2.2
  rw [hE] at hg
  have HG := Lib.hid hg
  obtain ⟨S, hS⟩ : ∃ S, (cutS l most).1 = S := ⟨_, rfl⟩
  obtain ⟨k, hk⟩ : ∃ k, (cutS l most).2.1 = k := ⟨_, rfl⟩
  obtain ⟨ok, hok⟩ : ∃ ok, (cutS l most).2.2 = ok := ⟨_, rfl⟩
  rw [hS, hk] at HG
  rw [hk] at hle
  rw [hok] at hE0
  rw [hS, hk, hok]
  have hsl := fun wx => run_part_from0 (w := wx) (a := a) l.length cap k hle hc
  clear hg hE hl hb hnil hS hk hok
  go_enter Try.func71, Try.ntmps71
  go_wp2_with fail
  refine HG.out.mono ?_
  rintro e w' ⟨rfl, rfl⟩
  go_wp2_with fail
  go_quiet (fail)
  go_wp2
  go_ret3
  exact ⟨rfl, _, rfl⟩
/-- The change that bytes begin with, how many bytes it takes, and whether there is one. -/
def cutOpS (l : List Nat) : OpV × Nat × Bool :=
  match l with
  | [] => (⟨0, ⟨#[]⟩, ⟨#[]⟩⟩, 0, false)
  | k :: r =>
    if (cutS r 64).2.2 = true ∧ k = 1 then (⟨1, (cutS r 64).1, (cutS (r.drop (cutS r 64).2.1) 1000).1⟩, 1 + (cutS r 64).2.1 + (cutS (r.drop (cutS r 64).2.1) 1000).2.1, (cutS (r.drop (cutS r 64).2.1) 1000).2.2)
    else (⟨(k : Int), (cutS r 64).1, ⟨#[]⟩⟩, 1 + (cutS r 64).2.1, (cutS r 64).2.2)
end Go.Proofs.Ythpcgdgahlcblaa
