/-
  A piece that is laid behind bytes of one's own; a piece that is read.
-/
import Derived.Test.YthpcgdgahlcblaaFrFrW1
import Derived.Laws.OwnMore
import Derived.Laws.AppendOwnNone
namespace Go.Proofs.Ythpcgdgahlcblaa
open Go.RowKit

/-- Bytes that lie in memory, in a block below B. -/
def BytB (B : Nat) (w : World) (a : Option Addr) (l : List Nat) : Prop :=
  l = [] ∨ ∃ b off, a = some ⟨b, off, none⟩ ∧ b < B ∧ b < w.heap.size ∧ ∀ i (_ : i < l.length), w.cell? ⟨b, off + i, none⟩ = some (.int .u8 (l[i] : Int))
theorem BytB.byt {B : Nat} {w : World} {a : Option Addr} {l : List Nat} (h : BytB B w a l) : Byt w a l := by
  rcases h with h | ⟨b, off, h1, _, h2, h3⟩
  · exact .inl h
  · exact .inr ⟨b, off, h1, h2, h3⟩
theorem Byt.low {w : World} {a : Option Addr} {l : List Nat} (h : Byt w a l) : BytB w.heap.size w a l := by
  rcases h with h | ⟨b, off, h1, h2, h3⟩
  · exact .inl h
  · exact .inr ⟨b, off, h1, h2, h2, h3⟩
theorem BytB.keep {B : Nat} {w w' : World} {a : Option Addr} {l : List Nat} (h : BytB B w a l) (hb : Below B w w') : BytB B w' a l := by
  rcases h with h | ⟨b, off, rfl, h1, h2, h3⟩
  · exact .inl h
  · exact .inr ⟨b, off, rfl, h1, Nat.lt_of_lt_of_le h2 hb.size, fun i hi => (hb.cell (p := ⟨b, off + i, none⟩) h1).trans (h3 i hi)⟩
theorem BytB.part {B : Nat} {w : World} {a : Option Addr} {l : List Nat} (h : BytB B w a l) (cap p q : Nat) (hc : l.length ≤ cap) (hpq : p ≤ q) (hq : q ≤ l.length) : BytB B w (part a cap p) ((l.take q).drop p) := by
  by_cases h0 : p = q
  · left; subst h0; simp
  · right
    rcases h with h | ⟨b, off, rfl, h1, hlt, hcl⟩
    · subst h; simp at hq; omega
    · refine ⟨b, off + p, ?_, h1, hlt, fun i hi => ?_⟩
      · unfold Ythpcgdgahlcblaa.part; rw [if_neg (by omega)]; simp [addr_add]
      · simp at hi
        have := hcl (p + i) (by omega)
        rw [Nat.add_assoc, this]; simp
theorem BytB.mono {B B' : Nat} {w : World} {a : Option Addr} {l : List Nat} (h : BytB B w a l) (hB : B ≤ B') : BytB B' w a l := by
  rcases h with h | ⟨b, off, h1, h2, h3⟩
  · exact .inl h
  · exact .inr ⟨b, off, h1, by omega, h3⟩
theorem BytB.sub {B : Nat} {w : World} {a : Option Addr} {l l' : List Nat} (h : BytB B w a l) (e : l = l') : BytB B w a l' := e ▸ h
/-- Bytes (maybe none) appended to a row of one's own; all blocks but the row's stay. -/
theorem appU (B : Nat) (w : World) (v : Value) (ys zs : List Nat) (n : Nat) (a : Option Addr) (cap : Nat) (hown : w.ownsRow B 5 1 v n (u8s ys)) (hy : Byt w a zs) (hnil : a = none → zs = [] ∧ cap = 0) (hB : B ≤ w.heap.size) (hl : n + zs.length ≤ 1000000000) :
    ∃ v' w2, (Builtin.append_ #[23, 23] 23 #[v, .slice a zs.length cap]).run Try.prog w = .ok v' w2 ∧ w2.ownsRow B 5 1 v' (n + zs.length) (u8s (ys ++ zs)) ∧ Below B w w2 ∧ ∀ q, q < w.heap.size → v.ownBlock ≠ some q → v'.ownBlock ≠ some q ∧ w2.heap[q]? = w.heap[q]? := by
  obtain ⟨i0, hi0, hz0, hz1, hz2⟩ := info_parts Try.info5
  cases a with
  | none =>
    obtain ⟨rfl, rfl⟩ := hnil rfl
    have hrun := run_append_owned_none (P := Try.prog) (w := w) B 23 23 5 i0 1 Try.underlying23 hi0 v n (u8s ys) hown
    exact ⟨v, w, hrun, by rw [List.append_nil]; exact hown, Below.refl _ _, fun q _ h => ⟨h, rfl⟩⟩
  | some x =>
    have hc : ∀ j u, (u8s zs)[j]? = some u → w.cell? (x.add j) = some u := by
      intro j u hu
      simp only [u8s, List.getElem?_map, Option.map_eq_some_iff] at hu
      obtain ⟨y, hx, rfl⟩ := hu
      obtain ⟨hj, rfl⟩ := List.getElem?_eq_some_iff.1 hx
      rcases hy with h | ⟨b, off, e, _, hcl⟩
      · subst h; simp at hj
      · rw [Option.some.inj e, addr_add, hcl j hj]
    obtain ⟨v', w2, h1, h2, h3, _, h5⟩ := run_append_own_at (P := Try.prog) w B 23 23 5 i0 (.int .u8 0) 1 1 Try.underlying23 hi0 hz0 hz1 hz2 rfl (by decide) v n (u8s ys) hown x zs.length cap (u8s zs) (by simp [u8s]) hc (u8s_one zs) (by unfold maxLen; omega) (by omega) (by omega)
    refine ⟨v', w2, h1, by rw [u8s_app]; exact h2, (Below.refl B w).grown h3 (by omega) (fun g hg => (hown.lt g hg).1), fun q hq hv => ⟨fun e => ?_, h3.block q hq (fun e => hv e.symm)⟩⟩
    rcases h5 with h5 | h5
    · exact hv (by rw [← h5]; exact e)
    · rw [h5] at e; have := Option.some.inj e; omega
theorem Byt.blk {w w' : World} {b off : Nat} {l : List Nat} (h : Byt w (some ⟨b, off, none⟩) l) (hb : w'.heap[b]? = w.heap[b]?) (hlt : b < w'.heap.size) : Byt w' (some ⟨b, off, none⟩) l := by
  rcases h with h | ⟨b', off', e, h1, h2⟩
  · exact .inl h
  · cases e
    exact .inr ⟨_, _, rfl, hlt, fun i hi => (World.cell?_of_block (w := w) (a := ⟨_, _ + i, none⟩) hb).trans (h2 i hi)⟩
theorem own_lt {w : World} {B n q : Nat} {v : Value} {xs : List Value} (h : w.ownsRow B 5 1 v n xs) (hq : w.heap.size ≤ q) : v.ownBlock ≠ some q := fun e => by
  have := (h.lt q e).2; omega
end Go.Proofs.Ythpcgdgahlcblaa
