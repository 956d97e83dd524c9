/-
  Changes: what they are, and their bytes.
-/
import Derived.Test.YthpcgdgahlcblaaFrFrW5
import Derived.Test.YthpcgdgahlcblaaVaVarPT
namespace Go.Proofs.Ythpcgdgahlcblaa
open Go.RowKit

/-- A change. -/
structure OpV where
  kind : Int
  key : ByteArray
  val : ByteArray
def OpV.v (o : OpV) : Value := .agg #[.int .i64 o.kind, .string o.key, .string o.val]
def OpV.fit (o : OpV) : Prop := -9223372036854775808 ≤ o.kind ∧ o.kind ≤ 9223372036854775807 ∧ o.key.size ≤ 9223372036854775807 ∧ o.val.size ≤ 9223372036854775807
def bigB (o : OpV) : Bool := decide (64 < o.key.size) || decide (1000 < o.val.size)
def formB (o : OpV) : Bool := if o.kind = 1 then decide (o.key.size = 0) else if o.kind = 0 then decide (o.key.size = 0) || !decide (o.val.size = 0) else true
/-- What Check answers. -/
def chkI (seq : Int) (l : List OpV) : Int :=
  if 200 < l.length ∨ l.any bigB = true then 14 else if l.length = 0 ∨ l.any formB = true then 2
  else if seq < 1 ∨ 72057594037927935 - ((l.length : Int) - 1) < seq then 1 else 0
/-- A change's bytes. -/
def textL (s : ByteArray) : List Nat := VA.putL s.size ++ natsOf s
def opL (o : OpV) : List Nat := (o.kind % 256).toNat :: (textL o.key ++ if o.kind = 1 then textL o.val else [])
def opsL (l : List OpV) : List Nat := l.flatMap opL
/-- A batch's bytes. -/
def encL (seq : Nat) (l : List OpV) : List Nat := fixL seq 8 ++ fixL l.length 4 ++ opsL l
/-- Changes in memory, three cells each. -/
def OpsAt (w : World) (a : Option Addr) (l : List OpV) : Prop :=
  l = [] ∨ ∃ b off, a = some ⟨b, off, none⟩ ∧ b < w.heap.size ∧ ∀ i (_ : i < l.length), w.cell? ⟨b, off + i * 3, none⟩ = some (.int .i64 l[i].kind) ∧ w.cell? ⟨b, off + i * 3 + 1, none⟩ = some (.string l[i].key) ∧ w.cell? ⟨b, off + i * 3 + 2, none⟩ = some (.string l[i].val)
theorem OpsAt.keep {w w' : World} {a : Option Addr} {l : List OpV} (h : OpsAt w a l) (hb : Below w.heap.size w w') : OpsAt w' a l := by
  rcases h with h | ⟨b, off, rfl, hlt, hc⟩
  · exact .inl h
  · refine .inr ⟨b, off, rfl, Nat.lt_of_lt_of_le hlt hb.size, fun i hi => ?_⟩
    obtain ⟨h1, h2, h3⟩ := hc i hi
    exact ⟨(hb.cell (p := ⟨b, off + i * 3, none⟩) hlt).trans h1, (hb.cell (p := ⟨b, off + i * 3 + 1, none⟩) hlt).trans h2, (hb.cell (p := ⟨b, off + i * 3 + 2, none⟩) hlt).trans h3⟩
theorem OpsAt.at {w : World} {a : Option Addr} {l : List OpV} (h : OpsAt w a l) {i : Nat} (hi : i < l.length) : ∃ b off, a = some ⟨b, off, none⟩ ∧ b < w.heap.size ∧ w.cell? ⟨b, off + i * 3, none⟩ = some (.int .i64 l[i].kind) ∧ w.cell? ⟨b, off + i * 3 + 1, none⟩ = some (.string l[i].key) ∧ w.cell? ⟨b, off + i * 3 + 2, none⟩ = some (.string l[i].val) := by
  rcases h with h | ⟨b, off, rfl, hlt, hc⟩
  · subst h; simp at hi
  · exact ⟨b, off, rfl, hlt, hc i hi⟩
end Go.Proofs.Ythpcgdgahlcblaa
