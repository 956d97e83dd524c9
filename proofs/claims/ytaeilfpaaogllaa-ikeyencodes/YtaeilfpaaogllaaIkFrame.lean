/-
  A version that came in.
-/
import Derived.Test.YtaeilfpaaogllaaIkKey
import Derived.RegionTactic
import Derived.BigRegion
import Derived.Deep.OwnRows
import Derived.ProofKit
import Derived.OpenShut
import Derived.ChangeOld
namespace Go.Proofs.Ytaeilfpaaogllaa
open Go.RowKit

theorem open_ver {H : Type} {enc : TypeId × Value → H} {W : World} {r : Reach} {b0 base : Nat} {sp : Nat → Bool} {held : Bool} {v : Value} {dt : DataW H} {ps : List MemPlace} (hval : Value.okWide Try.prog W r b0 23 v) (hd : DataW.Trod enc Try.prog W base sp held 23 v dt ps) :
    ∃ k s d, v = verV k s d ∧ k.size ≤ maxLen ∧ (Lit.int .i64 s).wf = true ∧ (Lit.int .i64 d).wf = true := by
  have hc : Try.prog.cellsOf 23 = 3 := by kernel_rfl
  simp only [Value.okWide, Try.underlying23] at hval
  obtain ⟨cs, rfl, hsz, _⟩ := hval
  obtain ⟨fuel, hf⟩ := hd
  obtain ⟨xs, k, _, _, hlen, hxl, hf2⟩ := DataW.trod_struct Try.underlying23 hf
  rw [hc] at hlen
  obtain ⟨l⟩ := cs
  simp only [Value.cells] at hlen hf2
  match l, hlen with
  | [v0, v1, v2], _ =>
    match xs, hxl with
    | [y0, y1, y2], _ =>
      have e3 : Try.prog.cellsOf 3 = 1 := by kernel_rfl
      have e9 : Try.prog.cellsOf 9 = 1 := by kernel_rfl
      have g0 := hf2 0 _ rfl
      have g1 := hf2 1 _ rfl
      have g2 := hf2 2 _ rfl
      simp [e9] at g0
      simp [e3] at g1 g2
      obtain ⟨q0, p0, _, r0⟩ := DataW.trod_string Try.underlying9 g0
      obtain ⟨q1, p1, _, r1⟩ := DataW.trod_int Try.underlying3 g1
      obtain ⟨q2, p2, _, r2⟩ := DataW.trod_int Try.underlying3 g2
      simp at p0 p1 p2
      subst p0 p1 p2
      exact ⟨_, _, _, rfl, r0, r1, r2⟩
theorem toList_iff {t u : ByteArray} : t.toList = u.toList ↔ t = u := ⟨toList_inj', fun h => by rw [h]⟩
def sameV (k : ByteArray) (s d : Int) (k' : ByteArray) (s' d' : Int) : Bool := decide (k = k' ∧ s = s' ∧ d = d')
theorem run_ver_eq (w : World) (k k' : ByteArray) (s d s' d' : Int) : (binOp .eql 23 (verV k s d) (verV k' s' d')).run Try.prog w = .ok (.bool (sameV k s d k' s' d')) w := by
  unfold verV sameV
  go_simp
  simp only [toList_iff]
  by_cases h1 : k = k' <;> by_cases h2 : s = s' <;> by_cases h3 : d = d' <;> simp [h1, h2, h3]
theorem run_ver_ne (w : World) (k k' : ByteArray) (s d s' d' : Int) : (binOp .neq 23 (verV k s d) (verV k' s' d')).run Try.prog w = .ok (.bool (!sameV k s d k' s' d')) w := by
  unfold verV sameV
  go_simp
  simp only [toList_iff]
  by_cases h1 : k = k' <;> by_cases h2 : s = s' <;> by_cases h3 : d = d' <;> simp [h1, h2, h3]
/-- A region that draws its order, whose operations and callees give one value each in every world that has grown from W. -/
theorem wp_region_grown {P : Program} {id : Nat} {Q : Exit → Act → World → Prop} {a : Act} {w : World} {l : List Oper} (hm : P.follows .mixedOrders = true) (hB : Region.lexB .any l.toArray = true)
    (h : wpQuiet P l.toArray (fun w' => ∃ x : {x : World // Below w.heap.size w x}, w' = x.val) (fun a' => ∀ w', (∃ x : {x : World // Below w.heap.size w x}, w' = x.val) → Q .normal a' w') l a) : (Code.region id l.toArray true).wp P Q a w :=
  wp_region_quiet (C := fun w' => ∃ x : {x : World // Below w.heap.size w x}, w' = x.val) hm hB ⟨⟨w.drew, (Below.refl _ w).drew⟩, rfl⟩ (by simpa using h)
theorem grown_same {P : Program} {f : FuncId} {args : Array Value} {w : World} {v : Value} {x : {x : World // Below w.heap.size w x}} (h : Calls P f args x.val fun e w' => e = .returned v ∧ x.val = w') :
    Calls P f args x.val fun e w'' => e = .returned v ∧ ∃ y : {x : World // Below w.heap.size w x}, w'' = y.val :=
  h.mono fun _ _ ⟨he, hw⟩ => ⟨he, x, hw.symm⟩
theorem grown_more {P : Program} {f : FuncId} {args : Array Value} {w : World} {v : Value} {x : {x : World // Below w.heap.size w x}} (h : Calls P f args x.val fun e w' => e = .returned v ∧ Below x.val.heap.size x.val w') :
    Calls P f args x.val fun e w'' => e = .returned v ∧ ∃ y : {x : World // Below w.heap.size w x}, w'' = y.val :=
  h.mono fun _ w' ⟨he, hb⟩ => ⟨he, ⟨w', x.2.trans (hb.mono x.2.size)⟩, rfl⟩

/-- A version that lies in memory. -/
structure VerAt (w : World) (b : Nat) (k : ByteArray) (s d : Int) : Prop where
  c0 : w.cell? ⟨b, 0, none⟩ = some (.string k)
  c1 : w.cell? ⟨b, 1, none⟩ = some (.int .i64 s)
  c2 : w.cell? ⟨b, 2, none⟩ = some (.int .i64 d)
  lt : b < w.heap.size
theorem VerAt.keep {w w' : World} {b : Nat} {k : ByteArray} {s d : Int} (h : VerAt w b k s d) (hb : Below w.heap.size w w') : VerAt w' b k s d :=
  ⟨(hb.cell (p := ⟨b, 0, none⟩) h.lt).trans h.c0, (hb.cell (p := ⟨b, 1, none⟩) h.lt).trans h.c1, (hb.cell (p := ⟨b, 2, none⟩) h.lt).trans h.c2, Nat.lt_of_lt_of_le h.lt hb.size⟩
theorem verAt_new (w : World) (k : ByteArray) (s d : Int) (t : TypeId) : VerAt (w.alloc (.cells #[.string k, .int .i64 s, .int .i64 d] t)) w.heap.size k s d :=
  ⟨by rw [World.cell?_alloc_mark]; rfl, by rw [World.cell?_alloc_mark]; rfl, by rw [World.cell?_alloc_mark]; rfl, by simp⟩
theorem bel_self {w w' : World} {B : Nat} (h : Below B w w') (o : Obj) (hB : B ≤ w'.heap.size) : Below B w (w'.alloc o) := h.alloc hB o
end Go.Proofs.Ytaeilfpaaogllaa
