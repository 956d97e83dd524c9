/-
  A pool of regions as it lies in memory: the abstract pool 'Ps', 'PoolAt' (it lies in a world, within a footprint F), and what keeps it there.
-/
import Derived.WalkKit
import Derived.Deep.OwnRows
import Derived.Deep.AppendLies
import Derived.Deep.QuietTactic
namespace Go.Proofs.Ytaaalfimlpeddaa
open Go.RowKit

/-- From w to w': blocks outside F are as they were; the new footprint F' has old footprint blocks and new blocks alone. -/
structure Moves (F : Nat → Prop) (w : World) (F' : Nat → Prop) (w' : World) : Prop where
  os : w'.os = w.os
  tape : w'.tape = w.tape
  output : w'.output = w.output
  size : w.heap.size ≤ w'.heap.size
  block : ∀ k, k < w.heap.size → ¬ F k → w'.heap[k]? = w.heap[k]?
  foot : ∀ k, F' k → F k ∨ w.heap.size ≤ k

theorem Moves.refl (F : Nat → Prop) (w : World) : Moves F w F w := ⟨rfl, rfl, rfl, Nat.le_refl _, fun _ _ _ => rfl, fun _ h => .inl h⟩
theorem Moves.trans {F F1 F2 : Nat → Prop} {w w1 w2 : World} (h : Moves F w F1 w1) (k : Moves F1 w1 F2 w2) : Moves F w F2 w2 :=
  ⟨k.os.trans h.os, k.tape.trans h.tape, k.output.trans h.output, Nat.le_trans h.size k.size,
   fun b hb hf => (k.block b (Nat.lt_of_lt_of_le hb h.size) (fun hf1 => (h.foot b hf1).elim hf (fun h1 => by omega))).trans (h.block b hb hf),
   fun b hb => by
     rcases k.foot b hb with h1 | h1
     · exact h.foot b h1
     · exact .inr (Nat.le_trans h.size h1)⟩
theorem Moves.alloc (F : Nat → Prop) (w : World) (o : Obj) : Moves F w F (w.alloc o) :=
  ⟨rfl, rfl, rfl, by simp, fun k hk _ => Below.heap_alloc _ _ _ hk, fun _ h => .inl h⟩
theorem Moves.drewN (F : Nat → Prop) (w : World) (n : Nat) : Moves F w F (w.drewN n) := ⟨rfl, rfl, rfl, Nat.le_refl _, fun _ _ _ => rfl, fun _ h => .inl h⟩
theorem Moves.drew (F : Nat → Prop) (w : World) : Moves F w F w.drew := ⟨rfl, rfl, rfl, Nat.le_refl _, fun _ _ _ => rfl, fun _ h => .inl h⟩
/-- A store into a block of the footprint. -/
theorem Moves.setCell {F : Nat → Prop} (w : World) {a : Addr} (ha : F a.block) (v : Value) : Moves F w F (w.setCell a v) :=
  ⟨rfl, rfl, rfl, by simp [World.setCell], fun k _ hf => Below.heap_setCell _ _ _ _ (fun e => hf (by rw [e]; exact ha)), fun _ h => .inl h⟩
/-- A larger footprint, of what is written. -/
theorem Moves.widen {F G F' : Nat → Prop} {w w' : World} (h : Moves F w F' w') (hG : ∀ k, F k → G k) : Moves G w F' w' :=
  ⟨h.os, h.tape, h.output, h.size, fun k hk hf => h.block k hk (fun hF => hf (hG k hF)), fun k hk => (h.foot k hk).imp (hG k) id⟩
theorem Moves.below {F F' : Nat → Prop} {w w' : World} (h : Moves F w F' w') {B : Nat} (hB : B ≤ w.heap.size) (hF : ∀ k, F k → B ≤ k) : Below B w w' :=
  ⟨h.os, h.tape, h.output, h.size, fun k hk => h.block k (by omega) (fun hf => by have := hF k hf; omega)⟩

/-- Only block b may have turned. -/
structure Touch (b : Nat) (w w' : World) : Prop where
  os : w'.os = w.os
  tape : w'.tape = w.tape
  output : w'.output = w.output
  size : w'.heap.size = w.heap.size
  block : ∀ k, k ≠ b → w'.heap[k]? = w.heap[k]?
theorem Touch.refl (b : Nat) (w : World) : Touch b w w := ⟨rfl, rfl, rfl, rfl, fun _ _ => rfl⟩
theorem Touch.trans {b : Nat} {w w1 w2 : World} (h : Touch b w w1) (k : Touch b w1 w2) : Touch b w w2 :=
  ⟨k.os.trans h.os, k.tape.trans h.tape, k.output.trans h.output, k.size.trans h.size, fun i hi => (k.block i hi).trans (h.block i hi)⟩
theorem Touch.setCell {w : World} {a : Addr} (v : Value) : Touch a.block w (w.setCell a v) :=
  ⟨rfl, rfl, rfl, by simp [World.setCell], fun k hk => Below.heap_setCell _ _ _ _ hk⟩
theorem Touch.drewN (b : Nat) (w : World) (n : Nat) : Touch b w (w.drewN n) := ⟨rfl, rfl, rfl, rfl, fun _ _ => rfl⟩
theorem Touch.moves {b : Nat} {F : Nat → Prop} {w w' : World} (h : Touch b w w') (hF : F b) : Moves F w F w' :=
  ⟨h.os, h.tape, h.output, by rw [h.size]; exact Nat.le_refl _, fun k _ hf => h.block k (fun e => hf (by rw [e]; exact hF)), fun _ h => .inl h⟩

/-- A pool, as the document tells it, and where it lies. -/
structure Ps where
  pb : Nat
  bb : Nat
  tb : Nat
  size : Nat
  n : Nat
  live : Nat → Bool
  gen : Nat → Nat
  fill : Nat → Nat
  sl : Nat → List Nat
  sv : Nat → Value
  bt : Nat → Nat
  tk : Nat → Bool

def Ps.pc (S : Ps) (j : Nat) : Value :=
  if j = 0 then .int .i64 S.size
  else if j = 1 then .slice (some ⟨S.bb, 0, none⟩) (S.size * S.n) (S.size * S.n)
  else if j = 2 then .slice (some ⟨S.tb, 0, none⟩) S.n S.n
  else if (j - 3) % 4 = 0 then .bool (S.live ((j - 3) / 4))
  else if (j - 3) % 4 = 1 then .int .i64 (S.gen ((j - 3) / 4))
  else if (j - 3) % 4 = 2 then S.sv ((j - 3) / 4)
  else .int .i64 (S.fill ((j - 3) / 4))

theorem Ps.pc_live (S : Ps) (i : Nat) : S.pc (3 + i * 4) = .bool (S.live i) := by
  have h1 : (3 + i * 4 - 3) % 4 = 0 := by omega
  have h2 : (3 + i * 4 - 3) / 4 = i := by omega
  unfold Ps.pc; rw [if_neg (by omega), if_neg (by omega), if_neg (by omega), if_pos h1, h2]
theorem Ps.pc_gen (S : Ps) (i : Nat) : S.pc (3 + i * 4 + 1) = .int .i64 (S.gen i) := by
  have h1 : (3 + i * 4 + 1 - 3) % 4 = 1 := by omega
  have h2 : (3 + i * 4 + 1 - 3) / 4 = i := by omega
  unfold Ps.pc; rw [if_neg (by omega), if_neg (by omega), if_neg (by omega), if_neg (by omega), if_pos h1, h2]
theorem Ps.pc_sv (S : Ps) (i : Nat) : S.pc (3 + i * 4 + 2) = S.sv i := by
  have h1 : (3 + i * 4 + 2 - 3) % 4 = 2 := by omega
  have h2 : (3 + i * 4 + 2 - 3) / 4 = i := by omega
  unfold Ps.pc; rw [if_neg (by omega), if_neg (by omega), if_neg (by omega), if_neg (by omega), if_neg (by omega), if_pos h1, h2]
theorem Ps.pc_fill (S : Ps) (i : Nat) : S.pc (3 + i * 4 + 3) = .int .i64 (S.fill i) := by
  have h2 : (3 + i * 4 + 3 - 3) / 4 = i := by omega
  unfold Ps.pc; rw [if_neg (by omega), if_neg (by omega), if_neg (by omega), if_neg (by omega), if_neg (by omega), if_neg (by omega), h2]

/-- The pool S lies in w, within F. -/
structure PoolAt (w : World) (S : Ps) (F : Nat → Prop) : Prop where
  hP : w.rowIs S.pb 78 1027 S.pc
  hB : w.rowIs S.bb 5 (S.size * S.n) (fun j => .int .u8 (S.bt j))
  hT : w.rowIs S.tb 4 S.n (fun j => .bool (S.tk j))
  hR : ∀ i, i < 256 → w.ownsRow 0 3 1 (S.sv i) (S.sl i).length ((S.sl i).map fun j : Nat => Value.int .i64 j)
  n1 : S.pb ≠ S.bb
  n2 : S.pb ≠ S.tb
  n3 : S.bb ≠ S.tb
  n4 : ∀ i, i < 256 → ∀ g, (S.sv i).ownBlock = some g → g ≠ S.pb ∧ g ≠ S.bb ∧ g ≠ S.tb ∧ F g
  n5 : ∀ i j, i < 256 → j < 256 → i ≠ j → ∀ g, (S.sv i).ownBlock = some g → (S.sv j).ownBlock ≠ some g
  fp : F S.pb
  fb : F S.bb
  ft : F S.tb
  fl : ∀ g, F g → g < w.heap.size

theorem PoolAt.keep {w w' : World} {S : Ps} {F : Nat → Prop} (h : PoolAt w S F) (hk : ∀ k, F k → w'.heap[k]? = w.heap[k]?) (hs : w.heap.size ≤ w'.heap.size) : PoolAt w' S F := by
  refine ⟨h.hP.of_block (hk _ h.fp), h.hB.of_block (hk _ h.fb), h.hT.of_block (hk _ h.ft), fun i hi => ?_, h.n1, h.n2, h.n3, h.n4, h.n5, h.fp, h.fb, h.ft, fun g hg => Nat.lt_of_lt_of_le (h.fl g hg) hs⟩
  obtain ⟨h1, h2⟩ := h.hR i hi
  refine ⟨h1, ?_⟩
  rcases h2 with h2 | ⟨g, cap, cur, hv, hg, hh, r⟩
  · exact .inl h2
  · exact .inr ⟨g, cap, cur, hv, hg, by rw [hk g (h.n4 i hi g (by rw [hv]; rfl)).2.2.2]; exact hh, r⟩
theorem PoolAt.drewN {w : World} {S : Ps} {F : Nat → Prop} (h : PoolAt w S F) (n : Nat) : PoolAt (w.drewN n) S F := h.keep (fun _ _ => rfl) (Nat.le_refl _)
theorem PoolAt.alloc {w : World} {S : Ps} {F : Nat → Prop} (h : PoolAt w S F) (o : Obj) : PoolAt (w.alloc o) S F := h.keep (fun k hk => Below.heap_alloc _ _ _ (h.fl k hk)) (by simp)
/-- A store outside. -/
theorem PoolAt.setOut {w : World} {S : Ps} {F : Nat → Prop} (h : PoolAt w S F) {a : Addr} (ha : ¬ F a.block) (v : Value) : PoolAt (w.setCell a v) S F :=
  h.keep (fun k hk => Below.heap_setCell _ _ _ _ (fun e => ha (by rw [← e]; exact hk))) (by simp [World.setCell])

section
variable {w : World} {S : Ps} {F : Nat → Prop}
theorem PoolAt.c0 (h : PoolAt w S F) : w.cell? ⟨S.pb, 0, none⟩ = some (.int .i64 S.size) := by rw [h.hP.cell (by omega)]; rfl
theorem PoolAt.c1 (h : PoolAt w S F) : w.cell? ⟨S.pb, 1, none⟩ = some (.slice (some ⟨S.bb, 0, none⟩) (S.size * S.n) (S.size * S.n)) := by rw [h.hP.cell (by omega)]; rfl
theorem PoolAt.c2 (h : PoolAt w S F) : w.cell? ⟨S.pb, 2, none⟩ = some (.slice (some ⟨S.tb, 0, none⟩) S.n S.n) := by rw [h.hP.cell (by omega)]; rfl
theorem PoolAt.cl (h : PoolAt w S F) {i : Nat} (hi : i < 256) : w.cell? ⟨S.pb, 3 + i * 4, none⟩ = some (.bool (S.live i)) := by rw [h.hP.cell (by omega), S.pc_live]
theorem PoolAt.cg (h : PoolAt w S F) {i : Nat} (hi : i < 256) : w.cell? ⟨S.pb, 3 + i * 4 + 1, none⟩ = some (.int .i64 (S.gen i)) := by rw [h.hP.cell (by omega), S.pc_gen]
theorem PoolAt.cs (h : PoolAt w S F) {i : Nat} (hi : i < 256) : w.cell? ⟨S.pb, 3 + i * 4 + 2, none⟩ = some (S.sv i) := by rw [h.hP.cell (by omega), S.pc_sv]
theorem PoolAt.cf (h : PoolAt w S F) {i : Nat} (hi : i < 256) : w.cell? ⟨S.pb, 3 + i * 4 + 3, none⟩ = some (.int .i64 (S.fill i)) := by rw [h.hP.cell (by omega), S.pc_fill]
theorem PoolAt.cb (h : PoolAt w S F) {j : Nat} (hj : j < S.size * S.n) : w.cell? ⟨S.bb, j, none⟩ = some (.int .u8 (S.bt j)) := h.hB.cell hj
theorem PoolAt.ct (h : PoolAt w S F) {j : Nat} (hj : j < S.n) : w.cell? ⟨S.tb, j, none⟩ = some (.bool (S.tk j)) := h.hT.cell hj

/-- The pool's own cells, turned: what else lies there stays. -/
theorem PoolAt.turnP (h : PoolAt w S F) {S' : Ps} {w' : World} (ht : Touch S.pb w w') (hP : w'.rowIs S.pb 78 1027 S'.pc)
    (e1 : S'.pb = S.pb) (e2 : S'.bb = S.bb) (e3 : S'.tb = S.tb) (e4 : S'.size = S.size) (e5 : S'.n = S.n) (e6 : S'.bt = S.bt) (e7 : S'.tk = S.tk)
    (hR : ∀ i, i < 256 → S'.sv i = S.sv i ∧ S'.sl i = S.sl i ∨ S'.sv i = .slice none 0 0 ∧ S'.sl i = []) : PoolAt w' S' F := by
  refine ⟨by rw [e1]; exact hP, ?_, ?_, fun i hi => ?_, by rw [e1, e2]; exact h.n1, by rw [e1, e3]; exact h.n2, by rw [e2, e3]; exact h.n3, fun i hi g hg => ?_, fun i j hi hj hij g hg => ?_, by rw [e1]; exact h.fp, by rw [e2]; exact h.fb, by rw [e3]; exact h.ft, fun g hg => by rw [ht.size]; exact h.fl g hg⟩
  · rw [e2, e4, e5, e6]; exact h.hB.of_block (ht.block _ h.n1.symm)
  · rw [e3, e5, e7]; exact h.hT.of_block (ht.block _ h.n2.symm)
  · rcases hR i hi with ⟨a, b⟩ | ⟨a, b⟩
    · rw [a, b]
      obtain ⟨h1, h2⟩ := h.hR i hi
      refine ⟨h1, ?_⟩
      rcases h2 with h2 | ⟨g, cap, cur, hv, hg, hh, r⟩
      · exact .inl h2
      · exact .inr ⟨g, cap, cur, hv, hg, by rw [ht.block g (h.n4 i hi g (by rw [hv]; rfl)).1]; exact hh, r⟩
    · rw [a, b]; exact World.ownsRow_nil _ _ _ _
  · rcases hR i hi with ⟨a, _⟩ | ⟨a, _⟩
    · rw [a] at hg; rw [e1, e2, e3]; exact h.n4 i hi g hg
    · rw [a] at hg; simp [Value.ownBlock] at hg
  · rcases hR i hi with ⟨a, _⟩ | ⟨a, _⟩
    · rw [a] at hg
      rcases hR j hj with ⟨b, _⟩ | ⟨b, _⟩
      · rw [b]; exact h.n5 i j hi hj hij g hg
      · rw [b]; simp [Value.ownBlock]
    · rw [a] at hg; simp [Value.ownBlock] at hg
/-- The bytes, turned. -/
theorem PoolAt.turnB (h : PoolAt w S F) {bt : Nat → Nat} {w' : World} (ht : Touch S.bb w w') (hB : w'.rowIs S.bb 5 (S.size * S.n) (fun j => .int .u8 (bt j))) : PoolAt w' { S with bt := bt } F := by
  refine ⟨h.hP.of_block (ht.block _ h.n1), hB, h.hT.of_block (ht.block _ h.n3.symm), fun i hi => ?_, h.n1, h.n2, h.n3, h.n4, h.n5, h.fp, h.fb, h.ft, fun g hg => by rw [ht.size]; exact h.fl g hg⟩
  obtain ⟨h1, h2⟩ := h.hR i hi
  refine ⟨h1, ?_⟩
  rcases h2 with h2 | ⟨g, cap, cur, hv, hg, hh, r⟩
  · exact .inl h2
  · exact .inr ⟨g, cap, cur, hv, hg, by rw [ht.block g (h.n4 i hi g (by rw [hv]; rfl)).2.1]; exact hh, r⟩
/-- Which slabs are taken, turned. -/
theorem PoolAt.turnT (h : PoolAt w S F) {tk : Nat → Bool} {w' : World} (ht : Touch S.tb w w') (hT : w'.rowIs S.tb 4 S.n (fun j => .bool (tk j))) : PoolAt w' { S with tk := tk } F := by
  refine ⟨h.hP.of_block (ht.block _ h.n2), h.hB.of_block (ht.block _ h.n3), hT, fun i hi => ?_, h.n1, h.n2, h.n3, h.n4, h.n5, h.fp, h.fb, h.ft, fun g hg => by rw [ht.size]; exact h.fl g hg⟩
  obtain ⟨h1, h2⟩ := h.hR i hi
  refine ⟨h1, ?_⟩
  rcases h2 with h2 | ⟨g, cap, cur, hv, hg, hh, r⟩
  · exact .inl h2
  · exact .inr ⟨g, cap, cur, hv, hg, by rw [ht.block g (h.n4 i hi g (by rw [hv]; rfl)).2.2.1]; exact hh, r⟩
theorem PoolAt.setTk (h : PoolAt w S F) (j : Nat) (b : Bool) : PoolAt (w.setCell ⟨S.tb, j, none⟩ (.bool b)) { S with tk := fun i => if i = j then b else S.tk i } F :=
  h.turnT (Touch.setCell (a := ⟨S.tb, j, none⟩) _) ((h.hT.set j (.bool b)).congr (fun i _ => by by_cases e : i = j <;> simp [e]))
theorem PoolAt.setFill (h : PoolAt w S F) (i : Nat) (n : Nat) : PoolAt (w.setCell ⟨S.pb, 3 + i * 4 + 3, none⟩ (.int .i64 n)) { S with fill := fun k => if k = i then n else S.fill k } F := by
  refine h.turnP (Touch.setCell (a := ⟨S.pb, 3 + i * 4 + 3, none⟩) _) ((h.hP.set (3 + i * 4 + 3) (.int .i64 n)).congr (fun j _ => ?_)) rfl rfl rfl rfl rfl rfl rfl (fun _ _ => .inl ⟨rfl, rfl⟩)
  by_cases e : j = 3 + i * 4 + 3
  · rw [if_pos e, e, Ps.pc_fill]; simp
  · rw [if_neg e]
    unfold Ps.pc
    by_cases a0 : j = 0 <;> by_cases a1 : j = 1 <;> by_cases a2 : j = 2 <;> by_cases a3 : (j - 3) % 4 = 0 <;> by_cases a4 : (j - 3) % 4 = 1 <;> by_cases a5 : (j - 3) % 4 = 2 <;> simp only [a0, a1, a2, a3, a4, a5, if_true, if_false]
    have : (j - 3) / 4 ≠ i := by omega
    rw [if_neg this]
end
end Go.Proofs.Ytaaalfimlpeddaa
