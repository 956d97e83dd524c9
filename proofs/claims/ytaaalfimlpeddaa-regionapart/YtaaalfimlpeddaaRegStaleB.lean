/-
  What the law RegionStale keeps true in memory from round to round.
-/
import Derived.Test.YtaaalfimlpeddaaRegStaleA
import Derived.Test.YtaaalfimlpeddaaRegRow
namespace Go.Proofs.Ytaaalfimlpeddaa.regionStale
open Go.RowKit

theorem Try.info41 : (Try.prog.info? 41).map (fun i => (i.zero, i.size, i.bytes)) = some (some (.agg #[.int .i64 0, .int .i64 0, .int .i64 0, .int .i64 0]), 4, 32) := by kernel_rfl

structure SInv (w0 wr : World) (pb LB TB : Nat) (dv : Value) (m : Nat) (S : Ps) (F : Nat → Prop) (H : Nat → Hd) (th : Nat → Bool) (D : List Hd) : Prop where
  st : St w0 wr S F
  pb : S.pb = pb
  pv : PInv S H th D m
  rl : wr.rowIs LB 41 16 (fun c => (H (c / 4)).cell (c % 4))
  rt : wr.rowIs TB 4 4 (fun c => .bool (th c))
  rd : wr.ownsRow w0.heap.size 41 4 dv D.length (D.flatMap Hd.cells)
  nl : ¬ F LB
  nt : ¬ F TB
  ne : LB ≠ TB
  bl : w0.heap.size ≤ LB
  bt : w0.heap.size ≤ TB
  nd : ∀ g, dv.ownBlock = some g → ¬ F g ∧ g ≠ LB ∧ g ≠ TB

theorem ownsRow_block {w w' : World} {base : Nat} {e : TypeId} {size : Nat} {v : Value} {n : Nat} {xs : List Value} (h : w.ownsRow base e size v n xs) (hb : ∀ g, v.ownBlock = some g → w'.heap[g]? = w.heap[g]?) : w'.ownsRow base e size v n xs := by
  obtain ⟨h1, h2⟩ := h
  refine ⟨h1, ?_⟩
  rcases h2 with h2 | ⟨g, cap, cur, hv, hg, hh, r⟩
  · exact .inl h2
  · exact .inr ⟨g, cap, cur, hv, hg, by rw [hb g (by rw [hv]; rfl)]; exact hh, r⟩

section
variable {w0 wr w' : World} {pb LB TB : Nat} {dv : Value} {m : Nat} {S : Ps} {F : Nat → Prop} {H : Nat → Hd} {th : Nat → Bool} {D : List Hd}
theorem SInv.grew (h : SInv w0 wr pb LB TB dv m S F H th D) (hg : Grew wr w') : SInv w0 w' pb LB TB dv m S F H th D :=
  ⟨h.st.grew hg, h.pb, h.pv, h.rl.of_block (hg.block _ h.rl.lt), h.rt.of_block (hg.block _ h.rt.lt), ownsRow_block h.rd (fun g hgg => hg.block g (h.rd.lt g hgg).2), h.nl, h.nt, h.ne, h.bl, h.bt, h.nd⟩
theorem SInv.c0 (h : SInv w0 wr pb LB TB dv m S F H th D) {k : Nat} (hk : k < 4) : wr.cell? ⟨LB, k * 4, none⟩ = some (.int .i64 (H k).r) := by
  rw [h.rl.cell (by omega)]; simp [Hd.cell]
theorem SInv.c1 (h : SInv w0 wr pb LB TB dv m S F H th D) {k : Nat} (hk : k < 4) : wr.cell? ⟨LB, k * 4 + 1, none⟩ = some (.int .i64 (H k).g) := by
  rw [h.rl.cell (by omega), show (k * 4 + 1) / 4 = k from by omega, show (k * 4 + 1) % 4 = 1 from by omega]; simp [Hd.cell]
theorem SInv.c2 (h : SInv w0 wr pb LB TB dv m S F H th D) {k : Nat} (hk : k < 4) : wr.cell? ⟨LB, k * 4 + 2, none⟩ = some (.int .i64 (H k).o) := by
  rw [h.rl.cell (by omega), show (k * 4 + 2) / 4 = k from by omega, show (k * 4 + 2) % 4 = 2 from by omega]; simp [Hd.cell]
theorem SInv.c3 (h : SInv w0 wr pb LB TB dv m S F H th D) {k : Nat} (hk : k < 4) : wr.cell? ⟨LB, k * 4 + 3, none⟩ = some (.int .i64 (H k).l) := by
  rw [h.rl.cell (by omega), show (k * 4 + 3) / 4 = k from by omega, show (k * 4 + 3) % 4 = 3 from by omega]; simp [Hd.cell]
end

theorem flat_get : ∀ (D : List Hd) (j c : Nat), c < 4 → j < D.length → (D.flatMap Hd.cells)[j * 4 + c]? = some ((D.getD j ⟨0, 0, 0, 0⟩).cell c)
  | [], j, c, _, h => by simp at h
  | d :: D, 0, c, hc, _ => by
    rw [List.flatMap_cons, List.getElem?_append_left (by simp [Hd.cells]; omega)]
    match c, hc with
    | 0, _ => rfl
    | 1, _ => rfl
    | 2, _ => rfl
    | 3, _ => rfl
  | d :: D, j + 1, c, hc, h => by
    rw [List.flatMap_cons, List.getElem?_append_right (by simp [Hd.cells]; omega)]
    have : (j + 1) * 4 + c - d.cells.length = j * 4 + c := by simp [Hd.cells]; omega
    rw [this, flat_get D j c hc (by simpa using h)]; rfl

theorem flat_len (D : List Hd) : (D.flatMap Hd.cells).length = D.length * 4 := by
  induction D with
  | nil => rfl
  | cons d D ih => rw [List.flatMap_cons, List.length_append, ih]; simp [Hd.cells]; omega

theorem St.grown {w0 w w' : World} {S : Ps} {F : Nat → Prop} {row : Option Nat} (h : St w0 w S F) (hg : w.grownBy w' row) (hr : ∀ g, row = some g → ¬ F g ∧ w0.heap.size ≤ g) : St w0 w' S F :=
  ⟨h.at_.keep (fun k hk => hg.block k (h.at_.fl k hk) (fun e => (hr k e.symm).1 hk)) hg.size, h.ok,
   ⟨hg.os.trans h.mv.os, hg.tape.trans h.mv.tape, hg.output.trans h.mv.output, Nat.le_trans h.mv.size hg.size,
    fun k hk hF => (hg.block k (Nat.lt_of_lt_of_le hk h.mv.size) (fun e => by have := (hr k e.symm).2; omega)).trans (h.mv.block k hk hF), h.mv.foot⟩⟩

section
variable {w0 wr w3 w5 : World} {pb LB TB : Nat} {dv : Value} {m : Nat} {S : Ps} {F F' : Nat → Prop} {H : Nat → Hd} {th : Nat → Bool} {D : List Hd} {k : Nat}
/-- Behind Free, the store into 'there', and the append to 'dead'. -/
theorem SInv.freed (h : SInv w0 wr pb LB TB dv m S F H th D) (hk : k < 4) (ht : th k = true) (hS3 : St w0 w3 (S.freed (H k).r) F) (hM3 : Moves F wr F w3) {g cap : Nat} {X : Obj}
    (hown : w5.ownsRow w0.heap.size 41 4 (.slice (some ⟨g, 0, none⟩) (D.length + 1) cap) (D.length + 1) (D.flatMap Hd.cells ++ (H k).cells))
    (hgr : ((w3.setCell ⟨TB, k, none⟩ (.bool false)).alloc X).grownBy w5 dv.ownBlock) (hg : dv.ownBlock = some g ∨ g = w3.heap.size + 1) :
    SInv w0 w5 pb LB TB (.slice (some ⟨g, 0, none⟩) (D.length + 1) cap) (m + 1) (S.freed (H k).r) F H (fun q => if q = k then false else th q) (D ++ [H k]) := by
  have hl3 : w3.rowIs LB 41 16 _ := h.rl.of_block (hM3.block _ h.rl.lt h.nl)
  have ht3 : w3.rowIs TB 4 4 _ := h.rt.of_block (hM3.block _ h.rt.lt h.nt)
  have hS4 := (hS3.setOut (a := ⟨TB, k, none⟩) h.nt h.bt (.bool false)).alloc X
  have hl4 := (hl3.setOther (a := ⟨TB, k, none⟩) h.ne (.bool false)).alloc X
  have ht4 := (ht3.set k (.bool false)).alloc X
  have hr : ∀ g, dv.ownBlock = some g → ¬ F g ∧ w0.heap.size ≤ g := fun g hg => ⟨(h.nd g hg).1, (h.rd.lt g hg).1⟩
  have hS5 := St.grown hS4 hgr hr
  have hsz : ((w3.setCell ⟨TB, k, none⟩ (.bool false)).alloc X).heap.size = w3.heap.size + 1 := by simp [World.setCell]
  refine ⟨hS5, h.pb, h.pv.free h.st.ok hk ht, hl4.of_block (hgr.block _ hl4.lt (fun e => (h.nd LB e.symm).2.1 rfl)), (ht4.of_block (hgr.block _ ht4.lt (fun e => (h.nd TB e.symm).2.2 rfl))).congr (fun c _ => by by_cases e : c = k <;> simp [e]),
    ?_, h.nl, h.nt, h.ne, h.bl, h.bt, fun g' hg' => ?_⟩
  · have e1 : (D ++ [H k]).length = D.length + 1 := by simp
    have e2 : (D ++ [H k]).flatMap Hd.cells = D.flatMap Hd.cells ++ (H k).cells := by simp
    rw [e1, e2]; exact hown
  · have : g' = g := by simpa [Value.ownBlock] using hg'.symm
    subst this
    rcases hg with hg | hg
    · exact h.nd g' hg
    · refine ⟨fun hF => ?_, fun e => ?_, fun e => ?_⟩
      · have := hS4.at_.fl g' hF; omega
      · have := hl4.lt; omega
      · have := ht4.lt; omega

/-- Behind Make, Alloc and Store, and the stores into 'live' and 'there'. -/
theorem SInv.made (h : SInv w0 wr pb LB TB dv m S F H th D) (hk : k < 4) (ht : th k = false) {r j n : Nat} {v : Value} (hr : S.next = some r) (hj : S.idle = some j) (hn1 : 1 ≤ n) (hn2 : n ≤ 64)
    (hS3 : St w0 w3 ((((S.made r).handed r j v).filled r n).stored (j * 64) [k]) F') (hM3 : Moves F wr F' w3) :
    SInv w0 (((((w3.setCell ⟨LB, k * 4, none⟩ (.int .i64 r)).setCell ⟨LB, k * 4 + 1, none⟩ (.int .i64 (S.gen r + 1 : Nat))).setCell ⟨LB, k * 4 + 2, none⟩ (.int .i64 (0 : Nat))).setCell ⟨LB, k * 4 + 3, none⟩ (.int .i64 n)).setCell ⟨TB, k, none⟩ (.bool true))
      pb LB TB dv (m + 1) ((((S.made r).handed r j v).filled r n).stored (j * 64) [k]) F' (fun q => if q = k then ⟨r, S.gen r + 1, 0, n⟩ else H q) (fun q => if q = k then true else th q) D := by
  have hl3 : w3.rowIs LB 41 16 _ := h.rl.of_block (hM3.block _ h.rl.lt h.nl)
  have ht3 : w3.rowIs TB 4 4 _ := h.rt.of_block (hM3.block _ h.rt.lt h.nt)
  have nl := hM3.out h.rl.lt h.nl
  have nt := hM3.out h.rt.lt h.nt
  have nd : ∀ g, dv.ownBlock = some g → ¬ F' g ∧ g ≠ LB ∧ g ≠ TB := fun g hg => ⟨hM3.out (h.rd.lt g hg).2 (h.nd g hg).1, (h.nd g hg).2⟩
  refine ⟨((((hS3.setOut (a := ⟨LB, k * 4, none⟩) nl h.bl _).setOut (a := ⟨LB, k * 4 + 1, none⟩) nl h.bl _).setOut (a := ⟨LB, k * 4 + 2, none⟩) nl h.bl _).setOut (a := ⟨LB, k * 4 + 3, none⟩) nl h.bl _).setOut (a := ⟨TB, k, none⟩) nt h.bt _,
    h.pb, h.pv.make h.st.ok hk ht hr hj hn1 hn2, ?_, ?_, ?_, nl, nt, h.ne, h.bl, h.bt, nd⟩
  · refine (((((hl3.set (k * 4) _).set (k * 4 + 1) _).set (k * 4 + 2) _).set (k * 4 + 3) _).setOther (a := ⟨TB, k, none⟩) h.ne _).congr (fun c hc => ?_)
    by_cases e3 : c = k * 4 + 3
    · subst e3; rw [if_pos rfl, show (k * 4 + 3) / 4 = k from by omega, show (k * 4 + 3) % 4 = 3 from by omega]; simp [Hd.cell]
    · rw [if_neg e3]
      by_cases e2 : c = k * 4 + 2
      · subst e2; rw [if_pos rfl, show (k * 4 + 2) / 4 = k from by omega, show (k * 4 + 2) % 4 = 2 from by omega]; simp [Hd.cell]
      · rw [if_neg e2]
        by_cases e1 : c = k * 4 + 1
        · subst e1; rw [if_pos rfl, show (k * 4 + 1) / 4 = k from by omega, show (k * 4 + 1) % 4 = 1 from by omega]; simp [Hd.cell]
        · rw [if_neg e1]
          by_cases e0 : c = k * 4
          · subst e0; rw [if_pos rfl, show (k * 4) / 4 = k from by omega, show (k * 4) % 4 = 0 from by omega]; simp [Hd.cell]
          · rw [if_neg e0, if_neg (show ¬ c / 4 = k by omega)]
  · have h1 := ((((ht3.setOther (a := ⟨LB, k * 4, none⟩) h.ne.symm (.int .i64 r)).setOther (a := ⟨LB, k * 4 + 1, none⟩) h.ne.symm (.int .i64 (S.gen r + 1 : Nat))).setOther (a := ⟨LB, k * 4 + 2, none⟩) h.ne.symm (.int .i64 (0 : Nat))).setOther (a := ⟨LB, k * 4 + 3, none⟩) h.ne.symm (.int .i64 n))
    exact (h1.set k (.bool true)).congr (fun c _ => by by_cases e : c = k <;> simp [e])
  · refine ownsRow_block h.rd (fun g hg => ?_)
    obtain ⟨n1, n2, n3⟩ := h.nd g hg
    rw [Below.heap_setCell _ _ _ _ n3, Below.heap_setCell _ _ _ _ n2, Below.heap_setCell _ _ _ _ n2, Below.heap_setCell _ _ _ _ n2, Below.heap_setCell _ _ _ _ n2]
    exact hM3.block g (h.rd.lt g hg).2 n1
theorem SInv.start {w1 w2 : World} {pb bb tb : Nat} {F0 : Nat → Prop} (hS0 : St w1 w2 (Ps.new 64 8 pb bb tb) F0) :
    SInv w1 ((w2.alloc (.cells (madeCells #[.int .i64 0] 16) 41)).alloc (.cells (madeCells #[.bool false] 4) 4)) pb w2.heap.size (w2.heap.size + 1) (.slice none 0 0) 0 (Ps.new 64 8 pb bb tb) F0 (fun _ => ⟨0, 0, 0, 0⟩) (fun _ => false) [] := by
  have n0 := hS0.at_.outNew
  have n1 : ¬ F0 (w2.heap.size + 1) := fun h => by have := hS0.at_.fl _ h; omega
  have hz := hS0.mv.size
  refine ⟨(hS0.alloc _).alloc _, rfl, ⟨rfl, rfl, (fun _ _ h => by cases h), fun _ _ _ => ⟨by decide, by decide, Nat.le_refl _, fun _ => rfl⟩, (fun _ h => by cases h), (fun _ _ _ _ _ h => by cases h), (fun _ _ h => by cases h), fun _ _ => Nat.le_refl _, Nat.le_refl _⟩,
    ((World.rowIs_made w2 (.int .i64 0) 16 41).alloc _).congr (fun c _ => ?_), ?_, World.ownsRow_nil _ _ _ _, n0, n1, by omega, hz, by omega, fun g hg => by simp [Value.ownBlock] at hg⟩
  · simp only [Hd.cell]; split
    · rfl
    · split
      · rfl
      · split <;> rfl
  · have h := World.rowIs_made (w2.alloc (.cells (madeCells #[.int .i64 0] 16) 41)) (.bool false) 4 4
    rw [World.size_alloc] at h; exact h
end

end Go.Proofs.Ytaaalfimlpeddaa.regionStale
