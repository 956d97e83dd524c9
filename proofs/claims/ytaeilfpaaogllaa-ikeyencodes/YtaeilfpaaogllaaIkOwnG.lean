/-
  Bytes appended to those of a text that were laid anew.
-/
import Derived.Test.YtaeilfpaaogllaaIkUns
namespace Go.Proofs.Ytaeilfpaaogllaa
open Go.RowKit

/-- A row of one's own whose mark, if it has one, lies behind all of its cells. -/
def OwnG (w : World) (B : Nat) (v : Value) (n : Nat) (l : List Nat) : Prop :=
  l.length = n ∧ ∃ g cap cur fz, v = .slice (some ⟨g, 0, none⟩) n cap ∧ B ≤ g ∧ w.heap[g]? = some (.cells cur 5 fz) ∧ (∀ i, i < cur.size → ¬ (fz.1 ≤ i ∧ i < fz.2)) ∧ n ≤ cap ∧ cap ≤ maxLen ∧ cur.size = cap ∧ cur.toList.take n = u8s l
theorem OwnG.cells {w : World} {B n g : Nat} {v : Value} {l : List Nat} (h : OwnG w B v n l) (hg : v.ownBlock = some g) : ∀ j u, (u8s l)[j]? = some u → w.cell? ((⟨g, 0, none⟩ : Addr).add j) = some u := by
  intro j u hu
  obtain ⟨hl, g', cap, cur, fz, rfl, hB, hh, hf, h1, h2, h3, h4⟩ := h
  have : g' = g := by simpa [Value.ownBlock] using hg
  subst this
  rw [addr_add, Nat.zero_add]
  have hj : j < n := by
    have := (List.getElem?_eq_some_iff.1 hu).1
    rw [u8s_length] at this; omega
  have e : (cur.toList.take n)[j]? = some u := by rw [h4]; exact hu
  rw [List.getElem?_take, if_pos hj, Array.getElem?_toList] at e
  simp [World.cell?, hh, e]
theorem OwnG.byt {w : World} {B n : Nat} {v : Value} {l : List Nat} (h : OwnG w B v n l) : ∃ a cap, v = .slice a n cap ∧ l.length = n ∧ Byt w a l ∧ (a = none → l = []) ∧ n ≤ cap := by
  have hc := fun g => h.cells (g := g)
  obtain ⟨hl, g, cap, cur, fz, rfl, hB, hh, hf, h1, h2, h3, h4⟩ := h
  refine ⟨_, _, rfl, hl, .inr ⟨g, 0, rfl, (Array.getElem?_eq_some_iff.1 hh).1, fun i hi => ?_⟩, fun h => (by cases h), h1⟩
  have := hc g rfl i (.int .u8 (l[i] : Int)) (by simp [u8s, hi])
  rw [addr_add] at this; exact this
theorem appG (B : Nat) (w0 wr : World) (v : Value) (ys : List Nat) (n : Nat) (x : Int) (c : Nat) (hx : x = c) (hown : OwnG wr B v n ys) (hb : Below B w0 wr) (hB : B ≤ w0.heap.size) (p : Nat) (hp : wr.heap.size = p) (hl : n ≤ 1000000) :
    ∃ v' w2, (Builtin.append_ #[24, 24] 24 #[v, .slice (some ⟨p, 0, none⟩) 1 1]).run Try.prog (wr.alloc (.cells #[.int .u8 x] 5)) = .ok v' w2 ∧ OwnG w2 B v' (n + 1) (ys ++ [c]) ∧ Below B w0 w2 := by
  subst hp
  subst hx
  obtain ⟨i0, hi0, hz0, hz1, hz2⟩ := info_parts Try.info5
  have hsz := hb.size
  obtain ⟨hyl, g, cap, cur, fz, rfl, hBg, hh, hf, h1, h2, h3, h4⟩ := hown
  have hgl : g < wr.heap.size := (Array.getElem?_eq_some_iff.1 hh).1
  have hh' : (wr.alloc (.cells #[.int .u8 (c : Int)] 5)).heap[g]? = some (.cells cur 5 fz) := by rw [Below.heap_alloc _ _ _ hgl]; exact hh
  have hbA : Below B w0 (wr.alloc (.cells #[.int .u8 (c : Int)] 5)) := hb.alloc (by omega) _
  have hnews : ∀ j u, [Value.int .u8 (c : Int)][j]? = some u → (wr.alloc (.cells #[.int .u8 (c : Int)] 5)).cell? ((⟨wr.heap.size, 0, none⟩ : Addr).add j) = some u := cell_one_new _ _ _
  by_cases hroom : n + 1 ≤ cap
  · have hfc := run_firstCells_some (P := Try.prog) (wr.alloc (.cells #[.int .u8 (c : Int)] 5)) 1 1 ⟨wr.heap.size, 0, none⟩ 1 1 [.int .u8 (c : Int)] rfl hnews
    have hcell : (wr.alloc (.cells #[.int .u8 (c : Int)] 5)).cell? ⟨g, n, none⟩ = some (cur[n]'(by omega)) := by simp only [World.cell?, hh']; simp
    have hfro : (wr.alloc (.cells #[.int .u8 (c : Int)] 5)).frozen? ⟨g, n, none⟩ = false := by
      obtain ⟨lo, hi'⟩ := fz
      have := hf n (by omega)
      simp only [World.frozen?, hh', Bool.and_eq_false_iff, decide_eq_false_iff_not]
      simp only at this
      omega
    have hst : (storeCells ⟨g, n, none⟩ [.int .u8 (c : Int)] 0).run Try.prog (wr.alloc (.cells #[.int .u8 (c : Int)] 5)) = .ok () ((wr.alloc (.cells #[.int .u8 (c : Int)] 5)).setRow g (cur.setIfInBounds n (.int .u8 (c : Int)))) := by
      simp only [storeCells, Sem.run_bind]
      rw [addr_add, Nat.add_zero, run_store Try.prog _ _ _ _ rfl, hcell]
      simp [hfro, setCell_eq_setRow _ g n cur 5 fz _ hh']
    have hr : (Builtin.append_ #[24, 24] 24 #[.slice (some ⟨g, 0, none⟩) n cap, .slice (some ⟨wr.heap.size, 0, none⟩) 1 1]).run Try.prog (wr.alloc (.cells #[.int .u8 (c : Int)] 5)) = .ok (.slice (some ⟨g, 0, none⟩) (n + 1) cap) ((wr.alloc (.cells #[.int .u8 (c : Int)] 5)).setRow g (cur.setIfInBounds n (.int .u8 (c : Int)))) := by
      simp [Builtin.append_, run_underlying Try.underlying24, sizeOf, typeInfo, hi0, hz1, Builtin.lenOf, hroom, hfc, Addr.add_lit, hst]
    refine ⟨_, _, hr, ⟨by simp [hyl], g, cap, _, fz, rfl, hBg, setRow_heap _ g cur _ 5 fz hh', by simpa using hf, hroom, h2, by simpa using h3, ?_⟩, ?_⟩
    · rw [Array.toList_setIfInBounds, u8s_app, ← h4]
      rw [List.take_succ_eq_append_getElem (by simp; omega)]
      congr 1
      · apply List.ext_getElem
        · simp
        · intro i p1 p2
          simp at p1
          rw [List.getElem_take, List.getElem_take, List.getElem_set_ne (by omega)]
      · simp [u8s]
    · exact hbA.grown ⟨rfl, rfl, rfl, by simp [World.setRow], fun k _ hk => setRow_other _ g k _ (fun e => hk (by simp [e]))⟩ (row := some g) (by simp; omega) (fun k hk => by cases hk; exact hBg)
  · have holds : ∀ j u, (u8s ys)[j]? = some u → (wr.alloc (.cells #[.int .u8 (c : Int)] 5)).cell? ((⟨g, 0, none⟩ : Addr).add j) = some u := by
      intro j u hu
      have k : OwnG wr B (.slice (some ⟨g, 0, none⟩) n cap) n ys := ⟨hyl, g, cap, cur, fz, rfl, hBg, hh, hf, h1, h2, h3, h4⟩
      have := k.cells (g := g) rfl j u hu
      rw [addr_add] at this ⊢
      exact ((bel1 wr _).cell (p := ⟨g, 0 + j, none⟩) hgl).trans this
    have hr := run_append_grow (P := Try.prog) (wr.alloc (.cells #[.int .u8 (c : Int)] 5)) 24 24 5 i0 (.int .u8 0) Try.underlying24 hi0 hz0 ⟨g, 0, none⟩ n cap (u8s ys) (by rw [hz1, u8s_length]; omega) holds ⟨wr.heap.size, 0, none⟩ 1 1 [.int .u8 (c : Int)] (by rw [hz1]; rfl) hnews (by omega) (by omega) (by rw [hz2]; exact growslice_fits (by omega) (by omega))
    have hge := grownCap_ge (wr.alloc (.cells #[.int .u8 (c : Int)] 5)) (n + 1) cap 5
    have hcm2 := grownCap_le_maxLen (wr.alloc (.cells #[.int .u8 (c : Int)] 5)) (n + 1) cap 5 (by unfold maxLen; omega)
    refine ⟨_, _, hr, ⟨by simp [hyl], _, _, _, (0, 0), rfl, ?_, heap_alloc_new _ _, by intro i _; simp, hge, hcm2, ?_, ?_⟩, ?_⟩
    · simp; omega
    · have hzz : (Value.int IntKind.u8 0).cells.size = 1 := rfl
      simp only [Array.size_append, List.size_toArray, size_zeroCells, hzz, u8s_length, hyl, List.length_cons, List.length_nil]
      omega
    · simp only [Array.toList_append, List.append_assoc]
      rw [← List.append_assoc, u8s_app]
      rw [List.take_left' (by simp [u8s, hyl])]
      rfl
    · exact (hbA.drew).alloc (by have := hbA.size; simp at this ⊢; omega) _
/-- A text's bytes, laid anew, to be written on. -/
theorem conv_own (w0 wr : World) (B : Nat) (s : ByteArray) (hs : s.size ≤ 1000000) (hb : Below B w0 wr) (hB : B ≤ w0.heap.size) :
    ∃ v w2, (convert 9 24 (.string s)).run Try.prog wr = .ok v w2 ∧ OwnG w2 B v s.size (natsOf s) ∧ Below B w0 w2 := by
  have h := run_bytes_of_string (P := Try.prog) wr 9 24 5 s Try.underlying9 Try.underlying24 Try.underlying5
  have hge := grownCap_ge wr s.size 0 5
  have hsz := hb.size
  have hbs : (bytesRow s (grownCap wr s.size 0 5)).size = grownCap wr s.size 0 5 := by
    unfold bytesRow
    simp
    have : s.data.size = s.size := rfl
    omega
  refine ⟨_, _, h, ⟨natsOf_length s, wr.heap.size, _, _, _, rfl, by omega, heap_alloc_new _ _, fun i hi => by simp only; omega, hge, grownCap_le_maxLen _ _ _ _ (by unfold maxLen; omega), hbs, ?_⟩, (hb.drew).alloc (by show B ≤ wr.heap.size; omega) _⟩
  unfold bytesRow
  rw [Array.toList_append, List.take_left' (by simp)]
  simp [u8s, natsOf]
end Go.Proofs.Ytaeilfpaaogllaa
