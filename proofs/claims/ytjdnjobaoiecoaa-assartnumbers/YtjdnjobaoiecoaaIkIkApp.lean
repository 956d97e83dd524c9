/-
  Bytes that are appended one by one, and a text.
-/
import Derived.Test.YtjdnjobaoiecoaaIkIkW1
import Derived.Laws.MakeOwn
import Derived.Deep.RegionLaw
namespace Go.Proofs.Ytjdnjobaoiecoaa.IK
open Go.RowKit

/-- An append whose run is known: at the operation, in a plain region, in one that draws its order. -/
theorem wp_app_run {P : Program} {w : World} {o : Oper} {a : Act} {K : Act → World → Prop} {Q : Exit → Act → World → Prop} {s x : Operand} {t u : TypeId}
    (ho : o.op = .call { callee := .builtin .append, args := #[s, x], argTypes := #[t, u] }) {v1 v2 v' : Value} {w' : World}
    (hr : (Builtin.append_ #[t, u] o.type #[v1, v2]).run P w = .ok v' w') (hs : a.eval s = v1) (hx : a.eval x = v2) (h : K (a.put o.dst v') w') : o.wp P a w K Q := by
  unfold Oper.wp execOp
  simp only [ho, resolve, invoke, builtin, Sem.run_bind, Sem.run_pure, Result.andThen_ok, List.map_toArray, List.map_cons, List.map_nil, hs, hx, hr]
  exact h
theorem wpList_app_run {P : Program} {w : World} {ops : Array Oper} {rest : List Oper} {o : Oper} {a : Act} {Q : Exit → Act → World → Prop} (hgd : o.guard = none) {s x : Operand} {t u : TypeId}
    (ho : o.op = .call { callee := .builtin .append, args := #[s, x], argTypes := #[t, u] }) {v1 v2 v' : Value} {w' : World}
    (hr : (Builtin.append_ #[t, u] o.type #[v1, v2]).run P w = .ok v' w') (hs : a.eval s = v1) (hx : a.eval x = v2) (h : wpList P ops Q rest (a.put o.dst v') w') : wpList P ops Q (o :: rest) a w :=
  wpList_plain hgd fun _ hK => wp_app_run ho hr hs hx (hK _ _ h)
theorem step_app_run {P : Program} {w : World} {ops : Array Oper} {o : Oper} {a : Act} {K : Act → World → Prop} {Q : Exit → Act → World → Prop} {E : Prop} (hgd : o.guard = none) {s x : Operand} {t u : TypeId}
    (ho : o.op = .call { callee := .builtin .append, args := #[s, x], argTypes := #[t, u] }) {v1 v2 v' : Value} {w' : World}
    (hr : (Builtin.append_ #[t, u] o.type #[v1, v2]).run P w = .ok v' w') (hs : a.eval s = v1) (hx : a.eval x = v2) (h : K (a.put o.dst v') w') :
    if Region.wanted o (yielded ops a.tmps) = true then Oper.wp P o a w K Q else E := by
  have hw : Region.wanted o (yielded ops a.tmps) = true := by simp [Region.wanted, hgd]
  rw [if_pos hw]
  exact wp_app_run ho hr hs hx h

theorem own_keep {w w' : World} {B n : Nat} {e : TypeId} {v : Value} {xs : List Value} (h : w.ownsRow B e 1 v n xs) (hb : Below w.heap.size w w') : w'.ownsRow B e 1 v n xs := by
  refine ⟨h.1, ?_⟩
  rcases h.2 with h2 | ⟨g, cap, cur, h1, h2, h3, h4⟩
  · exact .inl h2
  · refine .inr ⟨g, cap, cur, h1, h2, ?_, h4⟩
    have hlt : g < w.heap.size := by
      rcases Nat.lt_or_ge g w.heap.size with h | h
      · exact h
      · rw [Array.getElem?_eq_none h] at h3; cases h3
    rw [hb.block g hlt]; exact h3
theorem u8s_one (l : List Nat) : ∀ u ∈ u8s l, u.oneCell' = true := by
  intro u hu; simp only [u8s, List.mem_map] at hu; obtain ⟨n, _, rfl⟩ := hu; rfl
theorem u8s_app (l m : List Nat) : u8s (l ++ m) = u8s l ++ u8s m := by simp [u8s]
theorem u8s_length (l : List Nat) : (u8s l).length = l.length := by simp [u8s]
/-- One byte appended to a row of one's own. -/
theorem app1 (B : Nat) (w0 wr : World) (v : Value) (ys : List Nat) (n : Nat) (x : Int) (c : Nat) (hx : x = c) (hown : wr.ownsRow B 5 1 v n (u8s ys)) (hb : Below B w0 wr) (hB : B ≤ w0.heap.size) (p : Nat) (hp : wr.heap.size = p) (hl : n ≤ 140737488351232) :
    ∃ v' w2, (Builtin.append_ #[27, 27] 27 #[v, .slice (some ⟨p, 0, none⟩) 1 1]).run Try.prog (wr.alloc (.cells #[.int .u8 x] 5)) = .ok v' w2 ∧ w2.ownsRow B 5 1 v' (n + 1) (u8s (ys ++ [c])) ∧ Below B w0 w2 := by
  subst hp
  subst hx
  obtain ⟨i0, hi0, hz0, hz1, hz2⟩ := info_parts Try.info5
  have hsz := hb.size
  obtain ⟨v', w2, h1, h2, h3, _⟩ := run_append_own (P := Try.prog) (wr.alloc (.cells #[.int .u8 (c : Int)] 5)) B 27 27 5 i0 (.int .u8 0) 1 1 Try.underlying27 hi0 hz0 hz1 hz2 rfl (by decide) v n (u8s ys) (hown.alloc _) ⟨wr.heap.size, 0, none⟩ 1 1 [.int .u8 (c : Int)] rfl (cell_one_new _ _ _) (by intro u hu; simp at hu; subst hu; rfl) (by unfold maxLen; omega) (by omega) (by simp; omega)
  exact ⟨v', w2, h1, by rw [u8s_app]; exact h2, (hb.alloc (by omega) _).grown h3 (by simp; omega) (fun g hg => (hown.lt g hg).1)⟩
theorem app2 (B : Nat) (w0 wr : World) (v : Value) (ys : List Nat) (n : Nat) (x y : Int) (c d : Nat) (hx : x = c) (hy : y = d) (hown : wr.ownsRow B 5 1 v n (u8s ys)) (hb : Below B w0 wr) (hB : B ≤ w0.heap.size) (p : Nat) (hp : wr.heap.size = p) (hl : n ≤ 140737488351232) :
    ∃ v' w2, (Builtin.append_ #[27, 27] 27 #[v, .slice (some ⟨p, 0, none⟩) 2 2]).run Try.prog (wr.alloc (.cells #[.int .u8 x, .int .u8 y] 5)) = .ok v' w2 ∧ w2.ownsRow B 5 1 v' (n + 2) (u8s (ys ++ [c, d])) ∧ Below B w0 w2 := by
  subst hp
  subst hx; subst hy
  obtain ⟨i0, hi0, hz0, hz1, hz2⟩ := info_parts Try.info5
  have hsz := hb.size
  obtain ⟨v', w2, h1, h2, h3, _⟩ := run_append_own (P := Try.prog) (wr.alloc (.cells #[.int .u8 (c : Int), .int .u8 (d : Int)] 5)) B 27 27 5 i0 (.int .u8 0) 1 1 Try.underlying27 hi0 hz0 hz1 hz2 rfl (by decide) v n (u8s ys) (hown.alloc _) ⟨wr.heap.size, 0, none⟩ 2 2 [.int .u8 (c : Int), .int .u8 (d : Int)] rfl (fun j u hu => by
      rw [addr_add, World.cell?_alloc_mark]
      rcases j with _ | _ | j
      · simpa using hu
      · simpa using hu
      · simp at hu) (by intro u hu; simp at hu; rcases hu with rfl | rfl <;> rfl) (by unfold maxLen; omega) (by omega) (by simp; omega)
  exact ⟨v', w2, h1, by rw [u8s_app]; exact h2, (hb.alloc (by omega) _).grown h3 (by simp; omega) (fun g hg => (hown.lt g hg).1)⟩
/-- A text appended. -/
theorem apps (B : Nat) (w0 wr : World) (v : Value) (ys : List Nat) (n : Nat) (s : ByteArray) (hown : wr.ownsRow B 5 1 v n (u8s ys)) (hb : Below B w0 wr) (hB : B ≤ w0.heap.size) (hl : n + s.size ≤ 140737488351232) :
    ∃ v' w2, (Builtin.append_ #[27, 9] 27 #[v, .string s]).run Try.prog wr = .ok v' w2 ∧ w2.ownsRow B 5 1 v' (n + s.size) (u8s (ys ++ natsOf s)) ∧ Below B w0 w2 := by
  obtain ⟨i0, hi0, hz0, hz1, hz2⟩ := info_parts Try.info5
  have hsz := hb.size
  obtain ⟨v', w2, h1, h2, h3, _⟩ := Lib.run_append_own_string (P := Try.prog) wr B 27 9 27 5 i0 Try.underlying27 Try.underlying9 hi0 hz0 hz1 hz2 v n (u8s ys) hown s (by unfold maxLen; omega) (by omega) (by omega)
  exact ⟨v', w2, h1, by rw [u8s_app, ← strCells_u8s]; exact h2, hb.grown h3 (by omega) (fun g hg => (hown.lt g hg).1)⟩
/-- Room made. -/
theorem mk0 (B : Nat) (w0 wr : World) (n : Nat) (hb : Below B w0 wr) (hB : B ≤ w0.heap.size) (p : Nat) (hp : wr.heap.size = p) (hl : n ≤ 140737488351232) :
    ∃ w2, (Instr.makeSlice 27 (.int .i64 0) (.int .i64 (n : Int))).run Try.prog wr = .ok (.slice (some ⟨p, 0, none⟩) 0 n) w2 ∧ w2.ownsRow B 5 1 (.slice (some ⟨p, 0, none⟩) 0 n) 0 (u8s []) ∧ Below B w0 w2 := by
  subst hp
  obtain ⟨i0, hi0, hz0, hz1, hz2⟩ := info_parts Try.info5
  have hsz := hb.size
  obtain ⟨w2, h1, h2, h3⟩ := run_make_own (P := Try.prog) wr B 27 5 i0 (.int .u8 0) 1 Try.underlying27 hi0 hz0 hz1 .i64 .i64 n (by rw [hz2]; omega) (by unfold maxLen; omega) (by omega)
  exact ⟨w2, h1, h2, hb.grown h3 (by omega) (fun g hg => by cases hg)⟩
/-- A text's bytes, laid anew. -/
theorem conv_new (wr : World) (s : ByteArray) (p : Nat) (hp : wr.heap.size = p) :
    ∃ cap w2, (convert 9 27 (.string s)).run Try.prog wr = .ok (.slice (some ⟨p, 0, none⟩) s.size cap) w2 ∧ s.size ≤ cap ∧ Byt w2 (some ⟨p, 0, none⟩) (natsOf s) ∧ Below wr.heap.size wr w2 := by
  subst hp
  have h := run_bytes_of_string (P := Try.prog) wr 9 27 5 s Try.underlying9 Try.underlying27 Try.underlying5
  refine ⟨_, _, h, grownCap_ge _ _ _ _, .inr ⟨wr.heap.size, 0, rfl, by simp, fun i hi => ?_⟩, ((Below.refl _ wr).drew).alloc (by simp) _⟩
  rw [natsOf_length] at hi
  have e : (wr.drew.alloc (.cells (bytesRow s (grownCap wr s.size 0 5)) 5 ((bytesRow s (grownCap wr s.size 0 5)).size, (bytesRow s (grownCap wr s.size 0 5)).size + 1))).heap[wr.heap.size]? = some (.cells (bytesRow s (grownCap wr s.size 0 5)) 5 ((bytesRow s (grownCap wr s.size 0 5)).size, (bytesRow s (grownCap wr s.size 0 5)).size + 1)) := by
    show (wr.heap.push _)[wr.heap.size]? = _
    simp
  rw [Nat.zero_add, cell_of_row _ _ _ _ _ _ e]
  unfold bytesRow
  have hd : i < s.data.size := hi
  rw [Array.getElem?_append_left (by simpa using hd)]
  simp [natsOf]
  exact ⟨s.data[i], Array.getElem?_eq_getElem hd, rfl⟩
/-- One byte appended; a block that isn't the row's stays. -/
theorem app1k (B : Nat) (w0 wr : World) (v : Value) (ys : List Nat) (n : Nat) (x : Int) (c : Nat) (hx : x = c) (hown : wr.ownsRow B 5 1 v n (u8s ys)) (hb : Below B w0 wr) (hB : B ≤ w0.heap.size) (p : Nat) (hp : wr.heap.size = p) (hl : n ≤ 140737488351232) (q : Nat) (hq : q < wr.heap.size) (hv : v.ownBlock ≠ some q) :
    ∃ v' w2, (Builtin.append_ #[27, 27] 27 #[v, .slice (some ⟨p, 0, none⟩) 1 1]).run Try.prog (wr.alloc (.cells #[.int .u8 x] 5)) = .ok v' w2 ∧ w2.ownsRow B 5 1 v' (n + 1) (u8s (ys ++ [c])) ∧ Below B w0 w2 ∧ w2.heap[q]? = wr.heap[q]? ∧ v'.ownBlock ≠ some q ∧ q < w2.heap.size := by
  subst hp
  subst hx
  obtain ⟨i0, hi0, hz0, hz1, hz2⟩ := info_parts Try.info5
  have hsz := hb.size
  obtain ⟨g, cap, w2, h1, h2, h3, h4, h5⟩ := run_append_lies (P := Try.prog) (wr.alloc (.cells #[.int .u8 (c : Int)] 5)) 27 27 B 5 i0 (.int .u8 0) 1 1 Try.underlying27 hi0 hz0 hz1 hz2 rfl (by decide) v n (u8s ys) (hown.alloc _) ⟨wr.heap.size, 0, none⟩ 1 1 [.int .u8 (c : Int)] rfl (cell_one_new _ _ _) (by intro u hu; simp at hu; subst hu; rfl) (by omega) (by unfold maxLen; omega) (by omega) (by simp; omega) (wr.heap.size + 1) (by simp)
  have hs2 := h3.size
  have hbl := h3.block q (by simp; omega) (fun e => hv e.symm)
  refine ⟨_, w2, h1, by rw [u8s_app]; exact h2, (hb.alloc (by omega) _).grown h3 (by simp; omega) (fun g hg => (hown.lt g hg).1), ?_, ?_, ?_⟩
  · rw [hbl, Below.heap_alloc _ _ _ hq]
  · intro e
    have e2 : g = q := by simpa [Value.ownBlock] using e
    rcases h4 with h4 | h4
    · exact hv (by rw [h4, e2])
    · omega
  · simp at hs2; omega
theorem Byt.same {w w' : World} {b off : Nat} {l : List Nat} (h : Byt w (some ⟨b, off, none⟩) l) (hb : w'.heap[b]? = w.heap[b]?) (hlt : b < w'.heap.size) : Byt w' (some ⟨b, off, none⟩) l := by
  rcases h with h | ⟨b', off', e, h1, h2⟩
  · exact .inl h
  · cases e
    exact .inr ⟨_, _, rfl, hlt, fun i hi => (World.cell?_of_block (w := w) (a := ⟨_, _ + i, none⟩) hb).trans (h2 i hi)⟩
end Go.Proofs.Ytjdnjobaoiecoaa.IK
