/-
  What Clone and Merge answer.
-/
import Derived.Test.YtfgcdmgbgadkgaaBlW3
import Derived.Lib.SliceRun
namespace Go.Proofs.Ytfgcdmgbgadkgaa
open Go.RowKit

/-- A row of bytes of one's own, as far as they are told. -/
def OwnF (w : World) (g cap n : Nat) (f : Nat → Nat) : Prop := ∃ h, w.rowIs g 5 cap h ∧ n ≤ cap ∧ ∀ i, i < n → h i = .int .u8 (f i : Int)
theorem OwnF.cell {w : World} {g cap n : Nat} {f : Nat → Nat} (h : OwnF w g cap n f) {i : Nat} (hi : i < n) : w.cell? ⟨g, i, none⟩ = some (.int .u8 (f i : Int)) := by
  obtain ⟨k, h1, h2, h3⟩ := h
  rw [h1.cell (by omega), h3 i hi]
theorem OwnF.frozen {w : World} {g cap n : Nat} {f : Nat → Nat} (h : OwnF w g cap n f) (i : Nat) : w.frozen? ⟨g, i, none⟩ = false := by
  obtain ⟨k, h1, h2, h3⟩ := h
  exact h1.frozen i
theorem OwnF.lt {w : World} {g cap n : Nat} {f : Nat → Nat} (h : OwnF w g cap n f) : g < w.heap.size := by
  obtain ⟨k, h1, h2, h3⟩ := h
  exact h1.lt
theorem OwnF.set {w : World} {g cap n : Nat} {f : Nat → Nat} (h : OwnF w g cap n f) (i v : Nat) : OwnF (w.setCell ⟨g, i, none⟩ (.int .u8 (v : Int))) g cap n (fun j => if j = i then v else f j) := by
  obtain ⟨k, h1, h2, h3⟩ := h
  refine ⟨_, h1.set i _, h2, fun j hj => ?_⟩
  by_cases e : j = i
  · simp [e]
  · simp [e, h3 j hj]
theorem OwnF.congr {w : World} {g cap n : Nat} {f f' : Nat → Nat} (h : OwnF w g cap n f) (e : ∀ i, i < n → f i = f' i) : OwnF w g cap n f' := by
  obtain ⟨k, h1, h2, h3⟩ := h
  exact ⟨k, h1, h2, fun i hi => by rw [h3 i hi, e i hi]⟩
theorem OwnF.drew {w : World} {g cap n : Nat} {f : Nat → Nat} (h : OwnF w g cap n f) : OwnF w.drew g cap n f := h
theorem OwnF.byt {w : World} {g cap n : Nat} {f : Nat → Nat} (h : OwnF w g cap n f) (l : List Nat) (hl : l.length = n) (e : ∀ i (hi : i < l.length), f i = l[i]) : Byt w (some ⟨g, 0, none⟩) l :=
  .inr ⟨g, 0, rfl, h.lt, fun i hi => by rw [Nat.zero_add, h.cell (by omega), e i hi]⟩
theorem own_row {w : World} {B n : Nat} {v : Value} {l : List Nat} (h : w.ownsRow B 5 1 v n (u8s l)) (h0 : 0 < n) : ∃ g cap, v = .slice (some ⟨g, 0, none⟩) n cap ∧ B ≤ g ∧ OwnF w g cap n (fun i => l.getD i 0) := by
  have hn : n = l.length := by have := h.1; simp [u8s] at this; omega
  subst hn
  rcases h.2 with ⟨rfl, h1⟩ | ⟨g, cap, cur, rfl, hB, hg, h1, h2, h3, h4⟩
  · omega
  · refine ⟨g, cap, rfl, hB, fun i => cur.getD i undef, ⟨cur, hg, by omega, fun i hi => ?_⟩, h1, fun i hi => ?_⟩
    · show _ = some (cur.getD i undef)
      rw [Array.getElem?_eq_getElem (by omega), Array.getD_eq_getD_getElem?, Array.getElem?_eq_getElem (by omega)]; rfl
    · have e : (cur.toList.take (l.length * 1))[i]? = (u8s l)[i]? := by rw [h4]
      rw [List.getElem?_take, if_pos (by omega)] at e
      show cur.getD i undef = Value.int .u8 ((l.getD i 0 : Nat) : Int)
      rw [Array.getD_eq_getD_getElem?, ← Array.getElem?_toList, e]
      simp [u8s, hi]
theorem Byt.cells {w : World} {b off : Nat} {l : List Nat} (h : Byt w (some ⟨b, off, none⟩) l) : ∀ j u, (u8s l)[j]? = some u → w.cell? ((⟨b, off, none⟩ : Addr).add j) = some u := by
  intro j u hu
  rcases h with h | ⟨b', off', e, _, hc⟩
  · subst h; simp [u8s] at hu
  · cases e
    simp only [u8s, List.getElem?_map, Option.map_eq_some_iff] at hu
    obtain ⟨x, hx, rfl⟩ := hu
    obtain ⟨hj, rfl⟩ := List.getElem?_eq_some_iff.1 hx
    rw [addr_add, hc j hj]
theorem u8s_one (l : List Nat) : ∀ u ∈ u8s l, u.oneCell' = true := by
  intro u hu; simp only [u8s, List.mem_map] at hu; obtain ⟨n, _, rfl⟩ := hu; rfl
def Cloned (w : World) (l : List Nat) (e : Ending) (w' : World) : Prop := ∃ g cap, e = .returned (.slice (some ⟨g, 0, none⟩) l.length cap) ∧ w.heap.size ≤ g ∧ OwnF w' g cap l.length (fun i => l.getD i 0) ∧ Below w.heap.size w w'
theorem wp_app_run {P : Program} {w : World} {o : Oper} {a : Act} {K : Act → World → Prop} {Q : Exit → Act → World → Prop} {s x : Operand} {t u : TypeId}
    (ho : o.op = .call { callee := .builtin .append, args := #[s, x], argTypes := #[t, u] }) {v1 v2 v' : Value} {w' : World}
    (hr : (Builtin.append_ #[t, u] o.type #[v1, v2]).run P w = .ok v' w') (hs : a.eval s = v1) (hx : a.eval x = v2) (h : K (a.put o.dst v') w') : o.wp P a w K Q := by
  unfold Oper.wp execOp
  simp only [ho, resolve, invoke, builtin, Sem.run_bind, Sem.run_pure, Result.andThen_ok, List.map_toArray, List.map_cons, List.map_nil, hs, hx, hr]
  exact h
theorem wpList_app_run {P : Program} {w : World} {ops : Array Oper} {rest : List Oper} {o : Oper} {a : Act} {Q : Exit → Act → World → Prop} (hgd : o.guard = none) {s x : Operand} {t u : TypeId}
    (ho : o.op = .call { callee := .builtin .append, args := #[s, x], argTypes := #[t, u] }) {v1 v2 v' : Value} {w' : World}
    (hr : (Builtin.append_ #[t, u] o.type #[v1, v2]).run P w = .ok v' w') (hs : a.eval s = v1) (hx : a.eval x = v2) (h : wpList P ops Q rest (a.put o.dst v') w') : wpList P ops Q (o :: rest) a w :=
  wpList_plain hgd fun _ hK => wp_app_run ho hr hs hx (hK _ _ h)
theorem run_not_nil (w : World) (x : Addr) (n cap : Nat) : (binOp .eql 30 (.slice (some x) n cap) (.slice none 0 0)).run Try.prog w = .ok (.bool false) w :=
  Lib.run_eql_slice_nil w 30 5 (some x) n cap 0 0 Try.underlying30
set_option maxRecDepth 100000 in
set_option maxHeartbeats 800000 in
theorem clone_any (w : World) (a : Option Addr) (cap n : Nat) (l : List Nat) (hn : l.length = n) (hl : Byt w a l) (h0 : 0 < n) (hm : n ≤ 140737488351232) :
    Calls Try.prog 25 #[.slice a n cap] w (Cloned w l) := by
  obtain ⟨b, off, rfl, -⟩ := hl.at (k := 0) (by omega)
  obtain ⟨i0, hi0, hz0, hz1, hz2⟩ := info_parts Try.info5
  have hown : (w.alloc (.cells #[] 5)).ownsRow w.heap.size 5 1 (.slice (some ⟨w.heap.size, 0, none⟩) 0 0) 0 [] :=
    ⟨rfl, .inr ⟨w.heap.size, 0, #[], rfl, Nat.le_refl _, heap_alloc_new _ _, Nat.le_refl _, by unfold maxLen; omega, rfl, rfl⟩⟩
  obtain ⟨v', w2, h1, h2, h3, _⟩ := run_append_own (P := Try.prog) (w.alloc (.cells #[] 5)) w.heap.size 30 30 5 i0 (.int .u8 0) 1 1 Try.underlying30 hi0 hz0 hz1 hz2 rfl (by decide) _ 0 [] hown ⟨b, off, none⟩ n cap (u8s l) (by simp [u8s, hn]) (hl.keep (bel1 _ _)).cells (u8s_one l) (by unfold maxLen; omega) (by omega) (by simp)
  rw [List.nil_append, Nat.zero_add] at h2
  have hb2 : Below w.heap.size w w2 := (bel1 w _).grown h3 (by simp) (fun g hg => (hown.lt g hg).1)
  obtain ⟨g, c, rfl, hg, hO⟩ := own_row h2 h0
  have HF : Hid (Cloned w l (.returned (.slice (some ⟨g, 0, none⟩) n c)) w2) := Lib.hid ⟨g, c, by rw [hn], hg, by rw [hn]; exact hO, hb2⟩
  clear h2 h3 hown hb2 hg hO hl hn hi0 hz0 hz1 hz2
  have hnn := run_not_nil w ⟨b, off, none⟩ n cap
  go_enter Try.func25, Try.ntmps25
  go_wp2_with (at_builtin; refine wpList_app_run rfl rfl h1 rfl rfl ?_)
  go_ret
  exact HF.out
end Go.Proofs.Ytfgcdmgbgadkgaa
