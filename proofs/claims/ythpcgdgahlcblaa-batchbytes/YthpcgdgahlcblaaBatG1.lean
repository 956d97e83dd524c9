/-
  A row of changes of one's own, appended to; what size answers.
-/
import Derived.Test.YthpcgdgahlcblaaBatF1
namespace Go.Proofs.Ythpcgdgahlcblaa
open Go.RowKit

def opsV (l : List OpV) : List Value := l.flatMap fun o => [.int .i64 o.kind, .string o.key, .string o.val]
theorem opsV_len (l : List OpV) : (opsV l).length = l.length * 3 := by
  induction l with
  | nil => rfl
  | cons o l ih =>
    have e : opsV (o :: l) = .int .i64 o.kind :: .string o.key :: .string o.val :: opsV l := rfl
    rw [e]; simp [ih]; omega
theorem opsV_app (l m : List OpV) : opsV (l ++ m) = opsV l ++ opsV m := by simp [opsV]
theorem opsV_at (l : List OpV) : ∀ i (hi : i < l.length), (opsV l)[i * 3]? = some (.int .i64 l[i].kind) ∧ (opsV l)[i * 3 + 1]? = some (.string l[i].key) ∧ (opsV l)[i * 3 + 2]? = some (.string l[i].val) := by
  induction l with
  | nil => intro i hi; simp at hi
  | cons o l ih =>
    have e : opsV (o :: l) = .int .i64 o.kind :: .string o.key :: .string o.val :: opsV l := rfl
    intro i hi
    cases i with
    | zero => rw [e]; exact ⟨rfl, rfl, rfl⟩
    | succ i =>
      have h := ih i (by simpa using hi)
      rw [e, show (i + 1) * 3 = i * 3 + 1 + 1 + 1 by omega, show i * 3 + 1 + 1 + 1 + 1 = i * 3 + 1 + 1 + 1 + 1 from rfl]
      simp only [List.getElem_cons_succ, List.getElem?_cons_succ]
      exact h
theorem opsV_one (l : List OpV) : ∀ u ∈ opsV l, u.oneCell' = true := by
  intro u hu
  unfold opsV at hu
  obtain ⟨o, _, h⟩ := List.mem_flatMap.1 hu
  simp at h
  rcases h with rfl | rfl | rfl <;> rfl
theorem OpsAt.flat {w : World} {x : Addr} {l : List OpV} (h : OpsAt w (some x) l) : ∀ j u, (opsV l)[j]? = some u → w.cell? (x.add j) = some u := by
  intro j u hu
  have hj : j < l.length * 3 := by
    rcases Nat.lt_or_ge j (l.length * 3) with h | h
    · exact h
    · rw [List.getElem?_eq_none (by rw [opsV_len]; exact h)] at hu; cases hu
  have hi : j / 3 < l.length := by omega
  obtain ⟨b, off, e, _, c0, c1, c2⟩ := h.at hi
  obtain ⟨d0, d1, d2⟩ := opsV_at l (j / 3) hi
  have hr : j = j / 3 * 3 ∨ j = j / 3 * 3 + 1 ∨ j = j / 3 * 3 + 2 := by omega
  rw [Option.some.inj e, addr_add]
  rcases hr with h | h | h
  · rw [h] at hu ⊢; rw [d0] at hu; rw [c0]; exact hu
  · rw [h] at hu ⊢; rw [d1] at hu; rw [← Nat.add_assoc, c1]; exact hu
  · rw [h] at hu ⊢; rw [d2] at hu; rw [← Nat.add_assoc, c2]; exact hu
/-- Changes (maybe none) appended to a row of one's own; all blocks but the row's stay. -/
theorem appO (B : Nat) (w : World) (v : Value) (ys zs : List OpV) (n m : Nat) (a : Option Addr) (cap : Nat) (hown : w.ownsRow B 48 3 v n (opsV ys)) (hy : OpsAt w a zs) (hm : zs.length = m) (hnil : a = none → zs = [] ∧ cap = 0) (hB : B ≤ w.heap.size) (hl : n + m ≤ 1000000) :
    ∃ v' w2, (Builtin.append_ #[22, 22] 22 #[v, .slice a m cap]).run Try.prog w = .ok v' w2 ∧ w2.ownsRow B 48 3 v' (n + m) (opsV (ys ++ zs)) ∧ Below B w w2 ∧ ∀ q, q < w.heap.size → v.ownBlock ≠ some q → v'.ownBlock ≠ some q ∧ w2.heap[q]? = w.heap[q]? := by
  subst hm
  obtain ⟨i0, hi0, hz0, hz1, hz2⟩ := info_parts info_op3
  cases a with
  | none =>
    obtain ⟨rfl, rfl⟩ := hnil rfl
    have hrun := run_append_owned_none (P := Try.prog) (w := w) B 22 22 48 i0 3 Try.underlying22 hi0 v n (opsV ys) hown
    exact ⟨v, w, hrun, by rw [List.append_nil]; exact hown, Below.refl _ _, fun q _ h => ⟨h, rfl⟩⟩
  | some x =>
    obtain ⟨v', w2, h1, h2, h3, _, h5⟩ := run_append_own_at (P := Try.prog) w B 22 22 48 i0 _ 3 40 Try.underlying22 hi0 hz0 hz1 hz2 rfl (by decide) v n (opsV ys) hown x zs.length cap (opsV zs) (opsV_len zs) hy.flat (opsV_one zs) (by unfold maxLen; omega) (by omega) (by omega)
    refine ⟨v', w2, h1, by rw [opsV_app]; exact h2, (Below.refl B w).grown h3 (by omega) (fun g hg => (hown.lt g hg).1), fun q hq hv => ⟨fun e => ?_, h3.block q hq (fun e => hv e.symm)⟩⟩
    rcases h5 with h5 | h5
    · exact hv (by rw [← h5]; exact e)
    · rw [h5] at e; have := Option.some.inj e; omega
theorem own_zeroO (w : World) (z : Nat) (hz : w.heap.size = z) : (w.alloc (.cells #[] 48)).ownsRow z 48 3 (.slice (some ⟨z, 0, none⟩) 0 0) 0 (opsV []) := by
  subst hz
  exact ⟨rfl, .inr ⟨w.heap.size, 0, #[], rfl, Nat.le_refl _, heap_alloc_new w _, Nat.le_refl _, by unfold maxLen; omega, rfl, rfl⟩⟩
theorem own_keepS {w w' : World} {B n k : Nat} {e : TypeId} {v : Value} {xs : List Value} (h : w.ownsRow B e k v n xs) (hb : Below w.heap.size w w') : w'.ownsRow B e k v n xs := by
  refine ⟨h.1, ?_⟩
  rcases h.2 with h2 | ⟨g, cap, cur, h1, h2, h3, h4⟩
  · exact .inl h2
  · refine .inr ⟨g, cap, cur, h1, h2, ?_, h4⟩
    have hlt : g < w.heap.size := by
      rcases Nat.lt_or_ge g w.heap.size with h | h
      · exact h
      · rw [Array.getElem?_eq_none h] at h3; cases h3
    rw [hb.block g hlt]; exact h3
theorem ops_of_own {w : World} {B n : Nat} {v : Value} {l : List OpV} (h : w.ownsRow B 48 3 v n (opsV l)) : ∃ a cap, v = .slice a l.length cap ∧ OpsAt w a l ∧ (a = none → l = [] ∧ cap = 0) ∧ l.length ≤ cap ∧ (∀ x, a = some x → B ≤ x.block) := by
  have hn : n = l.length := by have := h.1; rw [opsV_len] at this; omega
  subst hn
  rcases h.2 with ⟨rfl, h0⟩ | ⟨g, cap, cur, rfl, hB, hg, k1, k2, k3, k4⟩
  · have : l = [] := List.length_eq_zero_iff.1 h0
    subst this
    exact ⟨none, 0, rfl, .inl rfl, fun _ => ⟨rfl, rfl⟩, Nat.le_refl _, fun x hx => by cases hx⟩
  · refine ⟨some ⟨g, 0, none⟩, cap, rfl, ?_, (fun e => by cases e), k1, (fun x hx => by cases hx; exact hB)⟩
    refine .inr ⟨g, 0, rfl, (Array.getElem?_eq_some_iff.1 hg).1, fun i hi => ?_⟩
    obtain ⟨d0, d1, d2⟩ := opsV_at l i hi
    rw [← k4] at d0 d1 d2
    rw [List.getElem?_take, if_pos (by omega), Array.getElem?_toList] at d0 d1 d2
    rw [Nat.zero_add, cell_of_row _ _ _ _ _ _ hg, cell_of_row _ _ _ _ _ _ hg, cell_of_row _ _ _ _ _ _ hg]
    exact ⟨d0, d1, d2⟩
theorem putL_len1 {n : Nat} (h : n ≤ 1000) : (VA.putL n).length = if n < 128 then 1 else 2 := by
  split
  · rename_i h1; rw [VA.putL_lt h1]; rfl
  · rename_i h1; rw [VA.putL_ge (by omega), VA.putL_lt (by omega)]; rfl
theorem textL_len1 {s : ByteArray} (h : s.size ≤ 1000) : (textL s).length = (if s.size < 128 then 1 else 2) + s.size := by
  unfold textL
  rw [List.length_append, putL_len1 h, natsOf_length]
theorem opL_size {o : OpV} (hk : o.key.size ≤ 64) (hv : o.val.size ≤ 1000) : (opL o).length = 2 + o.key.size + if o.kind = 1 then (if o.val.size < 128 then 1 else 2) + o.val.size else 0 := by
  unfold opL
  simp only [List.length_cons, List.length_append, textL_len1 (s := o.key) (by omega)]
  rw [if_pos (by omega)]
  split
  · rw [textL_len1 hv]; omega
  · simp; omega
set_option maxRecDepth 100000 in
set_option maxHeartbeats 1000000 in
theorem size_any (o : OpV) (hk : o.key.size ≤ 64) (hv : o.val.size ≤ 1000) (w : World) : Calls Try.prog 23 #[o.v] w fun e w' => e = .returned (.int .i64 ((opL o).length : Int)) ∧ Below w.heap.size w w' := by
  have HS := Lib.hid (opL_size hk hv)
  obtain ⟨kd, k, v⟩ := o
  dsimp only at hk hv
  unfold OpV.v
  by_cases h1 : kd = 1
  · subst h1
    by_cases h2 : v.size < 128
    · have hn : Hid ((opL ⟨1, k, v⟩).length = 2 + k.size + (1 + v.size)) := Lib.hid (by rw [HS.out, if_pos rfl]; dsimp only; rw [if_pos h2])
      have q1 : ¬ 127 < v.size := by omega
      clear HS
      go_enter Try.func23, Try.ntmps23
      go_wp2
      go_ret
      exact ⟨ret_int (by rw [hn.out]; omega), below_alloc (Nat.le_refl _) _⟩
    · have hn : Hid ((opL ⟨1, k, v⟩).length = 2 + k.size + (2 + v.size)) := Lib.hid (by rw [HS.out, if_pos rfl]; dsimp only; rw [if_neg h2])
      have q1 : 127 < v.size := by omega
      clear HS
      go_enter Try.func23, Try.ntmps23
      go_wp2
      go_ret
      exact ⟨ret_int (by rw [hn.out]; omega), below_alloc (Nat.le_refl _) _⟩
  · have q0 : (kd == 1) = false := by simp [h1]
    have hn : Hid ((opL ⟨kd, k, v⟩).length = 2 + k.size) := Lib.hid (by rw [HS.out]; dsimp only; rw [if_neg h1]; rfl)
    clear HS h1
    go_enter Try.func23, Try.ntmps23
    go_wp2
    go_ret
    exact ⟨ret_int (by rw [hn.out]; omega), below_alloc (Nat.le_refl _) _⟩
end Go.Proofs.Ythpcgdgahlcblaa
