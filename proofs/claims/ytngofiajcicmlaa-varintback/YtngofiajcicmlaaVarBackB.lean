/-
  VarintBack: rows that came in, appends.
-/
import Derived.Test.YtngofiajcicmlaaVarW2
import Derived.Test.YtngofiajcicmlaaVarBackP
import Derived.Laws.MakeOwn
import Derived.Deep.RegionLaw
namespace Go.Proofs.Ytngofiajcicmlaa
open Go.RowKit

/-- What is told of a slice of integers that came in (as the shell of the proof has it). -/
def IsRow (k : IntKind) (w : World) (a : Option Addr) (len cap : Nat) (zs : List Int) : Prop :=
  (a = none ∧ len = 0 ∧ cap = 0 ∧ zs = []) ∨
  ∃ x, a = some x ∧ len ≤ cap ∧ cap ≤ maxLen ∧ zs.length = cap ∧ (∀ i, i < zs.length → w.cell? (x.add i) = some (.int k (zs.getD i 0))) ∧ ∀ n ∈ zs, (Lit.int k n).wf = true
theorem wf_u8 {a : Int} (h : (Lit.int .u8 a).wf = true) : 0 ≤ a ∧ a < 256 := by
  simp [Lit.wf, IntKind.min, IntKind.max, IntKind.signed, IntKind.bits] at h; omega
/-- Bytes that came in are bytes. -/
theorem IsRow.byt {w : World} {a : Option Addr} {len cap : Nat} {zs : List Int} (h : IsRow .u8 w a len cap zs) :
    ∃ l : List Nat, l.length = len ∧ Byt w a l ∧ (∀ x ∈ l, x < 256) ∧ len ≤ cap ∧ cap ≤ maxLen ∧ (a = none → l = []) := by
  rcases h with ⟨_, rfl, rfl, _⟩ | ⟨x, rfl, h1, h2, h3, h4, h5⟩
  · exact ⟨[], rfl, .inl rfl, by simp, Nat.le_refl _, by unfold maxLen; omega, fun _ => rfl⟩
  · refine ⟨(zs.take len).map Int.toNat, by simp; omega, ?_, ?_, h1, h2, fun h => by cases h⟩
    · by_cases h0 : len = 0
      · left; simp [h0]
      · right
        have hc0 := h4 0 (by omega)
        have hx : x.add 0 = x := by simp [Addr.add]
        rw [hx] at hc0
        obtain ⟨b, off, spot⟩ := x
        have hsp : spot = none := by
          cases spot with
          | none => rfl
          | some s => simp [World.cell?] at hc0; split at hc0 <;> simp at hc0
        subst hsp
        refine ⟨b, off, rfl, World.block_lt_of_cell? w _ hc0, fun i hi => ?_⟩
        simp at hi
        have := h4 i (by omega)
        rw [addr_add] at this
        rw [this]
        have hg : zs.getD i 0 = zs[i]'(by omega) := by rw [List.getD_eq_getElem?_getD, List.getElem?_eq_getElem (by omega)]; rfl
        have hw := wf_u8 (h5 (zs[i]'(by omega)) (List.getElem_mem _))
        rw [hg]; simp only [List.getElem_map, List.getElem_take]
        rw [Int.toNat_of_nonneg hw.1]
    · intro y hy
      simp only [List.mem_map] at hy
      obtain ⟨z, hz, rfl⟩ := hy
      have := wf_u8 (h5 z (List.mem_of_mem_take hz))
      omega
theorem wf_u64 {a : Int} (h : (Lit.int .u64 a).wf = true) : ∃ n : Nat, a = n ∧ n < 18446744073709551616 := by
  simp [Lit.wf, IntKind.min, IntKind.max, IntKind.signed, IntKind.bits] at h
  exact ⟨a.toNat, by omega, by omega⟩
theorem wf_i64 {a : Int} (h : (Lit.int .i64 a).wf = true) : -9223372036854775808 ≤ a ∧ a ≤ 9223372036854775807 := by
  simp [Lit.wf, IntKind.min, IntKind.max, IntKind.signed, IntKind.bits] at h; omega
/-- New bytes, as a slice and as a text. -/
theorem FreshU.open {w w' : World} {l : List Nat} {e : Ending} (h : FreshU w l e w') (hb : ∀ x ∈ l, x < 256) :
    ∃ a cap, e = .returned (.slice a l.length cap) ∧ Below w.heap.size w w' ∧ l.length ≤ cap ∧ Byt w' a l ∧ ∀ wx, Below w'.heap.size w' wx → (convert 23 9 (.slice a l.length cap)).run Try.prog wx = .ok (.string (strOf l)) wx := by
  obtain ⟨v, rfl, hown, hbl⟩ := h
  obtain ⟨a, cap, rfl, hB, hn, hc⟩ := byt_of_own hown
  exact ⟨a, cap, rfl, hbl, hc, hB, fun wx hx => conv_bytes (hB.keep hx) hb hn cap _ rfl⟩
/-- An append whose run is known: at the operation, in a plain region, in one that draws its order. -/
theorem wp_app_run {P : Program} {w : World} {o : Oper} {a : Act} {K : Act → World → Prop} {Q : Exit → Act → World → Prop} {s x : Operand} {t u : TypeId}
    (ho : o.op = .call { callee := .builtin .append, args := #[s, x], argTypes := #[t, u] }) {v1 v2 v' : Value} {w' : World}
    (hr : (Builtin.append_ #[t, u] o.type #[v1, v2]).run P w = .ok v' w') (hs : a.eval s = v1) (hx : a.eval x = v2) (h : K (a.put o.dst v') w') : o.wp P a w K Q := by
  unfold Oper.wp execOp
  simp only [ho, resolve, invoke, builtin, Sem.run_bind, Sem.run_pure, Result.andThen_ok, List.map_toArray, List.map_cons, List.map_nil, hs, hx, hr]
  exact h
theorem wpList_app_run {P : Program} {w : World} {ops : Array Oper} {rest : List Oper} {o : Oper} {a : Act} {Q : Exit → Act → World → Prop} (hgd : o.guard = none) {s x : Operand} {t u : TypeId}
    (ho : o.op = .call { callee := .builtin .append, args := #[s, x], argTypes := #[t, u] }) {v1 v2 v' : Value} {w' : World}
    (hr : (Builtin.append_ #[t, u] o.type #[v1, v2]).run P w = .ok v' w') (hs : a.eval s = v1) (hx : a.eval x = v2) (h : wpList P ops Q rest (a.put o.dst v') w') : wpList P ops Q (o :: rest) a w :=
  wpList_plain hgd fun _ hK => wp_app_run ho hr hs hx (hK _ _ h)
theorem step_app_run {P : Program} {w : World} {ops : Array Oper} {o : Oper} {a : Act} {K : Act → World → Prop} {Q : Exit → Act → World → Prop} {E : Prop} (hgd : o.guard = none) {s x : Operand} {t u : TypeId}
    (ho : o.op = .call { callee := .builtin .append, args := #[s, x], argTypes := #[t, u] }) {v1 v2 v' : Value} {w' : World}
    (hr : (Builtin.append_ #[t, u] o.type #[v1, v2]).run P w = .ok v' w') (hs : a.eval s = v1) (hx : a.eval x = v2) (h : K (a.put o.dst v') w') :
    if Region.wanted o (yielded ops a.tmps) = true then Oper.wp P o a w K Q else E := by
  have hw : Region.wanted o (yielded ops a.tmps) = true := by simp [Region.wanted, hgd]
  rw [if_pos hw]
  exact wp_app_run ho hr hs hx h

theorem own_keep {w w' : World} {B n : Nat} {e : TypeId} {v : Value} {xs : List Value} (h : w.ownsRow B e 1 v n xs) (hb : Below w.heap.size w w') : w'.ownsRow B e 1 v n xs := by
  refine ⟨h.1, ?_⟩
  rcases h.2 with h2 | ⟨g, cap, cur, h1, h2, h3, h4⟩
  · exact .inl h2
  · refine .inr ⟨g, cap, cur, h1, h2, ?_, h4⟩
    have hlt : g < w.heap.size := by
      rcases Nat.lt_or_ge g w.heap.size with h | h
      · exact h
      · rw [Array.getElem?_eq_none h] at h3; cases h3
    rw [hb.block g hlt]; exact h3
/-- Numbers of 64 bits that lie in memory. -/
def N64 (w : World) (a : Option Addr) (l : List Nat) : Prop :=
  l = [] ∨ ∃ b off, a = some ⟨b, off, none⟩ ∧ b < w.heap.size ∧ ∀ i (_ : i < l.length), w.cell? ⟨b, off + i, none⟩ = some (.int .u64 (l[i] : Int))
theorem N64.keep {w w' : World} {a : Option Addr} {l : List Nat} (h : N64 w a l) (hb : Below w.heap.size w w') : N64 w' a l := by
  rcases h with h | ⟨b, off, rfl, hlt, hc⟩
  · exact .inl h
  · exact .inr ⟨b, off, rfl, Nat.lt_of_lt_of_le hlt hb.size, fun i hi => (hb.cell (p := ⟨b, off + i, none⟩) hlt).trans (hc i hi)⟩
theorem N64.at {w : World} {a : Option Addr} {l : List Nat} (h : N64 w a l) {k : Nat} (hk : k < l.length) : ∃ b off, a = some ⟨b, off, none⟩ ∧ b < w.heap.size ∧ w.cell? ⟨b, off + k, none⟩ = some (.int .u64 (l[k] : Int)) := by
  rcases h with h | ⟨b, off, rfl, hl, hc⟩
  · subst h; simp at hk
  · exact ⟨b, off, rfl, hl, hc k hk⟩
theorem IsRow.n64 {w : World} {a : Option Addr} {len cap : Nat} {zs : List Int} (h : IsRow .u64 w a len cap zs) :
    ∃ l : List Nat, l.length = len ∧ N64 w a l ∧ (∀ x ∈ l, x < 18446744073709551616) ∧ len ≤ cap ∧ cap ≤ maxLen := by
  rcases h with ⟨_, rfl, rfl, _⟩ | ⟨x, rfl, h1, h2, h3, h4, h5⟩
  · exact ⟨[], rfl, .inl rfl, by simp, Nat.le_refl _, by unfold maxLen; omega⟩
  · refine ⟨(zs.take len).map Int.toNat, by simp; omega, ?_, ?_, h1, h2⟩
    · by_cases h0 : len = 0
      · left; simp [h0]
      · right
        have hc0 := h4 0 (by omega)
        have hx : x.add 0 = x := by simp [Addr.add]
        rw [hx] at hc0
        obtain ⟨b, off, spot⟩ := x
        have hsp : spot = none := by
          cases spot with
          | none => rfl
          | some s => simp [World.cell?] at hc0; split at hc0 <;> simp at hc0
        subst hsp
        refine ⟨b, off, rfl, World.block_lt_of_cell? w _ hc0, fun i hi => ?_⟩
        simp at hi
        have := h4 i (by omega)
        rw [addr_add] at this
        rw [this]
        have hg : zs.getD i 0 = zs[i]'(by omega) := by rw [List.getD_eq_getElem?_getD, List.getElem?_eq_getElem (by omega)]; rfl
        obtain ⟨n, hn, _⟩ := wf_u64 (h5 (zs[i]'(by omega)) (List.getElem_mem _))
        rw [hg]; simp only [List.getElem_map, List.getElem_take]
        rw [Int.toNat_of_nonneg (by omega)]
    · intro y hy
      simp only [List.mem_map] at hy
      obtain ⟨z, hz, rfl⟩ := hy
      obtain ⟨n, hn, hlt⟩ := wf_u64 (h5 z (List.mem_of_mem_take hz))
      omega
theorem Byt.cells {w : World} {a : Option Addr} {l : List Nat} (h : Byt w a l) (h0 : l ≠ []) : ∃ x, a = some x ∧ (∃ b off, x = ⟨b, off, none⟩ ∧ b < w.heap.size) ∧ ∀ j u, (u8s l)[j]? = some u → w.cell? (x.add j) = some u := by
  rcases h with h | ⟨b, off, rfl, hlt, hc⟩
  · exact absurd h h0
  · refine ⟨_, rfl, ⟨b, off, rfl, hlt⟩, fun j u hu => ?_⟩
    simp only [u8s, List.getElem?_map, Option.map_eq_some_iff] at hu
    obtain ⟨x, hx, rfl⟩ := hu
    obtain ⟨hj, rfl⟩ := List.getElem?_eq_some_iff.1 hx
    rw [addr_add, hc j hj]
theorem u8s_one (l : List Nat) : ∀ u ∈ u8s l, u.oneCell' = true := by
  intro u hu; simp only [u8s, List.mem_map] at hu; obtain ⟨n, _, rfl⟩ := hu; rfl
/-- Bytes appended to a row of one's own; all blocks but the row's stay. -/
theorem appL (B : Nat) (w0 wr : World) (v : Value) (ys zs : List Nat) (n : Nat) (a : Option Addr) (cap : Nat) (hown : wr.ownsRow B 5 1 v n (u8s ys)) (hy : Byt wr a zs) (h0 : zs ≠ []) (hb : Below B w0 wr) (hB : B ≤ w0.heap.size) (hl : n + zs.length ≤ 1000000) :
    ∃ v' w2, (Builtin.append_ #[23, 23] 23 #[v, .slice a zs.length cap]).run Try.prog wr = .ok v' w2 ∧ w2.ownsRow B 5 1 v' (n + zs.length) (u8s (ys ++ zs)) ∧ Below B w0 w2 ∧ wr.heap.size ≤ w2.heap.size ∧ ∀ q, q < wr.heap.size → v.ownBlock ≠ some q → w2.heap[q]? = wr.heap[q]? := by
  obtain ⟨i0, hi0, hz0, hz1, hz2⟩ := info_parts Try.info5
  have hsz := hb.size
  obtain ⟨x, rfl, -, hc⟩ := hy.cells h0
  obtain ⟨v', w2, h1, h2, h3, _⟩ := run_append_own (P := Try.prog) wr B 23 23 5 i0 (.int .u8 0) 1 1 Try.underlying23 hi0 hz0 hz1 hz2 rfl (by decide) v n (u8s ys) hown x zs.length cap (u8s zs) (by simp [u8s]) hc (u8s_one zs) (by unfold maxLen; omega) (by omega) (by omega)
  exact ⟨v', w2, h1, by rw [show u8s (ys ++ zs) = u8s ys ++ u8s zs by simp [u8s]]; exact h2, hb.grown h3 (by omega) (fun g hg => (hown.lt g hg).1), h3.size, fun q hq hv => h3.block q hq (fun e => hv e.symm)⟩
theorem Byt.blk {w w' : World} {b off : Nat} {l : List Nat} (h : Byt w (some ⟨b, off, none⟩) l) (hb : w'.heap[b]? = w.heap[b]?) (hlt : b < w'.heap.size) : Byt w' (some ⟨b, off, none⟩) l := by
  rcases h with h | ⟨b', off', e, h1, h2⟩
  · exact .inl h
  · cases e
    exact .inr ⟨_, _, rfl, hlt, fun i hi => (World.cell?_of_block (w := w) (a := ⟨_, _ + i, none⟩) hb).trans (h2 i hi)⟩
/-- Bytes of a new row stay where another row is written on. -/
theorem Byt.aside {w w' : World} {base n cap : Nat} {a : Option Addr} {l : List Nat} {V : Value} (h : Byt w a l) (ho : w.ownsRow base 5 1 (.slice a n cap) n (u8s l)) (hV : ∀ q, V.ownBlock = some q → q < base) (hsz : w.heap.size ≤ w'.heap.size) (k : ∀ q, q < w.heap.size → V.ownBlock ≠ some q → w'.heap[q]? = w.heap[q]?) : Byt w' a l := by
  rcases h with h | ⟨b, off, rfl, hlt, hc⟩
  · exact .inl h
  · have hb := (ho.lt b rfl).1
    refine Byt.blk (.inr ⟨b, off, rfl, hlt, hc⟩) (k b hlt (fun e => ?_)) (by omega)
    have := hV b e
    omega
end Go.Proofs.Ytngofiajcicmlaa
