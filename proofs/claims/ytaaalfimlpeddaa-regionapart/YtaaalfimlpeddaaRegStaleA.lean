/-
  What the law RegionStale keeps true from round to round, said of the abstract pool and of memory.
-/
import Derived.Test.YtaaalfimlpeddaaRegFert
namespace Go.Proofs.Ytaaalfimlpeddaa.regionStale
open Go.RowKit

structure Hd where
  r : Nat
  g : Nat
  o : Nat
  l : Nat
def Hd.cells (h : Hd) : List Value := [.int .i64 h.r, .int .i64 h.g, .int .i64 h.o, .int .i64 h.l]
def Hd.cell (h : Hd) (c : Nat) : Value := if c = 0 then .int .i64 h.r else if c = 1 then .int .i64 h.g else if c = 2 then .int .i64 h.o else .int .i64 h.l

structure StaleH (S : Ps) (h : Hd) : Prop where
  r : h.r < 256
  l : h.l ≤ 64
  g : h.g ≤ S.gen h.r
  d : h.g = S.gen h.r → S.live h.r = false
theorem StaleH.perr {S : Ps} {h : Hd} (hs : StaleH S h) : S.perr h.r h.g h.o h.l = 3 := by
  unfold Ps.perr
  by_cases e : h.g = S.gen h.r
  · have : S.has h.r = false := by simp [Ps.has, hs.d e]
    simp [this]
  · have : ((S.gen (h.r : Int).toNat : Int) == (h.g : Int)) = false := by
      simp; omega
    rw [this]; simp

structure GoodH (S : Ps) (k : Nat) (h : Hd) : Prop where
  r : h.r < 256
  lv : S.live h.r = true
  g : S.gen h.r = h.g
  o : h.o = 0
  l1 : 1 ≤ h.l
  l2 : h.l ≤ 64
  f : S.fill h.r = h.l
  s : ∃ j, S.sl h.r = [j] ∧ S.bt (j * 64) = k

/-- What holds of the pool. -/
structure PInv (S : Ps) (H : Nat → Hd) (th : Nat → Bool) (D : List Hd) (m : Nat) : Prop where
  sz : S.size = 64
  n : S.n = 8
  a1 : ∀ k, k < 4 → th k = true → GoodH S k (H k)
  a2 : ∀ k, k < 4 → th k = false → StaleH S (H k)
  a3 : ∀ h, h ∈ D → StaleH S h
  a4 : ∀ k l, k < 4 → l < 4 → k ≠ l → th k = true → th l = true → (H k).r ≠ (H l).r
  a5 : ∀ i, i < 256 → S.live i = true → ∃ k, k < 4 ∧ th k = true ∧ (H k).r = i
  a6 : ∀ i, i < 256 → S.gen i ≤ m
  a7 : D.length ≤ m

theorem nodup_map_lt {n m : Nat} (f : Nat → Nat) (h1 : ∀ i, i < n → f i < m) (h2 : ∀ i j, i < n → j < n → f i = f j → i = j) : n ≤ m := by
  have hd : ((List.range n).map f).Nodup := by
    rw [List.nodup_iff_pairwise_ne, List.pairwise_map]
    refine List.Pairwise.imp_of_mem ?_ List.pairwise_lt_range
    intro a b ha hb hab e
    have := h2 a b (List.mem_range.1 ha) (List.mem_range.1 hb) e
    omega
  have := nodup_le m _ hd (fun j hj => by
    obtain ⟨i, hi, rfl⟩ := List.mem_map.1 hj
    exact h1 i (List.mem_range.1 hi))
  simpa using this

theorem PInv.next {S : Ps} {H : Nat → Hd} {th : Nat → Bool} {D : List Hd} {m : Nat} (h : PInv S H th D m) : ∃ r, S.next = some r := by
  cases hn : S.next with
  | some r => exact ⟨r, rfl⟩
  | none =>
    exfalso
    have hall := idleFrom_none _ _ rfl hn
    have hex : ∀ i, i < 5 → ∃ k, k < 4 ∧ th k = true ∧ (H k).r = i := fun i hi => h.a5 i (by omega) (hall i (Nat.zero_le _) (by omega))
    have : 5 ≤ 4 := nodup_map_lt (fun i => if hi : i < 5 then Classical.choose (hex i hi) else 0)
      (fun i hi => by simp only [dif_pos hi]; exact (Classical.choose_spec (hex i hi)).1)
      (fun i j hi hj e => by
        simp only [dif_pos hi, dif_pos hj] at e
        have h1 := (Classical.choose_spec (hex i hi)).2.2
        have h2 := (Classical.choose_spec (hex j hj)).2.2
        rw [e] at h1; omega)
    omega

theorem PInv.idle {S : Ps} {H : Nat → Hd} {th : Nat → Bool} {D : List Hd} {m : Nat} (hO : S.Ok) (h : PInv S H th D m) : ∃ j, S.idle = some j := by
  cases hn : S.idle with
  | some r => exact ⟨r, rfl⟩
  | none =>
    exfalso
    have hall := idleFrom_none _ _ rfl hn
    have hn8 := h.n
    have hex : ∀ j, j < 8 → ∃ k, k < 4 ∧ S.sl (H k).r = [j] := fun j hj => by
      obtain ⟨i, hi, hl, hm⟩ := hO.v6 j (by omega) (hall j (Nat.zero_le _) (by omega))
      obtain ⟨k, hk, ht, rfl⟩ := h.a5 i hi hl
      obtain ⟨j', hs, _⟩ := (h.a1 k hk ht).s
      rw [hs] at hm
      simp at hm
      exact ⟨k, hk, by rw [hs, hm]⟩
    have : 8 ≤ 4 := nodup_map_lt (fun i => if hi : i < 8 then Classical.choose (hex i hi) else 0)
      (fun i hi => by simp only [dif_pos hi]; exact (Classical.choose_spec (hex i hi)).1)
      (fun i j hi hj e => by
        simp only [dif_pos hi, dif_pos hj] at e
        have h1 := (Classical.choose_spec (hex i hi)).2
        have h2 := (Classical.choose_spec (hex j hj)).2
        rw [e, h2] at h1; simpa using h1.symm)
    omega

/-- A region is freed: its handle is dead. -/
theorem PInv.free {S : Ps} {H : Nat → Hd} {th : Nat → Bool} {D : List Hd} {m k : Nat} (hO : S.Ok) (h : PInv S H th D m) (hk : k < 4) (ht : th k = true) :
    PInv (S.freed (H k).r) H (fun q => if q = k then false else th q) (D ++ [H k]) (m + 1) := by
  have hg := h.a1 k hk ht
  have hstk : StaleH (S.freed (H k).r) (H k) := ⟨hg.r, hg.l2, by show _ ≤ S.gen _; rw [hg.g]; exact Nat.le_refl _, fun _ => by simp [Ps.freed]⟩
  have hst : ∀ x, StaleH S x → StaleH (S.freed (H k).r) x := fun x hx => ⟨hx.r, hx.l, hx.g, fun e => by
    have := hx.d e
    show (if _ then false else S.live _) = false
    split
    · rfl
    · exact this⟩
  refine ⟨h.sz, h.n, fun q hq htq => ?_, fun q hq htq => ?_, fun x hx => ?_, fun q l hq hl hql h1 h2 => ?_, fun i hi hl => ?_, fun i hi => Nat.le_succ_of_le (h.a6 i hi), by have := h.a7; simp; exact this⟩
  · have hqk : q ≠ k := fun e => by subst e; simp at htq
    rw [if_neg hqk] at htq
    have hgq := h.a1 q hq htq
    have hr := h.a4 q k hq hk hqk htq ht
    obtain ⟨j, hs, hb⟩ := hgq.s
    refine ⟨hgq.r, by simp [Ps.freed, hr, hgq.lv], hgq.g, hgq.o, hgq.l1, hgq.l2, by simp [Ps.freed, hr, hgq.f], j, by simp [Ps.freed, hr, hs], ?_⟩
    have : (j * 64) / S.size = j := by rw [h.sz]; omega
    have hj : j ∉ S.sl (H k).r := hO.v4 _ _ hgq.r hg.r hr j (by rw [hs]; simp)
    simp [Ps.freed, this, hj, hb]
  · by_cases e : q = k
    · subst e; exact hstk
    · rw [if_neg e] at htq; exact hst _ (h.a2 q hq htq)
  · rcases List.mem_append.1 hx with hx | hx
    · exact hst _ (h.a3 x hx)
    · simp at hx; subst hx; exact hstk
  · have h1' : th q = true := by by_cases e : q = k <;> simp_all
    have h2' : th l = true := by by_cases e : l = k <;> simp_all
    exact h.a4 q l hq hl hql h1' h2'
  · have hik : i ≠ (H k).r := fun e => by subst e; simp [Ps.freed] at hl
    obtain ⟨q, hq, htq, e⟩ := h.a5 i hi (by simpa [Ps.freed, hik] using hl)
    exact ⟨q, hq, by rw [if_neg (fun e' => hik (by rw [← e, e']))]; exact htq, e⟩

/-- A region is made, filled, and its first byte stored. -/
theorem PInv.make {S : Ps} {H : Nat → Hd} {th : Nat → Bool} {D : List Hd} {m k r j n : Nat} {v : Value} (hO : S.Ok) (h : PInv S H th D m) (hk : k < 4) (ht : th k = false) (hr : S.next = some r) (hj : S.idle = some j) (hn1 : 1 ≤ n) (hn2 : n ≤ 64) :
    PInv ((((S.made r).handed r j v).filled r n).stored (j * 64) [k]) (fun q => if q = k then ⟨r, S.gen r + 1, 0, n⟩ else H q) (fun q => if q = k then true else th q) D (m + 1) := by
  obtain ⟨hr1, hr2, _⟩ := S.next_some hr
  obtain ⟨hj1, hj2⟩ := S.idle_some hj
  have hgen : ∀ i, ((((S.made r).handed r j v).filled r n).stored (j * 64) [k]).gen i = if i = r then S.gen r + 1 else S.gen i := fun i => rfl
  have hlive : ∀ i, ((((S.made r).handed r j v).filled r n).stored (j * 64) [k]).live i = if i = r then true else S.live i := fun i => rfl
  have hfill : ∀ i, ((((S.made r).handed r j v).filled r n).stored (j * 64) [k]).fill i = if i = r then n else if i = r then 0 else S.fill i := fun i => rfl
  have hsl : ∀ i, i ≠ r → ((((S.made r).handed r j v).filled r n).stored (j * 64) [k]).sl i = S.sl i := fun i hi => by simp [Ps.stored, Ps.filled, Ps.handed, Ps.made, hi]
  have hslr : ((((S.made r).handed r j v).filled r n).stored (j * 64) [k]).sl r = [j] := by simp [Ps.stored, Ps.filled, Ps.handed, Ps.made]
  have hst : ∀ x, StaleH S x → StaleH ((((S.made r).handed r j v).filled r n).stored (j * 64) [k]) x := fun x hx => by
    refine ⟨hx.r, hx.l, ?_, fun e => ?_⟩
    · rw [hgen]; have := hx.g; split
      · rename_i e; rw [e] at this; omega
      · exact this
    · rw [hgen] at e; rw [hlive]
      by_cases e' : x.r = r
      · rw [if_pos e'] at e; have := hx.g; rw [e'] at this; omega
      · rw [if_neg e'] at e ⊢; exact hx.d e
  have hnr : ∀ q, q < 4 → th q = true → (H q).r ≠ r := fun q hq htq e => by
    have := (h.a1 q hq htq).lv; rw [e, hr2] at this; cases this
  refine ⟨h.sz, h.n, fun q hq htq => ?_, fun q hq htq => ?_, fun x hx => hst x (h.a3 x hx), fun q l hq hl hql h1 h2 => ?_, fun i hi hl => ?_, fun i hi => ?_, Nat.le_succ_of_le h.a7⟩
  · by_cases e : q = k
    · subst e
      simp only [if_true]
      refine ⟨hr1, by rw [hlive]; simp, by rw [hgen]; simp, rfl, hn1, hn2, by rw [hfill]; simp, j, hslr, ?_⟩
      simp [Ps.stored, putBt]
    · simp only [if_neg e] at htq ⊢
      have hgq := h.a1 q hq htq
      have hne := hnr q hq htq
      obtain ⟨j', hs, hb⟩ := hgq.s
      have hjj : j' ≠ j := fun e => by have := hO.v5 _ hgq.r j' (by rw [hs]; simp); rw [e, hj2] at this; cases this
      refine ⟨hgq.r, by rw [hlive, if_neg hne]; exact hgq.lv, by rw [hgen, if_neg hne]; exact hgq.g, hgq.o, hgq.l1, hgq.l2, by rw [hfill, if_neg hne, if_neg hne]; exact hgq.f, j', by rw [hsl _ hne]; exact hs, ?_⟩
      show putBt _ (j * 64) [k] (j' * 64) = q
      unfold putBt
      rw [if_neg (by simp; omega)]
      show (if j * S.size ≤ j' * 64 ∧ j' * 64 < j * S.size + S.size then 0 else S.bt (j' * 64)) = q
      rw [h.sz, if_neg (by omega)]; exact hb
  · have hqk : q ≠ k := fun e => by subst e; simp at htq
    simp only [if_neg hqk] at htq ⊢
    exact hst _ (h.a2 q hq htq)
  · by_cases e1 : q = k
    · have e2 : l ≠ k := fun e => hql (e1.trans e.symm)
      simp only [if_pos e1, if_neg e2] at h2 ⊢
      exact fun e => hnr l hl h2 e.symm
    · by_cases e2 : l = k
      · simp only [if_pos e2, if_neg e1] at h1 ⊢
        exact hnr q hq h1
      · simp only [if_neg e1, if_neg e2] at h1 h2 ⊢
        exact h.a4 q l hq hl hql h1 h2
  · rw [hlive] at hl
    by_cases e : i = r
    · exact ⟨k, hk, by simp, by simp [e]⟩
    · rw [if_neg e] at hl
      obtain ⟨q, hq, htq, e'⟩ := h.a5 i hi hl
      have hqk : q ≠ k := fun e => by subst e; rw [ht] at htq; cases htq
      exact ⟨q, hq, by simp [hqk, htq], by simp [hqk, e']⟩
  · rw [hgen]; have := h.a6 i hi
    split
    · rename_i e; subst e; omega
    · omega
end Go.Proofs.Ytaaalfimlpeddaa.regionStale
