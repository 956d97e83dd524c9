/-
  What holds of every pool goes on holding: New, Make, Alloc, Store, Free, on the abstract pool alone.
-/
import Derived.Test.YtaaalfimlpeddaaRegW12
import Derived.Test.YtaaalfimlpeddaaRegW9
import Derived.Test.YtaaalfimlpeddaaRegW9b
namespace Go.Proofs.Ytaaalfimlpeddaa
open Go.RowKit

theorem idleFrom_some {tk : Nat → Bool} {n : Nat} : ∀ (m k : Nat), n - k = m → ∀ j, idleFrom tk n k = some j → j < n ∧ k ≤ j ∧ tk j = false ∧ ∀ q, k ≤ q → q < j → tk q = true
  | 0, k, hm, j, h => by
    unfold idleFrom at h; rw [hm] at h; simp at h
  | m + 1, k, hm, j, h => by
    rw [idleFrom_step tk n k (by omega)] at h
    cases hk : tk k
    · rw [hk] at h
      have e : k = j := by simpa using h
      subst e
      exact ⟨by omega, Nat.le_refl _, hk, fun q h1 h2 => by omega⟩
    · rw [hk] at h
      obtain ⟨a, b, c, d⟩ := idleFrom_some (tk := tk) (n := n) m (k + 1) (by omega) j (by simpa using h)
      refine ⟨a, Nat.le_of_succ_le b, c, fun q h1 h2 => ?_⟩
      by_cases e : q = k
      · rw [e]; exact hk
      · exact d q (Nat.lt_of_le_of_ne h1 (Ne.symm e)) h2
theorem idleFrom_none {tk : Nat → Bool} {n : Nat} : ∀ (m k : Nat), n - k = m → idleFrom tk n k = none → ∀ q, k ≤ q → q < n → tk q = true
  | 0, k, hm, h, q, h1, h2 => by omega
  | m + 1, k, hm, h, q, h1, h2 => by
    rw [idleFrom_step tk n k (by omega)] at h
    cases hk : tk k
    · rw [hk] at h; simp at h
    · rw [hk] at h
      by_cases e : q = k
      · rw [e]; exact hk
      · exact idleFrom_none (tk := tk) (n := n) m (k + 1) (by omega) (by simpa using h) q (by omega) h2
theorem idleFrom_is {tk : Nat → Bool} {n j : Nat} (hj : j < n) (h1 : tk j = false) (h2 : ∀ q, q < j → tk q = true) : idleFrom tk n 0 = some j := by
  cases h : idleFrom tk n 0 with
  | none => have := idleFrom_none _ _ rfl h j (Nat.zero_le _) hj; rw [h1] at this; cases this
  | some k =>
    obtain ⟨_, _, c, d⟩ := idleFrom_some _ _ rfl k h
    rcases Nat.lt_trichotomy k j with e | e | e
    · rw [h2 k e] at c; cases c
    · rw [e]
    · rw [d j (Nat.zero_le _) e] at h1; cases h1

theorem Ps.idle_some {S : Ps} {j : Nat} (h : S.idle = some j) : j < S.n ∧ S.tk j = false := by
  obtain ⟨a, _, b, _⟩ := idleFrom_some _ _ rfl j h; exact ⟨a, b⟩
theorem Ps.next_some {S : Ps} {i : Nat} (h : S.next = some i) : i < 256 ∧ S.live i = false ∧ ∀ q, q < i → S.live q = true := by
  obtain ⟨a, _, b, c⟩ := idleFrom_some _ _ rfl i h; exact ⟨a, b, fun q hq => c q (Nat.zero_le _) hq⟩

theorem Ps.Ok.new {s n pb bb tb : Nat} (h1 : 64 ≤ s) (h2 : s ≤ 65536) (h3 : s * n ≤ 4194304) (h4 : 1 ≤ n) (h5 : n ≤ 4096) : (Ps.new s n pb bb tb).Ok :=
  ⟨h1, h2, h3, h4, h5, by simp [Ps.new], by simp [Ps.new], by simp [Ps.new], by simp [Ps.new], by simp [Ps.new], by simp [Ps.new], by simp [Ps.new], by simp [Ps.new]⟩

theorem Ps.Ok.made {S : Ps} (h : S.Ok) {i : Nat} (hn : S.next = some i) : (S.made i).Ok := by
  obtain ⟨hi, hl, _⟩ := S.next_some hn
  have hsl := h.v7 i hi hl
  have e : (S.made i).sl = S.sl := by funext k; by_cases hk : k = i <;> simp [Ps.made, hk, hsl]
  refine ⟨h.s1, h.s2, h.s3, h.s4, h.s5, by rw [e]; exact h.v1, ?_, by rw [e]; exact h.v3, by rw [e]; exact h.v4, by rw [e]; exact h.v5, ?_, ?_, h.v8⟩
  · intro k hk; rw [e]
    have := h.v2 k hk
    show (if k = i then 0 else S.fill k) ≤ _
    split
    · omega
    · exact this
  · intro j hj ht
    obtain ⟨k, hk, a, b⟩ := h.v6 j hj ht
    refine ⟨k, hk, ?_, by rw [e]; exact b⟩
    show (if k = i then true else S.live k) = true
    split
    · rfl
    · exact a
  · intro k hk hlv
    rw [e]
    have : k ≠ i := fun e => by subst e; simp [Ps.made] at hlv
    exact h.v7 k hk (by simpa [Ps.made, this] using hlv)

theorem fits_le {S : Ps} (h : S.Ok) {i n al : Nat} (hf : S.fits i n al = true) : S.from i al + n ≤ (S.sl i).length * S.size := by
  simp only [Ps.fits, Bool.and_eq_true, decide_eq_true_eq] at hf
  obtain ⟨h1, h2⟩ := hf
  have hs := h.s1
  unfold Ps.from at h1 ⊢
  have hd := Nat.div_add_mod (S.fill i) S.size
  have e : S.fill i - S.fill i % S.size = S.size * (S.fill i / S.size) := by omega
  rw [e] at h1 ⊢
  have hq : S.fill i / S.size < (S.sl i).length := by
    refine Nat.lt_of_mul_lt_mul_left (a := S.size) ?_
    rw [Nat.mul_comm S.size (S.sl i).length]; omega
  have := Nat.mul_le_mul_right S.size (Nat.succ_le_of_lt hq)
  rw [Nat.succ_mul, Nat.mul_comm] at this
  omega

theorem Ps.Ok.filled {S : Ps} (h : S.Ok) {i n : Nat} (hn : n ≤ (S.sl i).length * S.size) : (S.filled i n).Ok := by
  refine ⟨h.s1, h.s2, h.s3, h.s4, h.s5, h.v1, ?_, h.v3, h.v4, h.v5, h.v6, h.v7, h.v8⟩
  intro k hk
  show (if k = i then n else S.fill k) ≤ _
  split
  · rename_i e; rw [e]; exact hn
  · exact h.v2 k hk

theorem Ps.Ok.handed {S : Ps} (h : S.Ok) {i j : Nat} {v : Value} (hi : i < 256) (hlv : S.live i = true) (hj : j < S.n) (ht : S.tk j = false) : (S.handed i j v).Ok := by
  have hnot : ∀ k, k < 256 → j ∉ S.sl k := fun k hk hm => by rw [h.v5 k hk j hm] at ht; cases ht
  have e1 : (S.handed i j v).sl i = S.sl i ++ [j] := by simp [Ps.handed]
  have e2 : ∀ k, k ≠ i → (S.handed i j v).sl k = S.sl k := fun k hk => by simp [Ps.handed, hk]
  have e3 : ∀ k q, q ∈ (S.handed i j v).sl k → q ∈ S.sl k ∨ (k = i ∧ q = j) := fun k q hq => by
    by_cases e : k = i
    · subst e; rw [e1] at hq; simp at hq; exact hq.imp id (fun h => ⟨rfl, h⟩)
    · rw [e2 k e] at hq; exact .inl hq
  refine ⟨h.s1, h.s2, h.s3, h.s4, h.s5, ?_, ?_, ?_, ?_, ?_, ?_, ?_, ?_⟩
  · intro k hk q hq
    rcases e3 k q hq with hq | ⟨_, rfl⟩
    · exact h.v1 k hk q hq
    · exact hj
  · intro k hk
    by_cases e : k = i
    · subst e; rw [e1]; have := h.v2 k hk
      have h3 : (S.sl k).length * S.size ≤ (S.sl k ++ [j]).length * S.size := Nat.mul_le_mul_right _ (by simp)
      exact Nat.le_trans this h3
    · rw [e2 k e]; exact h.v2 k hk
  · intro k hk
    by_cases e : k = i
    · subst e; rw [e1]; exact List.nodup_append.2 ⟨h.v3 k hk, by simp, fun a ha b hb => by simp at hb; subst hb; exact fun e => hnot k hk (e ▸ ha)⟩
    · rw [e2 k e]; exact h.v3 k hk
  · intro k l hk hl hkl q hq hq2
    rcases e3 k q hq with h1 | ⟨h1, h1'⟩
    · rcases e3 l q hq2 with h2 | ⟨h2, h2'⟩
      · exact h.v4 k l hk hl hkl q h1 h2
      · exact hnot k hk (h2' ▸ h1)
    · rcases e3 l q hq2 with h2 | ⟨h2, _⟩
      · exact hnot l hl (h1' ▸ h2)
      · exact hkl (h1.trans h2.symm)
  · intro k hk q hq
    show (if q = j then true else S.tk q) = true
    rcases e3 k q hq with hq | ⟨_, rfl⟩
    · rw [h.v5 k hk q hq]; simp
    · simp
  · intro q hq htk
    by_cases e : q = j
    · subst e; exact ⟨i, hi, hlv, by rw [e1]; simp⟩
    · have : S.tk q = true := by simpa [Ps.handed, e] using htk
      obtain ⟨k, hk, a, b⟩ := h.v6 q hq this
      refine ⟨k, hk, a, ?_⟩
      by_cases e' : k = i
      · subst e'; rw [e1]; simp [b]
      · rw [e2 k e']; exact b
  · intro k hk hlk
    have : k ≠ i := fun e => by subst e; have h1 : S.live k = false := hlk; rw [hlv] at h1; cases h1
    rw [e2 k this]; exact h.v7 k hk hlk
  · intro q
    show (if _ then 0 else S.bt q) < 256
    split
    · omega
    · exact h.v8 q

theorem Ps.Ok.stored {S : Ps} (h : S.Ok) (a : Nat) {bs : List Nat} (hb : ∀ x, x ∈ bs → x < 256) : ({ S with bt := putBt S.bt a bs } : Ps).Ok := by
  refine ⟨h.s1, h.s2, h.s3, h.s4, h.s5, h.v1, h.v2, h.v3, h.v4, h.v5, h.v6, h.v7, ?_⟩
  intro q
  show putBt S.bt a bs q < 256
  unfold putBt
  split
  · rename_i e
    rw [List.getD_eq_getElem?_getD, List.getElem?_eq_getElem (by omega)]
    exact hb _ (by simp)
  · exact h.v8 q

theorem Ps.Ok.freed {S : Ps} (h : S.Ok) {i : Nat} (hi : i < 256) : (S.freed i).Ok := by
  have e2 : ∀ k, k ≠ i → (S.freed i).sl k = S.sl k := fun k hk => by simp [Ps.freed, hk]
  have e1 : (S.freed i).sl i = [] := by simp [Ps.freed]
  refine ⟨h.s1, h.s2, h.s3, h.s4, h.s5, ?_, ?_, ?_, ?_, ?_, ?_, ?_, ?_⟩
  · intro k hk q hq
    by_cases e : k = i
    · subst e; rw [e1] at hq; cases hq
    · rw [e2 k e] at hq; exact h.v1 k hk q hq
  · intro k hk
    by_cases e : k = i
    · subst e; simp [Ps.freed]
    · rw [e2 k e]; simpa [Ps.freed, e] using h.v2 k hk
  · intro k hk
    by_cases e : k = i
    · subst e; rw [e1]; exact List.nodup_nil
    · rw [e2 k e]; exact h.v3 k hk
  · intro k l hk hl hkl q hq hq2
    by_cases e : k = i
    · subst e; rw [e1] at hq; cases hq
    · by_cases e' : l = i
      · subst e'; rw [e1] at hq2; cases hq2
      · rw [e2 k e] at hq; rw [e2 l e'] at hq2; exact h.v4 k l hk hl hkl q hq hq2
  · intro k hk q hq
    by_cases e : k = i
    · subst e; rw [e1] at hq; cases hq
    · rw [e2 k e] at hq
      show (if q ∈ S.sl i then false else S.tk q) = true
      rw [if_neg (h.v4 k i hk hi e q hq)]; exact h.v5 k hk q hq
  · intro q hq ht
    have ht2 : (if q ∈ S.sl i then false else S.tk q) = true := ht
    by_cases e : q ∈ S.sl i
    · rw [if_pos e] at ht2; cases ht2
    · rw [if_neg e] at ht2
      obtain ⟨k, hk, a, b⟩ := h.v6 q hq ht2
      have : k ≠ i := fun e' => by subst e'; exact e b
      exact ⟨k, hk, by simpa [Ps.freed, this] using a, by rw [e2 k this]; exact b⟩
  · intro k hk hlk
    by_cases e : k = i
    · subst e; exact e1
    · rw [e2 k e]; exact h.v7 k hk (by simpa [Ps.freed, e] using hlk)
  · intro q
    show (if _ then 221 else S.bt q) < 256
    split
    · omega
    · exact h.v8 q
end Go.Proofs.Ytaaalfimlpeddaa
