/-
  Armed with n (the law FsArms): the calls, counted.
-/
import Derived.Test.YtaadfoelaeliiaaFsZ2
namespace Go.Proofs.Ytaadfoelaeliiaa
open Go.RowKit Go.Maps

/-- Behind i calls of a directory that was armed with n; one file, 'a'. -/
structure Armd (a : A) (i n : Nat) : Prop where
  room : a.room = 1048576
  now : a.now = [([97], 0)]
  file : ∃ l q, a.files = [(l, q)] ∧ l.length ≤ i
  armed : a.armed = true
  off : a.off = decide (n < i)
  left : a.left = n - i
  top : a.top ≤ 1
section
variable {a : A} {i n : Nat}
theorem Armd.spent (h : Armd a i n) : a.spendE = (if i < n then 0 else 4) ∧ Armd a.spent (i + 1) n ∧ a.spent.files = a.files := by
  obtain ⟨l, q, hf, hl⟩ := h.file
  have hb := spent_eq a
  have key : a.spendE = (if i < n then 0 else 4) ∧ a.spent.off = decide (n < i + 1) ∧ a.spent.left = n - (i + 1) := by
    unfold A.spendE A.spent
    rw [h.off, h.armed]
    by_cases h1 : n < i
    · rw [decide_eq_true h1, if_neg (show ¬ i < n by omega)]
      simp only [if_true]
      refine ⟨trivial, by rw [h.off]; simp; omega, by rw [h.left]; omega⟩
    · rw [decide_eq_false h1]
      simp only [Bool.false_eq_true, if_false]
      by_cases h2 : a.left = 0
      · have : i = n := by have := h.left; omega
        subst this
        rw [if_pos h2, if_pos h2]
        refine ⟨by simp, by simp, ?_⟩
        show a.left = _
        omega
      · have hlt : i < n := by have := h.left; omega
        rw [if_neg h2, if_neg h2]
        refine ⟨by simp [hlt], ?_, ?_⟩
        · show false = _
          simp; omega
        · show a.left - 1 = _
          have := h.left; omega
  refine ⟨key.1, ⟨hb.1.trans h.room, hb.2.1.trans h.now, ⟨l, q, hb.2.2.2.2.1.trans hf, by omega⟩, hb.2.2.2.2.2.trans h.armed, key.2.1, key.2.2, by rw [spent_top]; exact h.top⟩, hb.2.2.2.2.1⟩
theorem Armd.try (h : Armd a i n) {k : A → A} (hk : ∀ b, Armd b (i + 1) n → b.files = a.files → Armd (k b) (i + 1) n) : ∃ a', a.try k = ((if i < n then 0 else 4), a') ∧ Armd a' (i + 1) n := by
  obtain ⟨h1, h2, h3⟩ := h.spent
  unfold A.try
  rw [h1]
  by_cases hlt : i < n
  · rw [if_pos hlt]
    exact ⟨_, rfl, hk _ h2 h3⟩
  · rw [if_neg hlt]
    exact ⟨_, rfl, h2⟩
theorem Armd.find (h : Armd a i n) : a.findE [97] = 0 ∧ a.idx [97] = 0 := by
  unfold A.findE A.idx; rw [h.now]; exact ⟨rfl, rfl⟩
theorem Armd.app (h : Armd a i n) (hi : i ≤ 100) : ∃ a', a.append [97] [120] = ((if i < n then 0 else 4), a') ∧ Armd a' (i + 1) n := by
  obtain ⟨l, q, hf, hl⟩ := h.file
  have h0 := h.find
  have hfi : a.file 0 = (l, q) := by unfold A.file; rw [hf]; rfl
  have hu : a.used = l.length := by
    unfold A.used; rw [h.now]
    show (a.file 0).1.length + 0 = _
    rw [hfi]; rfl
  rw [append_tries h0.1 (by rw [h0.2, hfi]; show l.length + 1 ≤ _; omega) (by rw [hu, h.room]; show l.length + 1 ≤ _; omega)]
  refine h.try (fun b hb hbf => ?_)
  have hbi : b.idx [97] = 0 := hb.find.2
  have hbfi : b.file 0 = (l, q) := by unfold A.file; rw [hbf, hf]; rfl
  rw [hbi, hbfi]
  refine ⟨hb.room, hb.now, ⟨l ++ [120], q, ?_, by simp; omega⟩, hb.armed, hb.off, hb.left, hb.top⟩
  show b.files.set 0 _ = _
  rw [hbf, hf]; rfl
theorem Armd.sync (h : Armd a i n) : ∃ a', a.sync [97] = ((if i < n then 0 else 4), a') ∧ Armd a' (i + 1) n := by
  obtain ⟨l, q, hf, hl⟩ := h.file
  rw [sync_try h.find.1]
  refine h.try (fun b hb hbf => ?_)
  have hbi : b.idx [97] = 0 := hb.find.2
  have hbfi : b.file 0 = (l, q) := by unfold A.file; rw [hbf, hf]; rfl
  rw [hbi, hbfi]
  refine ⟨hb.room, hb.now, ⟨l, l.length, ?_, by omega⟩, hb.armed, hb.off, hb.left, hb.top⟩
  show b.files.set 0 _ = _
  rw [hbf, hf]; rfl
theorem Armd.syncDir (h : Armd a i n) : ∃ a', a.syncDir = ((if i < n then 0 else 4), a') ∧ Armd a' (i + 1) n := by
  unfold A.syncDir
  refine h.try (fun b hb hbf => ?_)
  refine ⟨hb.room, hb.now, hb.file, hb.armed, hb.off, hb.left, ?_⟩
  unfold A.top
  show max b.now.length (b.now.length + 0) ≤ 1
  rw [hb.now]; decide
theorem Armd.sizeE (h : Armd a i n) : a.sizeE [97] = if n < i then 4 else 0 := by
  unfold A.sizeE
  rw [if_pos h.find.1, h.off]
  by_cases h1 : n < i
  · simp [h1]
  · simp [h1]
theorem crash_syncDir (a : A) (zs : List Int) : ∃ a', (a.crash zs).syncDir = (0, a') := ⟨_, on_try (a := a.crash zs) rfl rfl _⟩
end
theorem armd_new (n : Nat) : Armd ((one [] 0 [.create [97] 0] []).arm (n : Int)) 0 n :=
  ⟨rfl, rfl, ⟨[], 0, rfl, Nat.le_refl _⟩, by show decide (0 ≤ (n : Int)) = true; simp, by simp [A.arm, one], by show (n : Int).toNat = _; simp, by show 1 ≤ 1; omega⟩
end Go.Proofs.Ytaadfoelaeliiaa
