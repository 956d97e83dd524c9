/-
  Two files, 'a' and 'b': how many bytes they have (the law FsRoom).
-/
import Derived.Test.YtadnecgcoceklaaGreatDoorFsFsY1
namespace Go.Proofs.YtadnecgcoceklaaGreatDoor
open Go.RowKit Go.Maps

theorem on_spent {a : A} (h3 : a.off = false) (h4 : a.armed = false) : a.spendE = 0 ∧ a.spent = a := by
  constructor
  · unfold A.spendE; rw [h3, h4]; rfl
  · unfold A.spent; rw [h3, h4]; rfl
theorem on_try {a : A} (h3 : a.off = false) (h4 : a.armed = false) (k : A → A) : a.try k = (0, k a) := by
  obtain ⟨h1, h2⟩ := on_spent h3 h4
  unfold A.try; rw [if_pos h1, h2]
structure Two (a : A) (R x y i j : Nat) : Prop where
  room : a.room = R
  off : a.off = false
  armed : a.armed = false
  now : a.now = [([97], i), ([98], j)]
  ne : i ≠ j
  li : i < a.files.length
  lj : j < a.files.length
  fi : (a.file i).1.length = x
  fj : (a.file j).1.length = y
section
variable {a : A} {R x y i j : Nat}
theorem Two.used (h : Two a R x y i j) : a.used = x + y := by
  unfold A.used; rw [h.now]
  show (a.file i).1.length + ((a.file j).1.length + 0) = _
  rw [h.fi, h.fj]; rfl
theorem Two.findA (h : Two a R x y i j) : a.findE [97] = 0 ∧ a.idx [97] = i := by
  unfold A.findE A.idx; rw [h.now]; exact ⟨rfl, rfl⟩
theorem Two.findB (h : Two a R x y i j) : a.findE [98] = 0 ∧ a.idx [98] = j := by
  unfold A.findE A.idx; rw [h.now]; exact ⟨rfl, rfl⟩
theorem file_set_eq {a : A} {i : Nat} {f : Fil} (h : i < a.files.length) : (a.setFile i f).file i = f := getD_set_eq h
theorem file_set_ne {a : A} {i k : Nat} {f : Fil} (h : i ≠ k) : (a.setFile i f).file k = a.file k := getD_set_ne h
theorem Two.appA (h : Two a R x y i j) {l : List Nat} {n : Nat} (hl : l.length = n) (hR : x + y + n ≤ R) (hR2 : R ≤ 3000) : ∃ a', a.append [97] l = (0, a') ∧ Two a' R (x + n) y i j ∧ a'.top = a.top := by
  obtain ⟨h1, h2⟩ := h.findA
  have hu := h.used
  refine ⟨_, append_ok h1 (by rw [h2, h.fi]; omega) (by rw [hu, h.room]; omega) h.off h.armed, ?_, rfl⟩
  rw [h2]
  refine ⟨h.room, h.off, h.armed, h.now, h.ne, by simp [A.setFile]; exact h.li, by simp [A.setFile]; exact h.lj, ?_, ?_⟩
  · rw [file_set_eq h.li]; dsimp only; rw [List.length_append, h.fi, hl]
  · rw [file_set_ne h.ne]; exact h.fj
theorem Two.appB (h : Two a R x y i j) {l : List Nat} {n : Nat} (hl : l.length = n) (hR : x + y + n ≤ R) (hR2 : R ≤ 3000) : ∃ a', a.append [98] l = (0, a') ∧ Two a' R x (y + n) i j ∧ a'.top = a.top := by
  obtain ⟨h1, h2⟩ := h.findB
  have hu := h.used
  refine ⟨_, append_ok h1 (by rw [h2, h.fj]; omega) (by rw [hu, h.room]; omega) h.off h.armed, ?_, rfl⟩
  rw [h2]
  refine ⟨h.room, h.off, h.armed, h.now, h.ne, by simp [A.setFile]; exact h.li, by simp [A.setFile]; exact h.lj, ?_, ?_⟩
  · rw [file_set_ne (fun e => h.ne e.symm)]; exact h.fi
  · rw [file_set_eq h.lj]; dsimp only; rw [List.length_append, h.fj, hl]
theorem append_full {a : A} {s : Bs} {l : List Nat} (h0 : a.findE s = 0) (h1 : (a.file (a.idx s)).1.length + l.length ≤ 1048576) (h2 : a.room < a.used + l.length) : a.append s l = (5, a) := by
  unfold A.append
  rw [if_pos h0, if_neg (by omega), if_pos h2]
theorem Two.noA (h : Two a R x y i j) {l : List Nat} {n : Nat} (hl : l.length = n) (hR : R < x + y + n) (hx : x + n ≤ 1048576) : a.append [97] l = (5, a) := by
  obtain ⟨h1, h2⟩ := h.findA
  exact append_full h1 (by rw [h2, h.fi]; omega) (by rw [h.used, h.room]; omega)
theorem Two.noB (h : Two a R x y i j) {l : List Nat} {n : Nat} (hl : l.length = n) (hR : R < x + y + n) (hx : y + n ≤ 1048576) : a.append [98] l = (5, a) := by
  obtain ⟨h1, h2⟩ := h.findB
  exact append_full h1 (by rw [h2, h.fj]; omega) (by rw [h.used, h.room]; omega)
/-- Behind the removal of 'a'. -/
theorem Two.rem (h : Two a R x y i j) (hR : R ≤ 3000) (hy : y ≤ R) : ∃ a1, a.remove [97] = (0, a1) ∧ a1.used = y ∧ a1.top ≤ a.top + 1 ∧ ∀ l : List Nat, l.length = R - y → ∃ a2, a1.append [98] l = (0, a2) ∧ a2.top = a1.top ∧ (a2.append [98] [1]).1 = 5 := by
  obtain ⟨h1, h2⟩ := h.findA
  have e1 : a.remove [97] = (0, a.do (.remove [97])) := by
    unfold A.remove
    rw [if_pos h1, on_try h.off h.armed]
  have hn1 : (a.do (.remove [97])).now = [([98], j)] := by
    show Dir.del a.now [97] = _
    rw [h.now]; rfl
  generalize hb : a.do (.remove [97]) = b at *
  have hfb : b.files = a.files ∧ b.off = false ∧ b.armed = false ∧ b.room = R := by rw [← hb]; exact ⟨rfl, h.off, h.armed, h.room⟩
  have htb : b.top ≤ a.top + 1 := by rw [← hb]; exact do_top _ _
  have hfj : (b.file j).1.length = y := by unfold A.file; rw [hfb.1]; exact h.fj
  have hlj : j < b.files.length := by rw [hfb.1]; exact h.lj
  have hu : b.used = y := by
    unfold A.used; rw [hn1]
    show (b.file j).1.length + 0 = _
    rw [hfj]; rfl
  have hfi : b.findE [98] = 0 ∧ b.idx [98] = j := by unfold A.findE A.idx; rw [hn1]; exact ⟨rfl, rfl⟩
  refine ⟨b, e1, hu, htb, fun l hl => ⟨_, append_ok hfi.1 (by rw [hfi.2, hfj]; omega) (by rw [hu, hfb.2.2.2]; omega) hfb.2.1 hfb.2.2.1, rfl, ?_⟩⟩
  rw [hfi.2]
  have hE : (b.setFile j ((b.file j).1 ++ l, (b.file j).2)).findE [98] = 0 ∧ (b.setFile j ((b.file j).1 ++ l, (b.file j).2)).idx [98] = j := hfi
  have hf2 : ((b.setFile j ((b.file j).1 ++ l, (b.file j).2)).file j).1.length = R := by
    rw [file_set_eq hlj]; dsimp only; rw [List.length_append, hfj, hl]; omega
  rw [append_full hE.1 (by rw [hE.2, hf2]; simp; omega) ?_]
  show b.room < ((b.now.map fun p => ((b.setFile j ((b.file j).1 ++ l, (b.file j).2)).file p.2).1.length).sum) + 1
  rw [hn1]
  show b.room < (((b.setFile j ((b.file j).1 ++ l, (b.file j).2)).file j).1.length + 0) + 1
  rw [hf2, hfb.2.2.2]; omega
end
theorem two_new (R : Nat) : ∃ a1 a2, (A.new R).create [97] = (0, a1) ∧ a1.create [98] = (0, a2) ∧ Two a2 R 0 0 0 1 ∧ a1.top = 1 ∧ a2.top = 2 :=
  ⟨_, _, rfl, rfl, ⟨rfl, rfl, rfl, rfl, by decide, (show 0 < 2 by decide), (show 1 < 2 by decide), rfl, rfl⟩, rfl, rfl⟩
end Go.Proofs.YtadnecgcoceklaaGreatDoor

