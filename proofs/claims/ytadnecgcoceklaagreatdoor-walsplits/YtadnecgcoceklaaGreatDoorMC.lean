/-
  Texts laid together: FsFsZ1 FsFsZ2 FsFsZ6.
-/
import Derived.Test.YtadnecgcoceklaaGreatDoorMD
/-
  Two files, 'a' and 'b': how many bytes they have (the law FsRoom).
-/
namespace Go.Proofs.YtadnecgcoceklaaGreatDoor
open Go.RowKit Go.Maps

theorem on_spent {a : A} (h3 : a.off = false) (h4 : a.armed = false) : a.spendE = 0 ∧ a.spent = a := by
  constructor
  · unfold A.spendE; rw [h3, h4]; rfl
  · unfold A.spent; rw [h3, h4]; rfl
theorem on_try {a : A} (h3 : a.off = false) (h4 : a.armed = false) (k : A → A) : a.try k = (0, k a) := by
  obtain ⟨h1, h2⟩ := on_spent h3 h4
  unfold A.try; rw [if_pos h1, h2]
structure Two (a : A) (R x y i j : Nat) : Prop where
  room : a.room = R
  off : a.off = false
  armed : a.armed = false
  now : a.now = [([97], i), ([98], j)]
  ne : i ≠ j
  li : i < a.files.length
  lj : j < a.files.length
  fi : (a.file i).1.length = x
  fj : (a.file j).1.length = y
section
variable {a : A} {R x y i j : Nat}
theorem Two.used (h : Two a R x y i j) : a.used = x + y := by
  unfold A.used; rw [h.now]
  show (a.file i).1.length + ((a.file j).1.length + 0) = _
  rw [h.fi, h.fj]; rfl
theorem Two.findA (h : Two a R x y i j) : a.findE [97] = 0 ∧ a.idx [97] = i := by
  unfold A.findE A.idx; rw [h.now]; exact ⟨rfl, rfl⟩
theorem Two.findB (h : Two a R x y i j) : a.findE [98] = 0 ∧ a.idx [98] = j := by
  unfold A.findE A.idx; rw [h.now]; exact ⟨rfl, rfl⟩
theorem file_set_eq {a : A} {i : Nat} {f : Fil} (h : i < a.files.length) : (a.setFile i f).file i = f := getD_set_eq h
theorem file_set_ne {a : A} {i k : Nat} {f : Fil} (h : i ≠ k) : (a.setFile i f).file k = a.file k := getD_set_ne h
theorem Two.appA (h : Two a R x y i j) {l : List Nat} {n : Nat} (hl : l.length = n) (hR : x + y + n ≤ R) (hR2 : R ≤ 3000) : ∃ a', a.append [97] l = (0, a') ∧ Two a' R (x + n) y i j ∧ a'.top = a.top := by
  obtain ⟨h1, h2⟩ := h.findA
  have hu := h.used
  refine ⟨_, append_ok h1 (by rw [h2, h.fi]; omega) (by rw [hu, h.room]; omega) h.off h.armed, ?_, rfl⟩
  rw [h2]
  refine ⟨h.room, h.off, h.armed, h.now, h.ne, by simp [A.setFile]; exact h.li, by simp [A.setFile]; exact h.lj, ?_, ?_⟩
  · rw [file_set_eq h.li]; dsimp only; rw [List.length_append, h.fi, hl]
  · rw [file_set_ne h.ne]; exact h.fj
theorem Two.appB (h : Two a R x y i j) {l : List Nat} {n : Nat} (hl : l.length = n) (hR : x + y + n ≤ R) (hR2 : R ≤ 3000) : ∃ a', a.append [98] l = (0, a') ∧ Two a' R x (y + n) i j ∧ a'.top = a.top := by
  obtain ⟨h1, h2⟩ := h.findB
  have hu := h.used
  refine ⟨_, append_ok h1 (by rw [h2, h.fj]; omega) (by rw [hu, h.room]; omega) h.off h.armed, ?_, rfl⟩
  rw [h2]
  refine ⟨h.room, h.off, h.armed, h.now, h.ne, by simp [A.setFile]; exact h.li, by simp [A.setFile]; exact h.lj, ?_, ?_⟩
  · rw [file_set_ne (fun e => h.ne e.symm)]; exact h.fi
  · rw [file_set_eq h.lj]; dsimp only; rw [List.length_append, h.fj, hl]
theorem append_full {a : A} {s : Bs} {l : List Nat} (h0 : a.findE s = 0) (h1 : (a.file (a.idx s)).1.length + l.length ≤ 1048576) (h2 : a.room < a.used + l.length) : a.append s l = (5, a) := by
  unfold A.append
  rw [if_pos h0, if_neg (by omega), if_pos h2]
theorem Two.noA (h : Two a R x y i j) {l : List Nat} {n : Nat} (hl : l.length = n) (hR : R < x + y + n) (hx : x + n ≤ 1048576) : a.append [97] l = (5, a) := by
  obtain ⟨h1, h2⟩ := h.findA
  exact append_full h1 (by rw [h2, h.fi]; omega) (by rw [h.used, h.room]; omega)
theorem Two.noB (h : Two a R x y i j) {l : List Nat} {n : Nat} (hl : l.length = n) (hR : R < x + y + n) (hx : y + n ≤ 1048576) : a.append [98] l = (5, a) := by
  obtain ⟨h1, h2⟩ := h.findB
  exact append_full h1 (by rw [h2, h.fj]; omega) (by rw [h.used, h.room]; omega)
/-- Behind the removal of 'a'. -/
theorem Two.rem (h : Two a R x y i j) (hR : R ≤ 3000) (hy : y ≤ R) : ∃ a1, a.remove [97] = (0, a1) ∧ a1.used = y ∧ a1.top ≤ a.top + 1 ∧ ∀ l : List Nat, l.length = R - y → ∃ a2, a1.append [98] l = (0, a2) ∧ a2.top = a1.top ∧ (a2.append [98] [1]).1 = 5 := by
  obtain ⟨h1, h2⟩ := h.findA
  have e1 : a.remove [97] = (0, a.do (.remove [97])) := by
    unfold A.remove
    rw [if_pos h1, on_try h.off h.armed]
  have hn1 : (a.do (.remove [97])).now = [([98], j)] := by
    show Dir.del a.now [97] = _
    rw [h.now]; rfl
  generalize hb : a.do (.remove [97]) = b at *
  have hfb : b.files = a.files ∧ b.off = false ∧ b.armed = false ∧ b.room = R := by rw [← hb]; exact ⟨rfl, h.off, h.armed, h.room⟩
  have htb : b.top ≤ a.top + 1 := by rw [← hb]; exact do_top _ _
  have hfj : (b.file j).1.length = y := by unfold A.file; rw [hfb.1]; exact h.fj
  have hlj : j < b.files.length := by rw [hfb.1]; exact h.lj
  have hu : b.used = y := by
    unfold A.used; rw [hn1]
    show (b.file j).1.length + 0 = _
    rw [hfj]; rfl
  have hfi : b.findE [98] = 0 ∧ b.idx [98] = j := by unfold A.findE A.idx; rw [hn1]; exact ⟨rfl, rfl⟩
  refine ⟨b, e1, hu, htb, fun l hl => ⟨_, append_ok hfi.1 (by rw [hfi.2, hfj]; omega) (by rw [hu, hfb.2.2.2]; omega) hfb.2.1 hfb.2.2.1, rfl, ?_⟩⟩
  rw [hfi.2]
  have hE : (b.setFile j ((b.file j).1 ++ l, (b.file j).2)).findE [98] = 0 ∧ (b.setFile j ((b.file j).1 ++ l, (b.file j).2)).idx [98] = j := hfi
  have hf2 : ((b.setFile j ((b.file j).1 ++ l, (b.file j).2)).file j).1.length = R := by
    rw [file_set_eq hlj]; dsimp only; rw [List.length_append, hfj, hl]; omega
  rw [append_full hE.1 (by rw [hE.2, hf2]; simp; omega) ?_]
  show b.room < ((b.now.map fun p => ((b.setFile j ((b.file j).1 ++ l, (b.file j).2)).file p.2).1.length).sum) + 1
  rw [hn1]
  show b.room < (((b.setFile j ((b.file j).1 ++ l, (b.file j).2)).file j).1.length + 0) + 1
  rw [hf2, hfb.2.2.2]; omega
end
theorem two_new (R : Nat) : ∃ a1 a2, (A.new R).create [97] = (0, a1) ∧ a1.create [98] = (0, a2) ∧ Two a2 R 0 0 0 1 ∧ a1.top = 1 ∧ a2.top = 2 :=
  ⟨_, _, rfl, rfl, ⟨rfl, rfl, rfl, rfl, by decide, (show 0 < 2 by decide), (show 1 < 2 by decide), rfl, rfl⟩, rfl, rfl⟩
end Go.Proofs.YtadnecgcoceklaaGreatDoor

/-
  A new file is written, synced, and renamed over the old one (the law FsRenames): what each step leaves.
-/
namespace Go.Proofs.YtadnecgcoceklaaGreatDoor
open Go.RowKit Go.Maps

abbrev bCur : Bs := [99, 117, 114, 114, 101, 110, 116]
abbrev bTmp : Bs := [116, 109, 112]
def nCur : ByteArray := ⟨#[99, 117, 114, 114, 101, 110, 116]⟩
def nTmp : ByteArray := ⟨#[116, 109, 112]⟩
/-- Armed with k: names, those that last, what waits. -/
def rs (now last : Dir) (wait : List Ch) (off : Bool) (k : Nat) (fs : List Fil) : A := ⟨1048576, now, last, wait, off, true, k, fs⟩
def r0 (l : List Nat) (q : Nat) (wait : List Ch) (last : Dir) : A := ⟨1048576, [(bCur, 0)], last, wait, false, false, 0, [(l, q)]⟩
theorem r0_new : (A.new 1048576).create bCur = (0, r0 [] 0 [.create bCur 0] []) := rfl
theorem r0_append {l s : List Nat} {q : Nat} {wt : List Ch} {ls : Dir} (h : l.length + s.length ≤ 1048576) : (r0 l q wt ls).append bCur s = (0, r0 (l ++ s) q wt ls) :=
  append_ok rfl h (by show l.length + 0 + s.length ≤ 1048576; omega) rfl rfl
theorem r0_sync (l : List Nat) (q : Nat) (wt : List Ch) (ls : Dir) : (r0 l q wt ls).sync bCur = (0, r0 l l.length wt ls) := rfl
theorem r0_syncDir (l : List Nat) (q : Nat) (wt : List Ch) (ls : Dir) : (r0 l q wt ls).syncDir = (0, r0 l q [] [(bCur, 0)]) := rfl
theorem r0_top (l : List Nat) (q : Nat) (wt : List Ch) (ls : Dir) : (r0 l q wt ls).top = max 1 (ls.length + wt.length) := rfl
theorem r0_arm (l : List Nat) (q : Nat) (k : Nat) : (r0 l q [] [(bCur, 0)]).arm (k : Int) = rs [(bCur, 0)] [(bCur, 0)] [] false k [(l, q)] := by
  unfold A.arm r0 rs
  simp
theorem rs_top (now last : Dir) (wait : List Ch) (off : Bool) (k : Nat) (fs : List Fil) : (rs now last wait off k fs).top = max now.length (last.length + wait.length) := rfl
abbrev c0 : Dir := [(bCur, 0)]
abbrev c01 : Dir := [(bCur, 0), (bTmp, 1)]
abbrev c1 : Dir := [(bCur, 1)]
abbrev w1 : List Ch := [.create bTmp 1]
section
variable (o f : List Nat) (k q : Nat)
theorem create_down : (rs c0 c0 [] false 0 [(o, q)]).create bTmp = (4, rs c0 c0 [] true 0 [(o, q)]) := rfl
theorem create_up : (rs c0 c0 [] false (k + 1) [(o, q)]).create bTmp = (0, rs c01 c0 w1 false k [(o, q), ([], 0)]) := rfl
theorem append_tries {a : A} {s : Bs} {l : List Nat} (h0 : a.findE s = 0) (h1 : (a.file (a.idx s)).1.length + l.length ≤ 1048576) (h2 : a.used + l.length ≤ a.room) :
    a.append s l = a.try fun a => a.setFile (a.idx s) ((a.file (a.idx s)).1 ++ l, (a.file (a.idx s)).2) := by
  unfold A.append
  rw [if_pos h0, if_neg (by omega), if_neg (by omega)]
theorem append_down (h : o.length + f.length ≤ 1048576) : (rs c01 c0 w1 false 0 [(o, q), ([], 0)]).append bTmp f = (4, rs c01 c0 w1 true 0 [(o, q), ([], 0)]) := by
  rw [append_tries rfl (by show 0 + f.length ≤ _; omega) (by show o.length + (0 + 0) + f.length ≤ 1048576; omega)]; rfl
theorem append_up (h : o.length + f.length ≤ 1048576) : (rs c01 c0 w1 false (k + 1) [(o, q), ([], 0)]).append bTmp f = (0, rs c01 c0 w1 false k [(o, q), (f, 0)]) := by
  rw [append_tries rfl (by show 0 + f.length ≤ _; omega) (by show o.length + (0 + 0) + f.length ≤ 1048576; omega)]; rfl
theorem sync_down : (rs c01 c0 w1 false 0 [(o, q), (f, 0)]).sync bTmp = (4, rs c01 c0 w1 true 0 [(o, q), (f, 0)]) := rfl
theorem sync_up : (rs c01 c0 w1 false (k + 1) [(o, q), (f, 0)]).sync bTmp = (0, rs c01 c0 w1 false k [(o, q), (f, f.length)]) := rfl
end
/-- What is read of the name behind a crash. -/
def Sees (a : A) (l : List Nat) : Prop := a.read bCur 0 1048576 = l ∧ a.readE bCur 0 1048576 = 0
theorem sees_of {a : A} {i : Nat} {l : List Nat} (h1 : Dir.look a.now bCur = some i) (h2 : (a.file i).1 = l) (h3 : a.off = false) (h4 : l.length ≤ 1048576) : Sees a l := by
  have hf : a.findE bCur = 0 := findE_ok rfl h1
  have hi : a.idx bCur = i := by unfold A.idx; rw [h1]; rfl
  have h := readE_ok (a := a) (s := bCur) (x := 0) (n := 1048576) hf (by rw [hi, h2]; omega) h3
  refine ⟨?_, h.1⟩
  rw [h.2, hi, h2]
  show (l.drop 0).take 1048576 = l
  rw [List.drop_zero, List.take_of_length_le h4]
theorem crash_eq (a : A) (zs : List Int) : ∃ K, K ≤ a.wait.length ∧ (a.crash zs).now = lastK a K ∧ (a.crash zs).files = cutAll (lastK a K) a.files zs.tail ∧ (a.crash zs).off = false := by
  have h3 := Nat.mod_lt (pk zs) (show 0 < a.wait.length + 1 by omega)
  exact ⟨pk zs % (a.wait.length + 1), by omega, rfl, rfl, rfl⟩
section
variable (o f : List Nat) (off : Bool) (k q : Nat) (zs : List Int)
theorem cut_c0 (fs : List Fil) : cutAll c0 ((o, o.length) :: fs) zs = (o, o.length) :: fs := by
  unfold cutAll
  show (if o.length < o.length then _ else _) = _
  rw [if_neg (Nat.lt_irrefl _)]; rfl
theorem cut_c01 (g : Fil) : ∃ g', cutAll c01 [(o, o.length), g] zs = [(o, o.length), g'] := by
  unfold cutAll
  show ∃ g', (if o.length < o.length then _ else _) = _
  rw [if_neg (Nat.lt_irrefl _)]
  unfold cutAll
  show ∃ g', (if g.2 < g.1.length then _ else _) = _
  split
  · exact ⟨_, rfl⟩
  · exact ⟨_, rfl⟩
theorem cut_c1 (g : Fil) : cutAll c1 [g, (f, f.length)] zs = [g, (f, f.length)] := by
  unfold cutAll
  show (if f.length < f.length then _ else _) = _
  rw [if_neg (Nat.lt_irrefl _)]; rfl
theorem sees_0 (ho : o.length ≤ 1048576) : Sees ((rs c0 c0 [] off k [(o, o.length)]).crash zs) o := by
  obtain ⟨K, hK, e1, e2, e3⟩ := crash_eq (rs c0 c0 [] off k [(o, o.length)]) zs
  obtain rfl : K = 0 := by simpa [rs] using hK
  have e4 : lastK (rs c0 c0 [] off k [(o, o.length)]) 0 = c0 := rfl
  rw [e4] at e1 e2
  refine sees_of (i := 0) (by rw [e1]; rfl) ?_ e3 ho
  unfold A.file
  rw [e2]
  show ((cutAll c0 [(o, o.length)] zs.tail).getD 0 ([], 0)).1 = o
  rw [cut_c0]; rfl
theorem sees_1 (g : Fil) (ho : o.length ≤ 1048576) : Sees ((rs c01 c0 w1 off k [(o, o.length), g]).crash zs) o := by
  obtain ⟨K, hK, e1, e2, e3⟩ := crash_eq (rs c01 c0 w1 off k [(o, o.length), g]) zs
  have hK2 : K ≤ 1 := hK
  rcases (show K = 0 ∨ K = 1 by omega) with rfl | rfl
  · have e4 : lastK (rs c01 c0 w1 off k [(o, o.length), g]) 0 = c0 := rfl
    rw [e4] at e1 e2
    refine sees_of (i := 0) (by rw [e1]; rfl) ?_ e3 ho
    unfold A.file
    rw [e2]
    show ((cutAll c0 [(o, o.length), g] zs.tail).getD 0 ([], 0)).1 = o
    rw [cut_c0]; rfl
  · have e4 : lastK (rs c01 c0 w1 off k [(o, o.length), g]) 1 = c01 := rfl
    rw [e4] at e1 e2
    refine sees_of (i := 0) (by rw [e1]; rfl) ?_ e3 ho
    unfold A.file
    rw [e2]
    show ((cutAll c01 [(o, o.length), g] zs.tail).getD 0 ([], 0)).1 = o
    obtain ⟨g', hg⟩ := cut_c01 o zs.tail g
    rw [hg]; rfl
theorem sees_3 (hf : f.length ≤ 1048576) : Sees ((rs c1 c1 [] off k [(o, o.length), (f, f.length)]).crash zs) f ∧ ((rs c1 c1 [] off k [(o, o.length), (f, f.length)]).crash zs).sizeE bTmp = 7 := by
  obtain ⟨K, hK, e1, e2, e3⟩ := crash_eq (rs c1 c1 [] off k [(o, o.length), (f, f.length)]) zs
  obtain rfl : K = 0 := by simpa [rs] using hK
  have e4 : lastK (rs c1 c1 [] off k [(o, o.length), (f, f.length)]) 0 = c1 := rfl
  rw [e4] at e1 e2
  refine ⟨sees_of (i := 1) (by rw [e1]; rfl) ?_ e3 hf, ?_⟩
  · unfold A.file
    rw [e2]
    show ((cutAll c1 [(o, o.length), (f, f.length)] zs.tail).getD 1 ([], 0)).1 = f
    rw [cut_c1]; rfl
  · unfold A.sizeE A.findE
    rw [e1]; rfl
end
end Go.Proofs.YtadnecgcoceklaaGreatDoor

/-
  Files that were synced, and whose names were (the law FsKeeps): what stays, whatever is done beside.
-/
namespace Go.Proofs.YtadnecgcoceklaaGreatDoor
open Go.RowKit Go.Maps

theorem look_del_ne {d : Dir} {k k' : Bs} (h : k ≠ k') : Dir.look (Dir.del d k) k' = Dir.look d k' := by
  unfold Dir.look Dir.del
  congr 1
  induction d with
  | nil => rfl
  | cons y r ih =>
    rw [List.filter_cons]
    by_cases hy : y.1 = k
    · have h1 : (!(y.1 == k)) = false := by simp [hy]
      have h2 : (y.1 == k') = false := by rw [beq_eq_false_iff_ne, hy]; exact h
      rw [h1, List.find?_cons, h2]; simpa using ih
    · have h1 : (!(y.1 == k)) = true := by simp [hy]
      rw [h1]
      simp only [if_true, List.find?_cons]
      split
      · rfl
      · exact ih
theorem look_ins_ne {d : Dir} {k k' : Bs} {i : Nat} (h : k ≠ k') : Dir.look (Dir.ins (k, i) d) k' = Dir.look d k' := by
  unfold Dir.look
  congr 1
  have h0 : (k == k') = false := by rw [beq_eq_false_iff_ne]; exact h
  induction d with
  | nil => simp [Dir.ins, h0]
  | cons y r ih =>
    unfold Dir.ins
    split
    · rw [List.find?_cons]; simp only [h0]
    · rw [List.find?_cons, List.find?_cons]
      split
      · rfl
      · exact ih
theorem look_put_ne {d : Dir} {k k' : Bs} {i : Nat} (h : k ≠ k') : Dir.look (Dir.put d k i) k' = Dir.look d k' := by
  unfold Dir.put; rw [look_ins_ne h, look_del_ne h]
/-- A change that leaves a name alone. -/
def Ch.off (c : Ch) (s : Bs) : Prop :=
  match c with
  | .create n _ => n ≠ s
  | .remove n => n ≠ s
theorem Ch.look_off {c : Ch} {d : Dir} {s : Bs} (h : c.off s) : Dir.look (c.on d) s = Dir.look d s := by
  cases c with
  | create n i => exact look_put_ne h
  | remove n => exact look_del_ne h
/-- The first bytes of a file last. -/
def Safe (f : Fil) (s : List Nat) : Prop := s.length ≤ f.2 ∧ f.2 ≤ f.1.length ∧ f.1.take s.length = s
theorem Safe.cut {f : Fil} {s : List Nat} (h : Safe f s) (p : Nat) : Safe (cutF f p) s := by
  obtain ⟨h1, h2, h3⟩ := h
  have hm : p % (f.1.length - f.2 + 1) ≤ f.1.length - f.2 := by have := Nat.mod_lt p (show 0 < f.1.length - f.2 + 1 by omega); omega
  have hl : (f.1.take (f.2 + p % (f.1.length - f.2 + 1))).length = f.2 + p % (f.1.length - f.2 + 1) := by rw [List.length_take]; omega
  have hp : (f.1.take (f.2 + p % (f.1.length - f.2 + 1))).take s.length = s := by rw [List.take_take, Nat.min_eq_left (by omega)]; exact h3
  unfold cutF Safe
  dsimp only
  split
  · refine ⟨by omega, by rw [List.length_set, hl]; exact Nat.le_refl _, ?_⟩
    rw [List.take_set_of_le (by omega)]; exact hp
  · exact ⟨by omega, by rw [hl]; exact Nat.le_refl _, hp⟩
theorem Safe.app {f : Fil} {s : List Nat} (h : Safe f s) (l : List Nat) : Safe (f.1 ++ l, f.2) s := by
  obtain ⟨h1, h2, h3⟩ := h
  refine ⟨h1, by dsimp only; rw [List.length_append]; omega, ?_⟩
  dsimp only
  rw [List.take_append_of_le_length (by omega)]; exact h3
theorem Safe.sync {f : Fil} {s : List Nat} (h : Safe f s) : Safe (f.1, f.1.length) s := ⟨by have := h.1; have := h.2.1; dsimp only; omega, Nat.le_refl _, h.2.2⟩
theorem safe_cutAll {n : Nat} {sure : Nat → List Nat} : ∀ (d : Dir) (fs : List Fil) (zs : List Int), (∀ k, k < n → Safe (fs.getD k ([], 0)) (sure k)) → ∀ k, k < n → Safe ((cutAll d fs zs).getD k ([], 0)) (sure k)
  | [], _, _, h => h
  | p :: d, fs, zs, h => by
    unfold cutAll
    split
    · rename_i hlt
      refine safe_cutAll d _ _ (fun k hk => ?_)
      have hp : p.2 < fs.length := by
        rcases Nat.lt_or_ge p.2 fs.length with h | h
        · exact h
        · rw [List.getD_eq_getElem?_getD, List.getElem?_eq_none h] at hlt; simp at hlt
      by_cases e : p.2 = k
      · subst e; rw [getD_set_eq hp]; exact (h _ hk).cut _
      · rw [getD_set_ne e]; exact h k hk
    · exact safe_cutAll d fs zs h
/-- The n first names and files stay. -/
structure KInv (kp : Nat → Bs) (a : A) (n : Nat) (sure : Nat → List Nat) : Prop where
  now : ∀ k, k < n → Dir.look a.now (kp k) = some k
  last : ∀ k, k < n → Dir.look a.last (kp k) = some k
  wait : ∀ c ∈ a.wait, ∀ k, k < n → c.off (kp k)
  file : ∀ k, k < n → Safe (a.file k) (sure k)
  len : n ≤ a.files.length
section
variable {kp : Nat → Bs} {a : A} {n : Nat} {sure : Nat → List Nat}
theorem KInv.same (h : KInv kp a n sure) {b : A} (e1 : b.now = a.now) (e2 : b.last = a.last) (e3 : b.wait = a.wait) (e4 : b.files = a.files) : KInv kp b n sure :=
  ⟨by rw [e1]; exact h.now, by rw [e2]; exact h.last, by rw [e3]; exact h.wait, fun k hk => by unfold A.file; rw [e4]; exact h.file k hk, by rw [e4]; exact h.len⟩
theorem KInv.spent (h : KInv kp a n sure) : KInv kp a.spent n sure := by
  obtain ⟨_, e2, e3, e4, e5, _⟩ := spent_eq a
  exact h.same e2 e3 e4 e5
theorem KInv.try (h : KInv kp a n sure) {k : A → A} (hk : ∀ b, KInv kp b n sure → KInv kp (k b) n sure) : KInv kp (a.try k).2 n sure := by
  unfold A.try
  split
  · exact hk _ h.spent
  · exact h.spent
theorem KInv.do (h : KInv kp a n sure) {c : Ch} (hc : ∀ k, k < n → c.off (kp k)) : KInv kp (a.do c) n sure :=
  ⟨fun k hk => by show Dir.look (c.on a.now) (kp k) = _; rw [Ch.look_off (hc k hk)]; exact h.now k hk, h.last, fun c' hc' k hk => by
    rcases List.mem_append.1 hc' with h1 | h1
    · exact h.wait c' h1 k hk
    · simp at h1; subst h1; exact hc k hk, h.file, h.len⟩
theorem KInv.newFile (h : KInv kp a n sure) : KInv kp ({ a with files := a.files ++ [([], 0)] } : A) n sure :=
  ⟨h.now, h.last, h.wait, fun k hk => by
    have hl : k < a.files.length := by have := h.len; omega
    show Safe ((a.files ++ [([], 0)]).getD k ([], 0)) _
    rw [List.getD_eq_getElem?_getD, List.getElem?_append_left hl, ← List.getD_eq_getElem?_getD]; exact h.file k hk, by show n ≤ (a.files ++ [([], 0)]).length; rw [List.length_append]; have := h.len; omega⟩
theorem KInv.create (h : KInv kp a n sure) {s : Bs} (hs : ∀ k, k < n → s ≠ kp k) : KInv kp (a.create s).2 n sure := by
  unfold A.create
  split
  · exact h
  · split
    · exact h
    · split
      · exact h
      · exact h.try fun b hb => hb.newFile.do fun k hk => hs k hk
theorem KInv.remove (h : KInv kp a n sure) {s : Bs} (hs : ∀ k, k < n → s ≠ kp k) : KInv kp (a.remove s).2 n sure := by
  unfold A.remove
  split
  · exact h.try fun b hb => hb.do fun k hk => hs k hk
  · exact h
theorem KInv.syncDir (h : KInv kp a n sure) : KInv kp a.syncDir.2 n sure := by
  unfold A.syncDir
  exact h.try fun b hb => ⟨hb.now, hb.now, (fun c hc => by cases hc), hb.file, hb.len⟩
theorem KInv.arm (h : KInv kp a n sure) (z : Int) : KInv kp (a.arm z) n sure := ⟨h.now, h.last, h.wait, h.file, h.len⟩
theorem KInv.setFile (h : KInv kp a n sure) {k : Nat} (hk : k < n) {f : Fil} {s' : List Nat} (hf : Safe f s') : KInv kp (a.setFile k f) n (upd sure k s') := by
  have hl : k < a.files.length := by have := h.len; omega
  refine ⟨h.now, h.last, h.wait, fun j hj => ?_, by show n ≤ (a.files.set k f).length; rw [List.length_set]; exact h.len⟩
  by_cases e : j = k
  · subst e; rw [file_set_eq hl]; unfold upd; rw [if_pos rfl]; exact hf
  · rw [file_set_ne (fun e' => e e'.symm)]; unfold upd; rw [if_neg e]; exact h.file j hj
theorem upd_self (sure : Nat → List Nat) (k : Nat) : upd sure k (sure k) = sure := by funext j; unfold upd; split <;> simp_all
theorem KInv.find (h : KInv kp a n sure) (hn : ∀ k, k < n → isNm (kp k) = true) {k : Nat} (hk : k < n) : a.findE (kp k) = 0 ∧ a.idx (kp k) = k :=
  ⟨findE_ok (hn k hk) (h.now k hk), by unfold A.idx; rw [h.now k hk]; rfl⟩
theorem KInv.append (h : KInv kp a n sure) (hn : ∀ k, k < n → isNm (kp k) = true) {k : Nat} (hk : k < n) (l : List Nat) : KInv kp (a.append (kp k) l).2 n sure := by
  unfold A.append
  split
  · split
    · exact h
    · split
      · exact h
      · refine h.try fun b hb => ?_
        have hi := (hb.find hn hk).2
        rw [hi]
        have := hb.setFile hk ((hb.file k hk).app l)
        rw [upd_self] at this; exact this
  · exact h
theorem KInv.crash (h : KInv kp a n sure) (zs : List Int) : KInv kp (a.crash zs) n sure := by
  obtain ⟨K, hK, e1, e2, e3⟩ := crash_eq a zs
  have hlast : (a.crash zs).last = (a.crash zs).now := rfl
  have hlk : ∀ K, ∀ k, k < n → Dir.look (lastK a K) (kp k) = some k := by
    intro K
    induction K with
    | zero => intro k hk; exact h.last k hk
    | succ K ih =>
      intro k hk
      cases e : a.wait[K]? with
      | none =>
        have : lastK a (K + 1) = lastK a K := by unfold lastK; rw [List.take_add_one, e]; simp
        rw [this]; exact ih k hk
      | some c => rw [lastK_succ e, Ch.look_off (h.wait c (List.mem_of_getElem? e) k hk)]; exact ih k hk
  refine ⟨fun k hk => by rw [e1]; exact hlk K k hk, fun k hk => by rw [hlast, e1]; exact hlk K k hk, (fun c hc => by cases hc), fun k hk => ?_, ?_⟩
  · unfold A.file
    rw [e2]
    exact safe_cutAll _ _ _ h.file k hk
  · rw [e2]
    have key : ∀ (d : Dir) (fs : List Fil) (zs : List Int), (cutAll d fs zs).length = fs.length := by
      intro d
      induction d with
      | nil => intro fs zs; rfl
      | cons p d ih =>
        intro fs zs
        unfold cutAll
        split
        · rw [ih, List.length_set]
        · exact ih fs zs
    rw [key]; exact h.len
/-- Sync of a kept file: it answers OK, and then all its bytes are read and last; or nothing is turned. -/
theorem KInv.sync (h : KInv kp a n sure) (hn : ∀ k, k < n → isNm (kp k) = true) {k : Nat} (hk : k < n) (ho : a.Ok) :
    ((a.sync (kp k)).1 = 0 ∧ ∃ l, (a.sync (kp k)).2.readE (kp k) 0 1048576 = 0 ∧ (a.sync (kp k)).2.read (kp k) 0 1048576 = l ∧ KInv kp (a.sync (kp k)).2 n (upd sure k l)) ∨
    ((a.sync (kp k)).1 = 4 ∧ KInv kp (a.sync (kp k)).2 n sure) := by
  have hf := h.find hn hk
  rw [sync_try hf.1]
  unfold A.try
  rcases spendE_cases a with h0 | h4
  · left
    rw [if_pos h0]
    have hsp := h.spent
    have hi := (hsp.find hn hk).2
    have hoff : a.spent.off = false := by
      unfold A.spendE at h0
      unfold A.spent
      split at h0
      · simp at h0
      · rename_i h1
        rw [if_neg h1]
        split at h0
        · rename_i h2; rw [if_pos h2]; simpa using h1
        · rename_i h2
          rw [if_neg h2]
          split at h0
          · simp at h0
          · rename_i h3; rw [if_neg h3]; simpa using h1
    refine ⟨rfl, (a.spent.file k).1, ?_, ?_, ?_⟩
    all_goals dsimp only
    all_goals rw [hi]
    · have hfs := hsp.setFile hk ((hsp.file k hk).sync)
      have h1 := (hfs.find hn hk)
      exact (readE_ok h1.1 (by omega) hoff).1
    · have hl : k < a.spent.files.length := by have := hsp.len; omega
      have hfs := hsp.setFile hk ((hsp.file k hk).sync)
      have h1 := (hfs.find hn hk)
      rw [(readE_ok h1.1 (by omega) hoff).2, h1.2, file_set_eq hl]
      show ((a.spent.file k).1.drop 0).take 1048576 = _
      rw [List.drop_zero, List.take_of_length_le (ho.spent.file k).1]
    · exact hsp.setFile hk ⟨Nat.le_refl _, Nat.le_refl _, List.take_length⟩
  · right
    rw [if_neg (by rw [h4]; decide)]
    exact ⟨h4, h.spent⟩
/-- What is read of a kept file while the power is on. -/
theorem KInv.read (h : KInv kp a n sure) (hn : ∀ k, k < n → isNm (kp k) = true) {k : Nat} (hk : k < n) (ho : a.off = false) :
    a.readE (kp k) 0 ((sure k).length : Int) = 0 ∧ a.read (kp k) 0 ((sure k).length : Int) = sure k := by
  have hf := h.find hn hk
  have hr := readE_ok (a := a) (s := kp k) (x := 0) (n := ((sure k).length : Int)) hf.1 (by omega) ho
  refine ⟨hr.1, ?_⟩
  rw [hr.2, hf.2]
  show ((a.file k).1.drop 0).take (((sure k).length : Int)).toNat = _
  rw [List.drop_zero, Int.toNat_natCast]
  exact (h.file k hk).2.2
end
end Go.Proofs.YtadnecgcoceklaaGreatDoor

