/-
  A new file is written, synced, and renamed over the old one (the law FsRenames): what each step leaves.
-/
import Derived.Test.YtadnecgcoceklaaGreatDoorFsFsZ1
namespace Go.Proofs.YtadnecgcoceklaaGreatDoor
open Go.RowKit Go.Maps

abbrev bCur : Bs := [99, 117, 114, 114, 101, 110, 116]
abbrev bTmp : Bs := [116, 109, 112]
def nCur : ByteArray := ⟨#[99, 117, 114, 114, 101, 110, 116]⟩
def nTmp : ByteArray := ⟨#[116, 109, 112]⟩
/-- Armed with k: names, those that last, what waits. -/
def rs (now last : Dir) (wait : List Ch) (off : Bool) (k : Nat) (fs : List Fil) : A := ⟨1048576, now, last, wait, off, true, k, fs⟩
def r0 (l : List Nat) (q : Nat) (wait : List Ch) (last : Dir) : A := ⟨1048576, [(bCur, 0)], last, wait, false, false, 0, [(l, q)]⟩
theorem r0_new : (A.new 1048576).create bCur = (0, r0 [] 0 [.create bCur 0] []) := rfl
theorem r0_append {l s : List Nat} {q : Nat} {wt : List Ch} {ls : Dir} (h : l.length + s.length ≤ 1048576) : (r0 l q wt ls).append bCur s = (0, r0 (l ++ s) q wt ls) :=
  append_ok rfl h (by show l.length + 0 + s.length ≤ 1048576; omega) rfl rfl
theorem r0_sync (l : List Nat) (q : Nat) (wt : List Ch) (ls : Dir) : (r0 l q wt ls).sync bCur = (0, r0 l l.length wt ls) := rfl
theorem r0_syncDir (l : List Nat) (q : Nat) (wt : List Ch) (ls : Dir) : (r0 l q wt ls).syncDir = (0, r0 l q [] [(bCur, 0)]) := rfl
theorem r0_top (l : List Nat) (q : Nat) (wt : List Ch) (ls : Dir) : (r0 l q wt ls).top = max 1 (ls.length + wt.length) := rfl
theorem r0_arm (l : List Nat) (q : Nat) (k : Nat) : (r0 l q [] [(bCur, 0)]).arm (k : Int) = rs [(bCur, 0)] [(bCur, 0)] [] false k [(l, q)] := by
  unfold A.arm r0 rs
  simp
theorem rs_top (now last : Dir) (wait : List Ch) (off : Bool) (k : Nat) (fs : List Fil) : (rs now last wait off k fs).top = max now.length (last.length + wait.length) := rfl
abbrev c0 : Dir := [(bCur, 0)]
abbrev c01 : Dir := [(bCur, 0), (bTmp, 1)]
abbrev c1 : Dir := [(bCur, 1)]
abbrev w1 : List Ch := [.create bTmp 1]
section
variable (o f : List Nat) (k q : Nat)
theorem create_down : (rs c0 c0 [] false 0 [(o, q)]).create bTmp = (4, rs c0 c0 [] true 0 [(o, q)]) := rfl
theorem create_up : (rs c0 c0 [] false (k + 1) [(o, q)]).create bTmp = (0, rs c01 c0 w1 false k [(o, q), ([], 0)]) := rfl
theorem append_tries {a : A} {s : Bs} {l : List Nat} (h0 : a.findE s = 0) (h1 : (a.file (a.idx s)).1.length + l.length ≤ 1048576) (h2 : a.used + l.length ≤ a.room) :
    a.append s l = a.try fun a => a.setFile (a.idx s) ((a.file (a.idx s)).1 ++ l, (a.file (a.idx s)).2) := by
  unfold A.append
  rw [if_pos h0, if_neg (by omega), if_neg (by omega)]
theorem append_down (h : o.length + f.length ≤ 1048576) : (rs c01 c0 w1 false 0 [(o, q), ([], 0)]).append bTmp f = (4, rs c01 c0 w1 true 0 [(o, q), ([], 0)]) := by
  rw [append_tries rfl (by show 0 + f.length ≤ _; omega) (by show o.length + (0 + 0) + f.length ≤ 1048576; omega)]; rfl
theorem append_up (h : o.length + f.length ≤ 1048576) : (rs c01 c0 w1 false (k + 1) [(o, q), ([], 0)]).append bTmp f = (0, rs c01 c0 w1 false k [(o, q), (f, 0)]) := by
  rw [append_tries rfl (by show 0 + f.length ≤ _; omega) (by show o.length + (0 + 0) + f.length ≤ 1048576; omega)]; rfl
theorem sync_down : (rs c01 c0 w1 false 0 [(o, q), (f, 0)]).sync bTmp = (4, rs c01 c0 w1 true 0 [(o, q), (f, 0)]) := rfl
theorem sync_up : (rs c01 c0 w1 false (k + 1) [(o, q), (f, 0)]).sync bTmp = (0, rs c01 c0 w1 false k [(o, q), (f, f.length)]) := rfl
end
/-- What is read of the name behind a crash. -/
def Sees (a : A) (l : List Nat) : Prop := a.read bCur 0 1048576 = l ∧ a.readE bCur 0 1048576 = 0
theorem sees_of {a : A} {i : Nat} {l : List Nat} (h1 : Dir.look a.now bCur = some i) (h2 : (a.file i).1 = l) (h3 : a.off = false) (h4 : l.length ≤ 1048576) : Sees a l := by
  have hf : a.findE bCur = 0 := findE_ok rfl h1
  have hi : a.idx bCur = i := by unfold A.idx; rw [h1]; rfl
  have h := readE_ok (a := a) (s := bCur) (x := 0) (n := 1048576) hf (by rw [hi, h2]; omega) h3
  refine ⟨?_, h.1⟩
  rw [h.2, hi, h2]
  show (l.drop 0).take 1048576 = l
  rw [List.drop_zero, List.take_of_length_le h4]
theorem crash_eq (a : A) (zs : List Int) : ∃ K, K ≤ a.wait.length ∧ (a.crash zs).now = lastK a K ∧ (a.crash zs).files = cutAll (lastK a K) a.files zs.tail ∧ (a.crash zs).off = false := by
  have h3 := Nat.mod_lt (pk zs) (show 0 < a.wait.length + 1 by omega)
  exact ⟨pk zs % (a.wait.length + 1), by omega, rfl, rfl, rfl⟩
section
variable (o f : List Nat) (off : Bool) (k q : Nat) (zs : List Int)
theorem cut_c0 (fs : List Fil) : cutAll c0 ((o, o.length) :: fs) zs = (o, o.length) :: fs := by
  unfold cutAll
  show (if o.length < o.length then _ else _) = _
  rw [if_neg (Nat.lt_irrefl _)]; rfl
theorem cut_c01 (g : Fil) : ∃ g', cutAll c01 [(o, o.length), g] zs = [(o, o.length), g'] := by
  unfold cutAll
  show ∃ g', (if o.length < o.length then _ else _) = _
  rw [if_neg (Nat.lt_irrefl _)]
  unfold cutAll
  show ∃ g', (if g.2 < g.1.length then _ else _) = _
  split
  · exact ⟨_, rfl⟩
  · exact ⟨_, rfl⟩
theorem cut_c1 (g : Fil) : cutAll c1 [g, (f, f.length)] zs = [g, (f, f.length)] := by
  unfold cutAll
  show (if f.length < f.length then _ else _) = _
  rw [if_neg (Nat.lt_irrefl _)]; rfl
theorem sees_0 (ho : o.length ≤ 1048576) : Sees ((rs c0 c0 [] off k [(o, o.length)]).crash zs) o := by
  obtain ⟨K, hK, e1, e2, e3⟩ := crash_eq (rs c0 c0 [] off k [(o, o.length)]) zs
  obtain rfl : K = 0 := by simpa [rs] using hK
  have e4 : lastK (rs c0 c0 [] off k [(o, o.length)]) 0 = c0 := rfl
  rw [e4] at e1 e2
  refine sees_of (i := 0) (by rw [e1]; rfl) ?_ e3 ho
  unfold A.file
  rw [e2]
  show ((cutAll c0 [(o, o.length)] zs.tail).getD 0 ([], 0)).1 = o
  rw [cut_c0]; rfl
theorem sees_1 (g : Fil) (ho : o.length ≤ 1048576) : Sees ((rs c01 c0 w1 off k [(o, o.length), g]).crash zs) o := by
  obtain ⟨K, hK, e1, e2, e3⟩ := crash_eq (rs c01 c0 w1 off k [(o, o.length), g]) zs
  have hK2 : K ≤ 1 := hK
  rcases (show K = 0 ∨ K = 1 by omega) with rfl | rfl
  · have e4 : lastK (rs c01 c0 w1 off k [(o, o.length), g]) 0 = c0 := rfl
    rw [e4] at e1 e2
    refine sees_of (i := 0) (by rw [e1]; rfl) ?_ e3 ho
    unfold A.file
    rw [e2]
    show ((cutAll c0 [(o, o.length), g] zs.tail).getD 0 ([], 0)).1 = o
    rw [cut_c0]; rfl
  · have e4 : lastK (rs c01 c0 w1 off k [(o, o.length), g]) 1 = c01 := rfl
    rw [e4] at e1 e2
    refine sees_of (i := 0) (by rw [e1]; rfl) ?_ e3 ho
    unfold A.file
    rw [e2]
    show ((cutAll c01 [(o, o.length), g] zs.tail).getD 0 ([], 0)).1 = o
    obtain ⟨g', hg⟩ := cut_c01 o zs.tail g
    rw [hg]; rfl
theorem sees_3 (hf : f.length ≤ 1048576) : Sees ((rs c1 c1 [] off k [(o, o.length), (f, f.length)]).crash zs) f ∧ ((rs c1 c1 [] off k [(o, o.length), (f, f.length)]).crash zs).sizeE bTmp = 7 := by
  obtain ⟨K, hK, e1, e2, e3⟩ := crash_eq (rs c1 c1 [] off k [(o, o.length), (f, f.length)]) zs
  obtain rfl : K = 0 := by simpa [rs] using hK
  have e4 : lastK (rs c1 c1 [] off k [(o, o.length), (f, f.length)]) 0 = c1 := rfl
  rw [e4] at e1 e2
  refine ⟨sees_of (i := 1) (by rw [e1]; rfl) ?_ e3 hf, ?_⟩
  · unfold A.file
    rw [e2]
    show ((cutAll c1 [(o, o.length), (f, f.length)] zs.tail).getD 1 ([], 0)).1 = f
    rw [cut_c1]; rfl
  · unfold A.sizeE A.findE
    rw [e1]; rfl
end
end Go.Proofs.YtadnecgcoceklaaGreatDoor

