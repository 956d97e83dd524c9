/-
  What cutKey answers.
-/
import Derived.Test.YtaeilfpaaogllaaIkEnc
namespace Go.Proofs.Ytaeilfpaaogllaa
open Go.RowKit

/-- The key at the front of sortable bytes, and what is behind its end. -/
def cutL : List Nat → Option (List Nat × List Nat)
  | c :: d :: t =>
    if c ≠ 0 then (cutL (d :: t)).map (fun r => (c :: r.1, r.2))
    else if d = 255 then (cutL t).map (fun r => (0 :: r.1, r.2))
    else if d = 0 then some ([], t) else none
  | _ => none
termination_by l => l.length
theorem cutL_short (l : List Nat) (h : l.length < 2) : cutL l = none := by
  match l, h with
  | [], _ => unfold cutL; rfl
  | [_], _ => unfold cutL; rfl
def onto (ks : List Nat) (o : Option (List Nat × List Nat)) : Option (List Nat × List Nat) := o.map (fun r => (ks ++ r.1, r.2))
theorem onto_nil (o : Option (List Nat × List Nat)) : onto [] o = o := by cases o <;> rfl
theorem onto_cons (ks : List Nat) (c : Nat) (o : Option (List Nat × List Nat)) : onto ks (o.map (fun r => (c :: r.1, r.2))) = onto (ks ++ [c]) o := by cases o <;> simp [onto]
theorem cut_other {c d : Nat} {t : List Nat} (h : c ≠ 0) : cutL (c :: d :: t) = (cutL (d :: t)).map (fun r => (c :: r.1, r.2)) := by
  rw [cutL, if_pos h]
theorem cut_nought {t : List Nat} : cutL (0 :: 255 :: t) = (cutL t).map (fun r => (0 :: r.1, r.2)) := by
  rw [cutL, if_neg (by simp), if_pos rfl]
theorem cut_ended {t : List Nat} : cutL (0 :: 0 :: t) = some ([], t) := by
  rw [cutL, if_neg (by simp), if_neg (by simp), if_pos rfl]
theorem cut_bad {d : Nat} {t : List Nat} (h1 : d ≠ 255) (h2 : d ≠ 0) : cutL (0 :: d :: t) = none := by
  rw [cutL, if_neg (by simp), if_neg h1, if_neg h2]
theorem drop_two {l : List Nat} {p : Nat} (h : p + 2 ≤ l.length) : l.drop p = l[p] :: l[p + 1] :: l.drop (p + 2) := by
  rw [List.drop_eq_getElem_cons (by omega), List.drop_eq_getElem_cons (by omega)]
def lenV : Value → Nat
  | .slice _ n _ => n
  | _ => 0
/-- What is kept round by round. -/
structure CutInv (w wr : World) (n : Nat) (l : List Nat) (key : Value) (a : Option Addr) (r cap : Nat) (ks R : List Nat) : Prop where
  len : R.length = r
  sum : r + ks.length ≤ n
  byt : Byt w a R
  nil : a = none → R = []
  cap : r ≤ cap
  lt : ∀ x ∈ R, x < 256
  own : wr.ownsRow w.heap.size 5 1 key ks.length (u8s ks)
  bel : Below w.heap.size w wr
  cut : onto ks (cutL R) = cutL l
theorem Byt.from {w : World} {a : Option Addr} {l : List Nat} (h : Byt w a l) (cap p : Nat) (hc : l.length ≤ cap) (hp : p ≤ l.length) : Byt w (Ytaeilfpaaogllaa.part a cap p) (l.drop p) := by
  have := h.part cap p l.length hc hp (Nat.le_refl _)
  rwa [List.take_length] at this
/-- What cutKey tells. -/
def CutIs (w : World) (o : Option (List Nat × List Nat)) (e : Ending) (w' : World) : Prop :=
  Below w.heap.size w w' ∧ match o with
  | none => e = .returned (.tuple #[.slice none 0 0, .slice none 0 0, .bool false])
  | some (ks, rest) => ∃ v a cap, e = .returned (.tuple #[v, .slice a rest.length cap, .bool true]) ∧ w'.ownsRow w.heap.size 5 1 v ks.length (u8s ks) ∧ Byt w a rest ∧ (a = none → rest = []) ∧ rest.length ≤ cap
set_option maxRecDepth 100000 in
set_option maxHeartbeats 800000 in
theorem cutKey_any (w : World) (a : Option Addr) (cap n : Nat) (l : List Nat) (hn : l.length = n) (hl : Byt w a l) (hb : ∀ x ∈ l, x < 256) (hnil : a = none → l = []) (hc : n ≤ cap) (hm : n ≤ 140737488351232) :
    Calls Try.prog 27 #[.slice a n cap] w (CutIs w (cutL l)) := by
  have HN := Lib.hid hn
  have HB := Lib.hid hb
  have H0 : Hid (Byt w a l ∧ (a = none → l = [])) := Lib.hid ⟨hl, hnil⟩
  clear hl hb hnil
  go_enter Try.func27, Try.ntmps27
  go_wp2_with fail
  go_loopw [0, 5] (fun b key wr => ∃ (a' : Option Addr) (r cap' : Nat) (ks R : List Nat), b = .slice a' r cap' ∧ Hid (CutInv w wr n l key a' r cap' ks R)) (fun b _ _ => lenV b)
  case atStart => exact ⟨a, n, cap, [], l, rfl, Lib.hid ⟨HN.out, by simp, H0.out.1, H0.out.2, hc, HB.out, World.ownsRow_nil _ _ _ _, Below.refl _ _, onto_nil _⟩⟩
  case round =>
    obtain ⟨a', r, cap', ks, R, rfl, hI⟩ := hrel
    have hrn : r ≤ 140737488351232 := by have := hI.out.sum; omega
    by_cases h2 : 2 ≤ r
    · have hR : ∃ c d t, R = c :: d :: t := by
        have := hI.out.len
        match R, this with
        | c :: d :: t, _ => exact ⟨c, d, t, rfl⟩
        | [], h => simp at h; omega
        | [_], h => simp at h; omega
      obtain ⟨c, d, t, rfl⟩ := hR
      obtain ⟨h1, hs, hby, hni, hcp, hlt, hown, hbel, hcut⟩ := hI.out
      have hsz := hbel.size
      obtain ⟨b0, o0, rfl, hc0⟩ := (hby.keep hbel).at (k := 0) (by simp)
      obtain ⟨b1, o1, e1, hc1⟩ := (hby.keep hbel).at (k := 1) (by simp)
      cases e1
      simp only [List.getElem_cons_zero, List.getElem_cons_succ, Nat.add_zero] at hc0 hc1
      have hcl := hlt c (by simp)
      have hdl := hlt d (by simp)
      have hks : ks.length ≤ 140737488351232 := by omega
      have hr0 : 0 < r := by omega
      have hr1 : 1 < r := by omega
      have hown' := own_keep hown ((Below.refl _ wr).drew)
      by_cases hz : c = 0
      · subst hz
        by_cases hd : d = 255
        · subst hd
          obtain ⟨v5, w5, r5, o5, b5⟩ := app1 w.heap.size w wr.drew _ ks ks.length (0 : Int) 0 rfl hown' hbel.drew (Nat.le_refl _) wr.heap.size rfl hks
          have s1 := fun wx => run_part_from (w := wx) (a := some ⟨b0, o0, none⟩) r cap' 2 2 rfl (by omega) hcp
          have HF : Hid (CutInv w w5 n l v5 (part (some ⟨b0, o0, none⟩) cap' 2) (r - 2) (cap' - 2) (ks ++ [0]) t) := Lib.hid ⟨by simp at h1 ⊢; omega, by simp; omega, by simpa using hby.from cap' 2 (by simp at h1 ⊢; omega) (by simp), (fun h => by have := part_none h; cases this), by omega, (fun x hx => hlt x (List.mem_cons_of_mem _ (List.mem_cons_of_mem _ hx))), by simpa using o5, b5, by rw [← hcut, cut_nought, onto_cons]⟩
          clear hI h1 hs hby hni hcp hlt hown hown' hbel hcut o5 b5
          generalize part (some ⟨b0, o0, none⟩) cap' 2 = pa at *
          go_wp2_with fail
          go_region_law (refine step_app_run rfl rfl r5 (by simp [Act.eval]) (by simp [Act.eval]) ?_)
          all_goals
            simp [Act.put]
            go_wp2
            go_roundw
            case rel => exact ⟨_, _, _, _, _, rfl, HF⟩
            case measure => simp [lenV]; omega
        · by_cases hd0 : d = 0
          · subst hd0
            have s1 := fun wx => run_part_from (w := wx) (a := some ⟨b0, o0, none⟩) r cap' 2 2 rfl (by omega) hcp
            have HF : Hid (onto ks (some ([], t)) = cutL l ∧ Byt w (part (some ⟨b0, o0, none⟩) cap' 2) t ∧ t.length = r - 2 ∧ t.length ≤ cap' - 2 ∧ (part (some ⟨b0, o0, none⟩) cap' 2 = none → t = []) ∧ wr.ownsRow w.heap.size 5 1 u5 ks.length (u8s ks) ∧ Below w.heap.size w wr) := Lib.hid ⟨by rw [← cut_ended (t := t)]; exact hcut, by simpa using hby.from cap' 2 (by simp at h1 ⊢; omega) (by simp), by simp at h1; omega, by simp at h1; omega, (fun h => by have := part_none h; cases this), hown, hbel⟩
            clear hI h1 hs hby hni hcp hlt hown hown' hbel hcut
            generalize part (some ⟨b0, o0, none⟩) cap' 2 = pa at *
            go_wp2_with fail
            go_quiet (fail)
            go_wp2
            go_ret3
            rw [← HF.out.1]
            refine ⟨HF.out.2.2.2.2.2.2.trans (below_drewN _ _ _), ?_⟩
            refine ⟨u5, pa, cap' - 2, by rw [HF.out.2.2.1]; rfl, by simpa using own_keep HF.out.2.2.2.2.2.1 (below_drewN _ _ _), HF.out.2.1, HF.out.2.2.2.2.1, HF.out.2.2.2.1⟩
          · have qd : ((d : Int) == 255) = false := by rw [beq_eq_false_iff_ne]; omega
            have qd0 : ((d : Int) == 0) = false := by rw [beq_eq_false_iff_ne]; omega
            have HF : Hid (onto ks none = cutL l ∧ Below w.heap.size w wr) := Lib.hid ⟨by rw [← cut_bad (t := t) hd hd0]; exact hcut, hbel⟩
            clear hI h1 hs hby hni hcp hlt hown hown' hbel hcut
            go_wp2
            go_ret3
            rw [← HF.out.1]
            exact ⟨HF.out.2, rfl⟩
      · have qz : ((c : Int) != 0) = true := by simp; omega
        obtain ⟨v5, w5, r5, o5, b5⟩ := app1 w.heap.size w wr.drew _ ks ks.length (c : Int) c rfl hown' hbel.drew (Nat.le_refl _) wr.heap.size rfl hks
        have s1 := fun wx => run_part_from (w := wx) (a := some ⟨b0, o0, none⟩) r cap' 1 1 rfl (by omega) hcp
        have HF : Hid (CutInv w w5 n l v5 (part (some ⟨b0, o0, none⟩) cap' 1) (r - 1) (cap' - 1) (ks ++ [c]) (d :: t)) := Lib.hid ⟨by simp at h1 ⊢; omega, by simp; omega, by simpa using hby.from cap' 1 (by simp at h1 ⊢; omega) (by simp), (fun h => by have := part_none h; cases this), by omega, (fun x hx => hlt x (List.mem_cons_of_mem _ hx)), by simpa using o5, b5, by rw [← hcut, cut_other hz, onto_cons]⟩
        clear hI h1 hs hby hni hcp hlt hown hown' hbel hcut o5 b5 hc1
        generalize part (some ⟨b0, o0, none⟩) cap' 1 = pa at *
        go_wp2_with fail
        go_region_law (refine step_app_run rfl rfl r5 (by simp [Act.eval]) (by simp [Act.eval]) ?_)
        all_goals
          simp [Act.put]
          go_wp2
          go_roundw
          case rel => exact ⟨_, _, _, _, _, rfl, HF⟩
          case measure => simp [lenV]; omega
    · have HF : Hid (onto ks none = cutL l ∧ Below w.heap.size w wr) := Lib.hid ⟨by rw [← cutL_short R (by have := hI.out.len; omega)]; exact hI.out.cut, hI.out.bel⟩
      clear hI
      go_wp2
      go_ret3
      rw [← HF.out.1]
      exact ⟨HF.out.2, rfl⟩
end Go.Proofs.Ytaeilfpaaogllaa
