/-
  What Frame answers.
-/
import Derived.Test.YtadnecgcoceklaaGreatDoorFrFrW3
import Derived.Deep.RegionHeld3
namespace Go.Proofs.YtadnecgcoceklaaGreatDoor.FR
open Go.RowKit

theorem own_zeros {w : World} {B n : Nat} (hB : B ≤ w.heap.size) (hn : n ≤ 1000) :
    (w.alloc (.cells (madeCells #[.int .u8 0] n) 5)).ownsRow B 5 1 (.slice (some ⟨w.heap.size, 0, none⟩) n n) n (u8s (List.replicate n 0)) := by
  refine ⟨by simp [u8s], .inr ⟨w.heap.size, n, _, rfl, hB, heap_alloc_new w _, Nat.le_refl _, by unfold maxLen; omega, by rw [size_madeCells]; omega, ?_⟩⟩
  apply List.ext_getElem?
  intro i
  by_cases hi : i < n
  · rw [List.getElem?_take, if_pos (by omega), Array.getElem?_toList, Array.getElem?_eq_getElem (by rw [size_madeCells]; exact hi)]
    simp [u8s, hi, madeCells, Nat.mod_one]
  · rw [List.getElem?_take, if_neg (by omega)]
    simp [u8s, hi]
theorem below_alloc {B : Nat} {w : World} (hB : B ≤ w.heap.size) (o : Obj) : Below B w (w.alloc o) := (Below.refl _ _).alloc hB _
def lenV : Value → Nat
  | .slice _ n _ => n
  | _ => 0
def newV : Value → Nat
  | .bool false => 1
  | _ => 0
theorem own_len {w : World} {B n : Nat} {v : Value} {l : List Nat} (h : w.ownsRow B 5 1 v n (u8s l)) : l.length = n := by
  have := h.1; simp [u8s] at this; omega
/-- A record's bytes, new, behind OK. -/
def FrameV (w : World) (L : List Nat) (e : Ending) (w' : World) : Prop := ∃ v, e = .returned (.tuple #[v, .int .i64 0]) ∧ w'.ownsRow w.heap.size 5 1 v L.length (u8s L) ∧ Below w.heap.size w w'
set_option maxRecDepth 100000 in
set_option maxHeartbeats 2000000 in
theorem Frame_any (w : World) (n : Nat) (hn : n ≤ 9223372036854775807) (a : Option Addr) (cap : Nat) (rec : List Nat) (hr : Byt w a rec) (hb : ∀ x ∈ rec, x < 256) (hc : rec.length ≤ cap) (hnil : a = none → rec = [] ∧ cap = 0) (hl : rec.length ≤ 100000000) :
    Calls Tryz.prog 47 #[.int .i64 (n : Int), .slice a rec.length cap] w (FrameV w (Frm.frameL n rec)) := by
  have HG := Lib.hid (fun wx => gap_any n hn wx)
  have HR := Lib.hid (fun wx => Room_any n hn wx)
  have hg6 := gap_le n
  have hrm0 := Frm.room_le n
  have HL := Lib.hid (Frm.frameL_len n rec)
  have kmk : ∀ wx : World, (Instr.makeSlice 47 (.int .i64 (Frm.gap n : Int)) (.int .i64 (Frm.gap n : Int))).run Tryz.prog wx = .ok (.slice (some ⟨wx.heap.size, 0, none⟩) (Frm.gap n) (Frm.gap n)) (wx.alloc (.cells (madeCells #[.int .u8 0] (Frm.gap n)) 5)) :=
    fun wx => run_make_row' (P := Tryz.prog) 47 5 (.int .u8 0) 1 Tryz.underlying47 Tryz.info5 rfl .i64 .i64 (Frm.gap n) (by omega) (by omega) wx
  have HO0 := Lib.hid (own_zeros (w := w) (B := w.heap.size) (n := Frm.gap n) (Nat.le_refl _) (by omega))
  have HB0 := Lib.hid (below_alloc (B := w.heap.size) (w := w) (Nat.le_refl _) (.cells (madeCells #[.int .u8 0] (Frm.gap n)) 5))
  have HF : Hid (Frm.frameL n rec = List.replicate (Frm.gap n) 0 ++ Frm.bodyL (Frm.room n) rec) := Lib.hid rfl
  obtain ⟨F, hF⟩ : ∃ F, Frm.frameL n rec = F := ⟨_, rfl⟩
  rw [hF] at HF HL ⊢
  have HRC := Lib.hid hr.low
  have HBY := Lib.hid hb
  have HNIL := Lib.hid hnil
  generalize Frm.gap n = g at *
  generalize Frm.room n = rm0 at *
  clear hr hb hF hnil
  go_enter Tryz.func47, Tryz.ntmps47
  go_wp2_with fail
  refine (HG.out _).mono ?_
  rintro e w' ⟨rfl, rfl⟩
  go_wp2_with fail
  refine (HR.out _).mono ?_
  rintro e w' ⟨rfl, rfl⟩
  generalize w.alloc (.cells (madeCells #[.int .u8 0] g) 5) = w1 at *
  go_wp2_with fail
  go_loopw [1, 6, 7, 8] (fun u1 u6 u7 u8 wr => ∃ (a' : Option Addr) (cap' : Nat) (r : List Nat) (m : Nat) (ys : List Nat) (bg : Bool) (rm : Nat), u1 = .slice a' r.length cap' ∧ u7 = .bool bg ∧ u8 = .int .i64 (rm : Int) ∧ rm ≤ 121 ∧ r.length ≤ cap' ∧ r.length ≤ rec.length ∧ (bg = true → rm = 121) ∧ wr.ownsRow w.heap.size 5 1 u6 m (u8s ys) ∧ Below w.heap.size w wr ∧ BytB w.heap.size w a' r ∧ (a' = none → r = [] ∧ cap' = 0) ∧ (∀ x ∈ r, x < 256) ∧ ys ++ (if bg = true then Frm.tailP r else Frm.bodyL rm r) = F) (fun u1 _ u7 _ _ => 2 * lenV u1 + newV u7)
  case atStart => exact ⟨a, cap, rec, g, List.replicate g 0, false, rm0, rfl, rfl, rfl, hrm0, hc, Nat.le_refl _, (fun h => by cases h), HO0.out, HB0.out, HRC.out, HNIL.out, HBY.out, by rw [HF.out]; rfl⟩
  case round =>
    obtain ⟨a', cap', r, m, ys, bg, rm, rfl, rfl, rfl, hrm, hrc, hrl, hbg, hown, hbel, hrB, hrn, hrb, hEq⟩ := hrel
    have hws := hbel.size
    have HEQ := Lib.hid hEq
    have HBEL := Lib.hid hbel
    have HRB := Lib.hid hrB
    have HRBY := Lib.hid hrb
    have HOWN := Lib.hid hown
    have HRN := Lib.hid hrn
    have HBG := Lib.hid hbg
    have hml : ys.length = m := own_len hown
    have hmF : m ≤ F.length := by rw [← hEq, List.length_append]; omega
    have hm2 : m ≤ 2 * rec.length + 28 := Nat.le_trans hmF HL.out
    clear HO0 HB0 kmk HG HR HF HRC HBY HNIL hbg hown hbel hrB hrn hrb hEq
    by_cases hgt : rm < r.length
    · have hs1 : ∀ wx : World, (Instr.slice 47 (.slice a' r.length cap') none (some (.int .i64 (rm : Int))) none).run Tryz.prog wx = .ok (.slice (part a' cap' 0) rm cap') wx := fun wx => run_part_to (w := wx) r.length cap' rm (by omega)
      have hs2 : ∀ wx : World, (Instr.slice 47 (.slice a' r.length cap') (some (.int .i64 (rm : Int))) none none).run Tryz.prog wx = .ok (.slice (part a' cap' rm) (r.length - rm) (cap' - rm)) wx := fun wx => run_part_from (w := wx) r.length cap' rm (rm : Int) rfl (by omega) (by omega)
      have hpl : (r.take rm).length = rm := by rw [List.length_take]; omega
      have ha : a' ≠ none := fun e => by have := (HRN.out e).1; rw [this] at hgt; simp at hgt
      have hap := addPiece_any w.heap.size (wr.drewN 1) hws _ m ys (own_keep HOWN.out (below_drewN _ _ _)) (Frm.kindN bg false) (by cases bg <;> decide) (part a' cap' 0) cap' (r.take rm)
        (((HRB.out.keep HBEL.out).keep (below_drewN _ _ _)).part cap' 0 rm hrc (by omega) (by omega) |>.sub (by simp)) (fun e => absurd e (part_some ha)) (fun x hx => HRBY.out x (List.mem_of_mem_take hx)) (by omega) (by omega)
      rw [hpl] at hap
      have HAP := Lib.hid hap
      clear hap
      obtain ⟨ap, hap⟩ : ∃ ap, part a' cap' 0 = ap := ⟨_, rfl⟩
      obtain ⟨ar, har⟩ : ∃ ar, part a' cap' rm = ar := ⟨_, rfl⟩
      have harn : ar ≠ none := by rw [← har]; exact part_some ha
      have harB : BytB w.heap.size w ar (r.drop rm) := by
        rw [← har]; exact (HRB.out.part cap' rm r.length hrc (by omega) (Nat.le_refl _)).sub (by rw [List.take_length])
      rw [hap] at HAP hs1
      rw [har] at hs2
      have HE2 : Hid (ys ++ Frm.pieceL (Frm.kindN bg false) (r.take rm) ++ Frm.tailP (r.drop rm) = F) := Lib.hid (by
        rw [← HEQ.out, List.append_assoc]
        cases bg with
        | false => rw [if_neg (by simp)]; unfold Frm.bodyL; rw [if_pos hgt]; rfl
        | true =>
          obtain rfl : rm = 121 := HBG.out rfl
          rw [if_pos rfl]; exact congrArg (ys ++ ·) (Frm.tailP_more (by omega)).symm)
      have HAR := Lib.hid harB
      have HARN := Lib.hid harn
      have hdl : (r.drop rm).length = r.length - rm := by rw [List.length_drop]
      have HDL := Lib.hid hdl
      have HDB : Hid (∀ x ∈ r.drop rm, x < 256) := Lib.hid (fun x hx => HRBY.out x (List.mem_of_mem_drop hx))
      clear harB harn hap har hpl hdl HEQ HOWN ha
      go_wp2_with fail
      refine wp_region_held_drew (S := fun _ => True) (by kernel_rfl) trivial (fun hHeld => ?_)
      refine wpAnyH_take (i := 0) (v := ?_) rfl (by kernel_rfl) (by kernel_rfl) (by kernel_rfl) (fun _ _ _ h => h) (Or.inl ⟨by rfl, ?_⟩) hHeld ?_
      rotate_left
      · (intro wx hSw; (try dsimp only at hSw); first | (go_simp; done) | (go_simp; with_reducible rfl))
      simp only [Act.put, List.getElem_toArray, List.getElem_cons_zero, List.setIfInBounds_toArray, List.set_cons_zero, List.set_cons_succ]
      refine wpAnyH_take (i := 1) (v := ?_) rfl (by kernel_rfl) (by kernel_rfl) (by kernel_rfl) (fun _ _ _ h => h) (Or.inl ⟨by rfl, ?_⟩) hHeld ?_
      rotate_left
      · (intro wx hSw; (try dsimp only at hSw); first | (go_simp; done) | (go_simp; with_reducible rfl))
      simp only [Act.put, List.getElem_toArray, List.getElem_cons_zero, List.getElem_cons_succ, List.setIfInBounds_toArray, List.set_cons_zero, List.set_cons_succ]
      refine wpAnyH_take (i := 3) (v := ?_) rfl (by kernel_rfl) (by kernel_rfl) (by kernel_rfl) (fun _ _ _ h => h) (Or.inl ⟨by rfl, ?_⟩) hHeld ?_
      rotate_left
      · (intro wx hSw; (try dsimp only at hSw); first | (go_simp; done) | (go_simp; with_reducible rfl))
      simp only [Act.put, List.getElem_toArray, List.getElem_cons_zero, List.getElem_cons_succ, List.setIfInBounds_toArray, List.set_cons_zero, List.set_cons_succ]
      refine wpAnyH_take (i := 4) (v := ?_) rfl (by kernel_rfl) (by kernel_rfl) (by kernel_rfl) (fun _ _ _ h => h) (Or.inl ⟨by rfl, ?_⟩) hHeld ?_
      rotate_left
      · (intro wx hSw; (try dsimp only at hSw); first | (go_simp; done) | (go_simp; with_reducible rfl))
      simp only [Act.put, List.getElem_toArray, List.getElem_cons_zero, List.getElem_cons_succ, List.setIfInBounds_toArray, List.set_cons_zero, List.set_cons_succ]
      refine wpAnyH_take (i := 5) (v := ?_) rfl (by kernel_rfl) (by kernel_rfl) (by kernel_rfl) (fun _ _ _ h => h) (Or.inl ⟨by rfl, ?_⟩) hHeld ?_
      rotate_left
      · (intro wx hSw; (try dsimp only at hSw); first | (go_simp; done) | (go_simp; with_reducible rfl))
      simp only [Act.put, List.getElem_toArray, List.getElem_cons_zero, List.getElem_cons_succ, List.setIfInBounds_toArray, List.set_cons_zero, List.set_cons_succ]
      refine wpAnyH_ready (rs := [2]) (by kernel_rfl) (by simp) ?_
      refine AllReadyH.cons rfl (fun K hK => ?_) AllReadyH.nil
      go_simp
      refine (kindOf_any _ _ _).mono ?_
      rintro e X1 ⟨rfl, rfl⟩
      try go_wp2_with fail
      refine hK.out _ _ trivial (fun hHeld => ?_)
      clear hK K
      try simp only [Act.put, List.setIfInBounds_toArray, List.set_cons_zero, List.set_cons_succ]
      refine wpAnyH_ready (rs := [6]) (by kernel_rfl) (by simp) ?_
      refine AllReadyH.cons rfl (fun K hK => ?_) AllReadyH.nil
      go_simp
      refine HAP.out.mono ?_
      rintro e X2 ⟨v2, rfl, ho2, hb2⟩
      have HO2 := Lib.hid ho2
      have HB2 := Lib.hid hb2
      clear ho2 hb2 HAP
      try go_wp2_with fail
      refine hK.out _ _ trivial (fun hHeld => ?_)
      clear hK K
      try simp only [Act.put, List.setIfInBounds_toArray, List.set_cons_zero, List.set_cons_succ]
      refine wpAnyH_take (i := 7) (v := ?_) rfl (by kernel_rfl) (by kernel_rfl) (by kernel_rfl) (fun _ _ _ h => h) (Or.inl ⟨by rfl, ?_⟩) hHeld ?_
      rotate_left
      · (intro wx hSw; (try dsimp only at hSw); first | (go_simp; done) | (go_simp; with_reducible rfl))
      simp only [Act.put, List.getElem_toArray, List.getElem_cons_zero, List.getElem_cons_succ, List.setIfInBounds_toArray, List.set_cons_zero, List.set_cons_succ]
      refine wpAnyH_done (by kernel_rfl) ?_ _
      have HR0 := Lib.hid (Room_any 0 (by omega) X2)
      rw [show Frm.room 0 = 121 from rfl] at HR0
      go_wp2_with fail
      refine (HR0.out).mono ?_
      rintro e w' ⟨rfl, rfl⟩
      go_wp2
      go_roundw
      case rel => exact ⟨ar, cap' - rm, r.drop rm, _, _, true, 121, by rw [HDL.out], rfl, rfl, Nat.le_refl _, by rw [HDL.out]; omega, by rw [HDL.out]; omega, (fun _ => rfl), HO2.out, (HBEL.out.trans (below_drewN _ _ _)).trans HB2.out, HAR.out, (fun e => absurd e HARN.out), HDB.out, HE2.out⟩
      case measure =>
        cases bg with
        | false => (try simp only [lenV, newV]); omega
        | true => have := HBG.out rfl; (try simp only [lenV, newV]); omega
    · have HK := Lib.hid (kindOf_any bg true wr)
      have hap := addPiece_any w.heap.size wr hws _ m ys HOWN.out (Frm.kindN bg true) (by cases bg <;> decide) a' cap' r (HRB.out.keep HBEL.out) HRN.out HRBY.out (by omega) (by omega)
      have HAP := Lib.hid hap
      have HE2 : Hid (ys ++ Frm.pieceL (Frm.kindN bg true) r = F) := Lib.hid (by
        rw [← HEQ.out]
        cases bg with
        | false => rw [if_neg (by simp)]; unfold Frm.bodyL; rw [if_neg hgt]; rfl
        | true => rw [if_pos rfl, Frm.tailP_last (by have := HBG.out rfl; omega)]; rfl)
      have HFL : Hid (F.length = m + (7 + r.length)) := Lib.hid (by rw [← HE2.out, List.length_append, Frm.pieceL_length, hml])
      clear hap HEQ HOWN
      go_wp2_with fail
      refine (HK.out).mono ?_
      rintro e w' ⟨rfl, rfl⟩
      go_wp2_with fail
      refine HAP.out.mono ?_
      rintro e X2 ⟨v2, rfl, ho2, hb2⟩
      have HO2 := Lib.hid ho2
      have HB2 := Lib.hid hb2
      clear ho2 hb2 HAP
      go_wp2
      go_ret2
      exact ⟨v2, rfl, by rw [HFL.out, ← HE2.out]; exact HO2.out, HBEL.out.trans HB2.out⟩
set_option maxRecDepth 100000 in
theorem Frame_neg (w : World) (z : Int) (hz : z < 0) (v : Value) : Calls Tryz.prog 47 #[.int .i64 z, v] w fun e w' => e = .returned (.tuple #[.slice none 0 0, .int .i64 1]) ∧ w = w' := by
  go_enter Tryz.func47, Tryz.ntmps47
  go_wp2
  go_ret2
  exact ⟨rfl, rfl⟩
end Go.Proofs.YtadnecgcoceklaaGreatDoor.FR
