/-
  goOn, New and Number, walked.
-/
import Derived.Test.YtadnecgcoceklaaGreatDoorWalW2
import Derived.Test.YtadnecgcoceklaaGreatDoorMC
import Derived.IntWalk
namespace Go.Proofs.YtadnecgcoceklaaGreatDoor
open Go.RowKit Go.Maps

theorem size_bound {a : A} (h : a.Ok) (s : Bs) : a.size s ≤ 1048576 := by
  unfold A.size
  split
  · unfold A.file
    rw [List.getD_eq_getElem?_getD]
    cases e : a.files[a.idx s]? with
    | none => exact Nat.zero_le _
    | some f => exact (h.fil f (List.mem_of_getElem? e)).1
  · omega
section
variable {G : Nat → Prop} {w w' : World} {lb pb num lim : Nat} {a a' : A}
theorem Lx.setNum (h : Lx G w lb pb num lim a) (n : Nat) : Lx G (w.setCell ⟨lb, 1, none⟩ (.int .i64 (n : Int))) lb pb n lim a ∧ Stay G w (w.setCell ⟨lb, 1, none⟩ (.int .i64 (n : Int))) := by
  have ht : Touch lb w (w.setCell ⟨lb, 1, none⟩ (.int .i64 (n : Int))) := Touch.setCell (a := ⟨lb, 1, none⟩) _
  have hS : Stay G w (w.setCell ⟨lb, 1, none⟩ (.int .i64 (n : Int))) := ⟨ht.os, ht.tape, ht.output, by rw [ht.size]; exact Nat.le_refl _, fun k _ hg => ht.block k (fun e => h.out (by rw [← e]; exact hg))⟩
  exact ⟨⟨by rw [Go.Joins.block_setCell h.at_ _]; rfl, h.fx.own ht.size.symm (fun k _ hk => ht.block k (fun e => hk (.inr e))), h.out, h.vg.stay hS⟩, hS⟩
end
set_option maxRecDepth 100000 in
set_option maxHeartbeats 1000000 in
theorem goOn_any {G : Nat → Prop} {w : World} {lb pb num lim : Nat} {a : A} (h : Lx G w lb pb num lim a) (h1 : 1 ≤ num) (h2 : num ≤ 999999) (ht : a.top + 1 < 1073741824) :
    Calls Tryz.prog 46 #[bp lb] w (LxAns G w lb pb lim (wGoOn a num)) := by
  have hL := Lib.hid h
  have hc := h.cells
  have hlt := h.lt
  have HY := Lib.hid (wSync_any h h1 h2)
  have htp := sync_top a (wnm num)
  have HT := Lib.hid (show (a.sync (wnm num)).2.top + 1 < 1073741824 by omega)
  clear h htp ht
  by_cases h9 : num = 999999
  · have d9 : ((num : Int) == 999999) = true := by simp; omega
    have hE := Lib.hid (show wGoOn a num = (12, a, num) by unfold wGoOn; rw [if_pos h9])
    clear h9
    go_enter Tryz.func46, Tryz.ntmps46
    go_wp2
    go_ret
    rw [hE.out]
    exact ⟨rfl, hL.out, Stay.refl _ _⟩
  · have d9 : ((num : Int) == 999999) = false := by simp; omega
    obtain ⟨r, hr⟩ : ∃ r, a.sync (wnm num) = r := ⟨_, rfl⟩
    have hE := Lib.hid (show wGoOn a num = if r.1 = 0 then (if (wBegin r.2 (num + 1)).1 = 0 then (0, (wBegin r.2 (num + 1)).2, num + 1) else ((wBegin r.2 (num + 1)).1, (wBegin r.2 (num + 1)).2, num)) else (r.1, r.2, num) by unfold wGoOn; rw [if_neg h9, hr])
    rw [hr] at HY HT
    clear hr
    go_enter Tryz.func46, Tryz.ntmps46
    go_wp2_with fail
    refine HY.out.mono ?_
    rintro e W1 ⟨rfl, hl, hs⟩
    have HL1 := Lib.hid hl
    have HS1 := Lib.hid hs
    have hc1 := hl.cells
    have hlt1 := hl.lt
    clear hl hs HY hc hlt
    obtain ⟨z, a2⟩ := r
    dsimp only at HT hE HL1 hc1 hlt1
    by_cases hz : z = 0
    · subst hz
      have hE1 := Lib.hid (show wGoOn a num = if (wBegin a2 (num + 1)).1 = 0 then (0, (wBegin a2 (num + 1)).2, num + 1) else ((wBegin a2 (num + 1)).1, (wBegin a2 (num + 1)).2, num) by rw [hE.out]; exact if_pos rfl)
      have HBG := Lib.hid (begin_any (HL1.out.drewN 1).fx ((HL1.out.drewN 1).vg.mono fun _ hk => .inl hk) (n := num + 1) (by omega) (by omega) HT.out)
      rw [show (((num + 1 : Nat) : Int)) = (num : Int) + 1 by omega] at HBG
      have hn64 : IntKind.i64.wrap ((num : Int) + 1) = (num : Int) + 1 := IntWalk.i64_in _ (by omega)
      obtain ⟨r, hr⟩ : ∃ r, wBegin a2 (num + 1) = r := ⟨_, rfl⟩
      rw [hr] at HBG hE1
      clear hE hr
      go_wp2_with fail
      refine wp_region_held_drew (S := (fun w' => w'.cell? ⟨lb, 0, none⟩ = some (bp pb) ∧ w'.cell? ⟨lb, 1, none⟩ = some (.int .i64 (num : Int)))) (by kernel_rfl) (HL1.out.drewN 1).cells (fun hHeld => ?_)
      refine wpAnyH_take (i := 0) (v := ?_) rfl (by kernel_rfl) (by kernel_rfl) (by kernel_rfl) (fun _ _ _ h => h) (Or.inl ⟨by rfl, ?_⟩) hHeld ?_
      rotate_left
      · (intro wx hSw; obtain ⟨hx1, hx2⟩ := hSw; first | (go_simp; done) | (go_simp; with_reducible rfl))
      simp only [Act.put, List.getElem_toArray, List.getElem_cons_zero, List.setIfInBounds_toArray, List.set_cons_zero, List.set_cons_succ]
      refine wpAnyH_take (i := 1) (v := ?_) rfl (by kernel_rfl) (by kernel_rfl) (by kernel_rfl) (fun _ _ _ h => h) (Or.inl ⟨by rfl, ?_⟩) hHeld ?_
      rotate_left
      · (intro wx hSw; obtain ⟨hx1, hx2⟩ := hSw; first | (go_simp; done) | (go_simp; with_reducible rfl))
      simp only [Act.put, List.getElem_toArray, List.getElem_cons_zero, List.getElem_cons_succ, List.setIfInBounds_toArray, List.set_cons_zero, List.set_cons_succ]
      refine wpAnyH_take (i := 2) (v := ?_) rfl (by kernel_rfl) (by kernel_rfl) (by kernel_rfl) (fun _ _ _ h => h) (Or.inl ⟨by rfl, ?_⟩) hHeld ?_
      rotate_left
      · (intro wx hSw; obtain ⟨hx1, hx2⟩ := hSw; first | (go_simp; done) | (go_simp; with_reducible rfl))
      simp only [Act.put, List.getElem_toArray, List.getElem_cons_zero, List.getElem_cons_succ, List.setIfInBounds_toArray, List.set_cons_zero, List.set_cons_succ]
      refine wpAnyH_take (i := 3) (v := ?_) rfl (by kernel_rfl) (by kernel_rfl) (by kernel_rfl) (fun _ _ _ h => h) (Or.inl ⟨by rfl, ?_⟩) hHeld ?_
      rotate_left
      · (intro wx hSw; obtain ⟨hx1, hx2⟩ := hSw; first | (go_simp; done) | (go_simp; with_reducible rfl))
      simp only [Act.put, List.getElem_toArray, List.getElem_cons_zero, List.getElem_cons_succ, List.setIfInBounds_toArray, List.set_cons_zero, List.set_cons_succ]
      refine wpAnyH_take (i := 4) (v := ?_) rfl (by kernel_rfl) (by kernel_rfl) (by kernel_rfl) (fun _ _ _ h => h) (Or.inl ⟨by rfl, ?_⟩) hHeld ?_
      rotate_left
      · (intro wx hSw; obtain ⟨hx1, hx2⟩ := hSw; first | (go_simp; done) | (go_simp; with_reducible rfl))
      simp only [Act.put, List.getElem_toArray, List.getElem_cons_zero, List.getElem_cons_succ, List.setIfInBounds_toArray, List.set_cons_zero, List.set_cons_succ]
      refine wpAnyH_take (i := 5) (v := ?_) rfl (by kernel_rfl) (by kernel_rfl) (by kernel_rfl) (fun _ _ _ h => h) (Or.inl ⟨by rfl, ?_⟩) hHeld ?_
      rotate_left
      · (intro wx hSw; obtain ⟨hx1, hx2⟩ := hSw; first | (go_simp; done) | (go_simp; with_reducible rfl))
      simp only [Act.put, List.getElem_toArray, List.getElem_cons_zero, List.getElem_cons_succ, List.setIfInBounds_toArray, List.set_cons_zero, List.set_cons_succ]
      refine wpAnyH_take (i := 6) (v := ?_) rfl (by kernel_rfl) (by kernel_rfl) (by kernel_rfl) (fun _ _ _ h => h) (Or.inl ⟨by rfl, ?_⟩) hHeld ?_
      rotate_left
      · (intro wx hSw; obtain ⟨hx1, hx2⟩ := hSw; first | (go_simp; done) | (go_simp; with_reducible rfl))
      simp only [Act.put, List.getElem_toArray, List.getElem_cons_zero, List.getElem_cons_succ, List.setIfInBounds_toArray, List.set_cons_zero, List.set_cons_succ]
      refine wpAnyH_take (i := 7) (v := ?_) rfl (by kernel_rfl) (by kernel_rfl) (by kernel_rfl) (fun _ _ _ h => h) (Or.inl ⟨by rfl, ?_⟩) hHeld ?_
      rotate_left
      · (intro wx hSw; obtain ⟨hx1, hx2⟩ := hSw; first | (go_simp; done) | (go_simp; with_reducible rfl))
      simp only [Act.put, List.getElem_toArray, List.getElem_cons_zero, List.getElem_cons_succ, List.setIfInBounds_toArray, List.set_cons_zero, List.set_cons_succ]
      refine wpAnyH_take (i := 8) (v := ?_) rfl (by kernel_rfl) (by kernel_rfl) (by kernel_rfl) (fun _ _ _ h => h) (Or.inl ⟨by rfl, ?_⟩) hHeld ?_
      rotate_left
      · (intro wx hSw; obtain ⟨hx1, hx2⟩ := hSw; first | (go_simp; done) | (go_simp; with_reducible rfl))
      simp only [Act.put, List.getElem_toArray, List.getElem_cons_zero, List.getElem_cons_succ, List.setIfInBounds_toArray, List.set_cons_zero, List.set_cons_succ]
      refine wpAnyH_ready (rs := [9]) (by kernel_rfl) (by simp) ?_
      refine AllReadyH.cons rfl (fun K hK => ?_) AllReadyH.nil
      go_simp
      refine HBG.out.mono ?_
      rintro e W2 ⟨rfl, hF, hS⟩
      have HL2 := Lib.hid (HL1.out.next hF ((Stay.drewN _ W1 1).trans hS))
      have HS2 := Lib.hid (HS1.out.trans (((Stay.drewN _ W1 1).trans hS).mono fun _ hk => .inl hk))
      clear hF hS
      try go_wp2_with fail
      refine hK.out _ _ (HL2.out.cells) (fun hHeld => ?_)
      clear hK K
      try simp only [Act.put, List.setIfInBounds_toArray, List.set_cons_zero, List.set_cons_succ]
      refine wpAnyH_take (i := 10) (v := ?_) rfl (by kernel_rfl) (by kernel_rfl) (by kernel_rfl) (fun _ _ _ h => h) (Or.inl ⟨by rfl, ?_⟩) hHeld ?_
      rotate_left
      · (intro wx hSw; obtain ⟨hx1, hx2⟩ := hSw; first | (go_simp; done) | (go_simp; with_reducible rfl))
      simp only [Act.put, List.getElem_toArray, List.getElem_cons_zero, List.getElem_cons_succ, List.setIfInBounds_toArray, List.set_cons_zero, List.set_cons_succ]
      refine wpAnyH_done (by kernel_rfl) ?_ _
      clear hn64
      obtain ⟨z, a3⟩ := r
      dsimp only at hE1 HL2
      by_cases hz : z = 0
      · subst hz
        have hE2 := Lib.hid (show wGoOn a num = (0, a3, num + 1) by rw [hE1.out]; exact if_pos rfl)
        have hlt2 := HL2.out.lt
        have hfz : W2.frozen? ⟨lb, 1, none⟩ = false := by simp [World.frozen?, HL2.out.at_]
        have hc2 := HL2.out.cells
        have HX := Lib.hid (HL2.out.setNum (num + 1))
        rw [show (((num + 1 : Nat) : Int)) = (num : Int) + 1 by omega] at HX
        clear hE1 HBG
        go_wp2
        go_ret
        rw [hE2.out]
        exact ⟨rfl, HX.out.1, HS2.out.trans HX.out.2⟩
      · have hz1 : (z == 0) = false := by simpa using hz
        have hE2 := Lib.hid (show wGoOn a num = (z, a3, num) by rw [hE1.out]; exact if_neg hz)
        clear hE1 HBG
        go_wp2
        go_ret
        rw [hE2.out]
        exact ⟨rfl, HL2.out, HS2.out⟩
    · have hz1 : (z == 0) = false := by simpa using hz
      have hE1 := Lib.hid (show wGoOn a num = (z, a2, num) by rw [hE.out]; exact if_neg hz)
      clear hE
      go_wp2
      go_ret
      rw [hE1.out]
      exact ⟨rfl, HL1.out, HS1.out⟩
end Go.Proofs.YtadnecgcoceklaaGreatDoor
