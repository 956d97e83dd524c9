/-
  begin, Sync and goOn, walked.
-/
import Derived.Test.YtadnecgcoceklaaGreatDoorWalW1
import Derived.Test.YtadnecgcoceklaaGreatDoorMD
import Derived.Deep.RegionHeld3
namespace Go.Proofs.YtadnecgcoceklaaGreatDoor
open Go.RowKit Go.Maps

/-- The library's tables lie in blocks of G. -/
def VG (G : Nat → Prop) (w : World) : Prop := ∃ W, Vars W ∧ Below W.heap.size W w ∧ ∀ k, k < W.heap.size → G k
theorem VG.vars {G : Nat → Prop} {w : World} (h : VG G w) : Vars w := by
  obtain ⟨W, h1, h2, _⟩ := h; exact h1.below h2
theorem VG.stay {G : Nat → Prop} {w w' : World} (h : VG G w) (hS : Stay G w w') : VG G w' := by
  obtain ⟨W, h1, h2, h3⟩ := h
  exact ⟨W, h1, h2.trans (hS.below h2.size h3), h3⟩
theorem VG.below {G : Nat → Prop} {w w' : World} (h : VG G w) (hb : Below w.heap.size w w') : VG G w' := h.stay (Stay.of_below hb)
theorem VG.drewN {G : Nat → Prop} {w : World} (h : VG G w) (n : Nat) : VG G (w.drewN n) := h.below (below_drewN _ _ _)
theorem VG.mono {G G' : Nat → Prop} {w : World} (h : VG G w) (hG : ∀ k, G k → G' k) : VG G' w := by
  obtain ⟨W, h1, h2, h3⟩ := h
  exact ⟨W, h1, h2, fun k hk => hG k (h3 k hk)⟩
set_option maxRecDepth 100000 in
set_option maxHeartbeats 1000000 in
theorem begin_any {G : Nat → Prop} {w : World} {pb : Nat} {a : A} (h : Fx G w pb a) (hv : VG G w) {n : Nat} (h1 : 1 ≤ n) (h2 : n ≤ 999999) (ht : a.top + 1 < 1073741824) :
    Calls Tryz.prog 50 #[bp pb, .int .i64 (n : Int)] w (FxAns G w pb (wBegin a n)) := by
  have hF := Lib.hid h
  have HN := Lib.hid (Name_any (n : Int) ⟨by omega, by omega⟩ w hv.vars)
  rw [wName_in h1 h2] at HN
  have htp := create_top a (wnm n)
  have HT := Lib.hid (show (a.create (wnm n)).2.top < 1073741824 by omega)
  have ht0 := Lib.hid (show a.top < 1073741824 by omega)
  obtain ⟨r, hr⟩ : ∃ r, a.create (wnm n) = r := ⟨_, rfl⟩
  have HR := Lib.hid hr
  have HW : Hid (wBegin a n = if r.1 = 0 then r.2.syncDir else r) := Lib.hid (by unfold wBegin; rw [hr])
  rw [hr] at HT
  clear h hv ht htp hr
  go_enter Tryz.func50, Tryz.ntmps50
  go_wp2_with fail
  refine HN.out.mono ?_
  rintro e W1 ⟨rfl, hb⟩
  have HC := Lib.hid (fx_create (hF.out.below hb) (strB (wnm n)) ht0.out)
  rw [strB_list, HR.out] at HC
  have HB := Lib.hid hb
  clear hb HN
  go_wp2_with fail
  refine HC.out.mono ?_
  rintro e W2 ⟨rfl, hF2, hS2⟩
  have HF2 := Lib.hid hF2
  have HS2 := Lib.hid ((Stay.of_below HB.out).trans hS2)
  clear hF2 hS2 HC
  obtain ⟨z, a2⟩ := r
  dsimp only at HT HW HF2
  by_cases hz : z = 0
  · subst hz
    have HW0 := Lib.hid (show wBegin a n = a2.syncDir by rw [HW.out]; exact if_pos rfl)
    clear HW
    have HD := Lib.hid (fx_syncDir HF2.out)
    go_wp2_with fail
    refine HD.out.mono ?_
    rintro e W3 ⟨rfl, hF3, hS3⟩
    have HE := Lib.hid (And.intro hF3 (HS2.out.trans hS3))
    clear hF3 hS3 HD
    go_wp2
    go_ret
    rw [HW0.out]
    exact ⟨rfl, HE.out⟩
  · have hz1 : (z == 0) = false := by simpa using hz
    go_wp2
    go_ret
    rw [HW.out, if_neg hz]
    exact ⟨rfl, HF2.out, HS2.out⟩

/-- A log lies at block lb, its directory at pb. -/
structure Lx (G : Nat → Prop) (w : World) (lb pb num lim : Nat) (a : A) : Prop where
  at_ : w.heap[lb]? = some (.cells #[bp pb, .int .i64 (num : Int), .int .i64 (lim : Int)] 85 (0, 0))
  fx : Fx (fun k => G k ∨ k = lb) w pb a
  out : ¬ G lb
  vg : VG G w
section
variable {G : Nat → Prop} {w w' : World} {lb pb num lim : Nat} {a a' : A}
theorem Lx.lt (h : Lx G w lb pb num lim a) : lb < w.heap.size := (Array.getElem?_eq_some_iff.1 h.at_).1
theorem Lx.below (h : Lx G w lb pb num lim a) (hb : Below w.heap.size w w') : Lx G w' lb pb num lim a :=
  ⟨(hb.block lb h.lt).trans h.at_, h.fx.below hb, h.out, h.vg.below hb⟩
theorem Lx.drewN (h : Lx G w lb pb num lim a) (n : Nat) : Lx G (w.drewN n) lb pb num lim a := h.below (below_drewN _ _ _)
theorem Lx.next (h : Lx G w lb pb num lim a) (hF : Fx (fun k => G k ∨ k = lb) w' pb a') (hS : Stay (fun k => G k ∨ k = lb) w w') : Lx G w' lb pb num lim a' :=
  ⟨(hS.block lb h.lt (.inr rfl)).trans h.at_, hF, h.out, h.vg.stay (hS.mono fun _ hk => .inl hk)⟩
theorem Lx.cells (h : Lx G w lb pb num lim a) : w.cell? ⟨lb, 0, none⟩ = some (bp pb) ∧ w.cell? ⟨lb, 1, none⟩ = some (.int .i64 (num : Int)) :=
  ⟨by rw [cell_of_row w lb 0 _ _ _ h.at_]; rfl, by rw [cell_of_row w lb 1 _ _ _ h.at_]; rfl⟩
theorem Lx.limc (h : Lx G w lb pb num lim a) : w.cell? ⟨lb, 2, none⟩ = some (.int .i64 (lim : Int)) := by rw [cell_of_row w lb 2 _ _ _ h.at_]; rfl
def LxAns (G : Nat → Prop) (w : World) (lb pb lim : Nat) (r : Int × A × Nat) (e : Ending) (w' : World) : Prop := e = .returned (.int .i64 r.1) ∧ Lx G w' lb pb r.2.2 lim r.2.1 ∧ Stay G w w'
end
set_option maxRecDepth 100000 in
set_option maxHeartbeats 1000000 in
theorem wSync_any {G : Nat → Prop} {w : World} {lb pb num lim : Nat} {a : A} (h : Lx G w lb pb num lim a) (h1 : 1 ≤ num) (h2 : num ≤ 999999) :
    Calls Tryz.prog 12 #[bp lb] w (LxAns G w lb pb lim ((a.sync (wnm num)).1, (a.sync (wnm num)).2, num)) := by
  have hL := Lib.hid h
  have hLv := h.vg
  have hlt := h.lt
  clear h
  go_enter Tryz.func12, Tryz.ntmps12
  go_wp2_with fail
  refine wp_region_held_drew (S := (fun w' => w'.cell? ⟨lb, 0, none⟩ = some (bp pb) ∧ w'.cell? ⟨lb, 1, none⟩ = some (.int .i64 (num : Int)))) (by kernel_rfl) (hL.out.drewN 1).cells (fun hHeld => ?_)
  refine wpAnyH_take (i := 0) (v := ?_) rfl (by kernel_rfl) (by kernel_rfl) (by kernel_rfl) (fun _ _ _ h => h) (Or.inl ⟨by rfl, ?_⟩) hHeld ?_
  rotate_left
  · (intro wx hSw; obtain ⟨hx1, hx2⟩ := hSw; first | (go_simp; done) | (go_simp; with_reducible rfl))
  simp only [Act.put, List.getElem_toArray, List.getElem_cons_zero, List.setIfInBounds_toArray, List.set_cons_zero, List.set_cons_succ]
  refine wpAnyH_take (i := 1) (v := ?_) rfl (by kernel_rfl) (by kernel_rfl) (by kernel_rfl) (fun _ _ _ h => h) (Or.inl ⟨by rfl, ?_⟩) hHeld ?_
  rotate_left
  · (intro wx hSw; obtain ⟨hx1, hx2⟩ := hSw; first | (go_simp; done) | (go_simp; with_reducible rfl))
  simp only [Act.put, List.getElem_toArray, List.getElem_cons_zero, List.getElem_cons_succ, List.setIfInBounds_toArray, List.set_cons_zero, List.set_cons_succ]
  refine wpAnyH_take (i := 2) (v := ?_) rfl (by kernel_rfl) (by kernel_rfl) (by kernel_rfl) (fun _ _ _ h => h) (Or.inl ⟨by rfl, ?_⟩) hHeld ?_
  rotate_left
  · (intro wx hSw; obtain ⟨hx1, hx2⟩ := hSw; first | (go_simp; done) | (go_simp; with_reducible rfl))
  simp only [Act.put, List.getElem_toArray, List.getElem_cons_zero, List.getElem_cons_succ, List.setIfInBounds_toArray, List.set_cons_zero, List.set_cons_succ]
  refine wpAnyH_take (i := 3) (v := ?_) rfl (by kernel_rfl) (by kernel_rfl) (by kernel_rfl) (fun _ _ _ h => h) (Or.inl ⟨by rfl, ?_⟩) hHeld ?_
  rotate_left
  · (intro wx hSw; obtain ⟨hx1, hx2⟩ := hSw; first | (go_simp; done) | (go_simp; with_reducible rfl))
  simp only [Act.put, List.getElem_toArray, List.getElem_cons_zero, List.getElem_cons_succ, List.setIfInBounds_toArray, List.set_cons_zero, List.set_cons_succ]
  refine wpAnyH_take (i := 4) (v := ?_) rfl (by kernel_rfl) (by kernel_rfl) (by kernel_rfl) (fun _ _ _ h => h) (Or.inl ⟨by rfl, ?_⟩) hHeld ?_
  rotate_left
  · (intro wx hSw; obtain ⟨hx1, hx2⟩ := hSw; first | (go_simp; done) | (go_simp; with_reducible rfl))
  simp only [Act.put, List.getElem_toArray, List.getElem_cons_zero, List.getElem_cons_succ, List.setIfInBounds_toArray, List.set_cons_zero, List.set_cons_succ]
  refine wpAnyH_take (i := 5) (v := ?_) rfl (by kernel_rfl) (by kernel_rfl) (by kernel_rfl) (fun _ _ _ h => h) (Or.inl ⟨by rfl, ?_⟩) hHeld ?_
  rotate_left
  · (intro wx hSw; obtain ⟨hx1, hx2⟩ := hSw; first | (go_simp; done) | (go_simp; with_reducible rfl))
  simp only [Act.put, List.getElem_toArray, List.getElem_cons_zero, List.getElem_cons_succ, List.setIfInBounds_toArray, List.set_cons_zero, List.set_cons_succ]
  refine wpAnyH_take (i := 6) (v := ?_) rfl (by kernel_rfl) (by kernel_rfl) (by kernel_rfl) (fun _ _ _ h => h) (Or.inl ⟨by rfl, ?_⟩) hHeld ?_
  rotate_left
  · (intro wx hSw; obtain ⟨hx1, hx2⟩ := hSw; first | (go_simp; done) | (go_simp; with_reducible rfl))
  simp only [Act.put, List.getElem_toArray, List.getElem_cons_zero, List.getElem_cons_succ, List.setIfInBounds_toArray, List.set_cons_zero, List.set_cons_succ]
  refine wpAnyH_take (i := 7) (v := ?_) rfl (by kernel_rfl) (by kernel_rfl) (by kernel_rfl) (fun _ _ _ h => h) (Or.inl ⟨by rfl, ?_⟩) hHeld ?_
  rotate_left
  · (intro wx hSw; obtain ⟨hx1, hx2⟩ := hSw; first | (go_simp; done) | (go_simp; with_reducible rfl))
  simp only [Act.put, List.getElem_toArray, List.getElem_cons_zero, List.getElem_cons_succ, List.setIfInBounds_toArray, List.set_cons_zero, List.set_cons_succ]
  refine wpAnyH_ready (rs := [8]) (by kernel_rfl) (by simp) ?_
  refine AllReadyH.cons rfl (fun K hK => ?_) AllReadyH.nil
  go_simp
  refine (Name_any (num : Int) ⟨by omega, by omega⟩ _ (hLv.drewN 1).vars).mono ?_
  rintro e W1 ⟨rfl, hb⟩
  have HB1 := Lib.hid (show Below w.heap.size w W1 from (below_drewN _ _ 1).trans hb)
  have HL1 := Lib.hid (hL.out.below HB1.out)
  rw [wName_in h1 h2]
  clear hb
  try go_wp2_with fail
  refine hK.out _ _ (HL1.out.cells) (fun hHeld => ?_)
  clear hK K
  try simp only [Act.put, List.setIfInBounds_toArray, List.set_cons_zero, List.set_cons_succ]
  refine wpAnyH_ready (rs := [9]) (by kernel_rfl) (by simp) ?_
  refine AllReadyH.cons rfl (fun K hK => ?_) AllReadyH.nil
  go_simp
  refine (fx_sync HL1.out.fx (strB (wnm num))).mono ?_
  rintro e W2 ⟨rfl, hF, hS⟩
  rw [strB_list] at hF ⊢
  have HL2 := Lib.hid (HL1.out.next hF hS)
  have HS2 := Lib.hid ((Stay.of_below HB1.out).trans hS)
  clear hF hS
  try go_wp2_with fail
  refine hK.out _ _ (HL2.out.cells) (fun hHeld => ?_)
  clear hK K
  try simp only [Act.put, List.setIfInBounds_toArray, List.set_cons_zero, List.set_cons_succ]
  refine wpAnyH_take (i := 10) (v := ?_) rfl (by kernel_rfl) (by kernel_rfl) (by kernel_rfl) (fun _ _ _ h => h) (Or.inl ⟨by rfl, ?_⟩) hHeld ?_
  rotate_left
  · (intro wx hSw; obtain ⟨hx1, hx2⟩ := hSw; first | (go_simp; done) | (go_simp; with_reducible rfl))
  simp only [Act.put, List.getElem_toArray, List.getElem_cons_zero, List.getElem_cons_succ, List.setIfInBounds_toArray, List.set_cons_zero, List.set_cons_succ]
  refine wpAnyH_done (by kernel_rfl) ?_ _
  go_wp2
  go_ret
  exact ⟨rfl, HL2.out, HS2.out.mono fun _ hk => .inl hk⟩
end Go.Proofs.YtadnecgcoceklaaGreatDoor
