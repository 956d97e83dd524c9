/-
  Append, walked.
-/
import Derived.Test.YtadnecgcoceklaaGreatDoorWalW3
import Derived.Test.YtadnecgcoceklaaGreatDoorFrFrW4
namespace Go.Proofs.YtadnecgcoceklaaGreatDoor
open Go.RowKit Go.Maps

theorem wBegin_top (a : A) (n : Nat) : (wBegin a n).2.top ≤ a.top + 1 := by
  unfold wBegin
  have h1 := create_top a (wnm n)
  split
  · have := syncDir_top (a.create (wnm n)).2; omega
  · exact h1
theorem wGoOn_top (a : A) (n : Nat) : (wGoOn a n).2.1.top ≤ a.top + 1 := by
  unfold wGoOn
  have h1 := sync_top a (wnm n)
  have h2 := wBegin_top (a.sync (wnm n)).2 (n + 1)
  split
  · show a.top ≤ _; omega
  · split
    · split
      · show (wBegin _ _).2.top ≤ _; omega
      · show (wBegin _ _).2.top ≤ _; omega
    · show (a.sync _).2.top ≤ _; omega
theorem wGoOn_num (a : A) {n : Nat} (h : n ≤ 999999) : (wGoOn a n).2.2 ≤ 999999 ∧ n ≤ (wGoOn a n).2.2 := by
  unfold wGoOn
  split
  · exact ⟨h, Nat.le_refl _⟩
  · split
    · split
      · exact ⟨by show n + 1 ≤ _; omega, by show n ≤ n + 1; omega⟩
      · exact ⟨h, Nat.le_refl _⟩
    · exact ⟨h, Nat.le_refl _⟩
set_option maxRecDepth 100000 in
set_option maxHeartbeats 4000000 in
theorem wAppend_any {G : Nat → Prop} {w : World} {lb pb num lim : Nat} {a : A} (h : Lx G w lb pb num lim a) (h1 : 1 ≤ num) (h2 : num ≤ 999999) (ht : a.top + 1 < 1073741824)
    {ad : Option Addr} {cap n : Nat} {rec : Rec} (hn : rec.length = n) (hr : Byt w ad rec) (hb : ∀ x ∈ rec, x < 256) (hc : n ≤ cap) (hnil : ad = none → rec = [] ∧ cap = 0) (hG : ∀ b off, ad = some ⟨b, off, none⟩ → G b) (hn2 : n ≤ 4611686018427387904) (sync : Bool) :
    Calls Tryz.prog 11 #[bp lb, .slice ad n cap, .bool sync] w (LxAns G w lb pb lim (wAppend a num lim rec sync)) := by
  have hL := Lib.hid h
  have hlt := h.lt
  have HR := Lib.hid hr
  have HB := Lib.hid hb
  have HG := Lib.hid hG
  have HNIL := Lib.hid hnil
  have HLN := Lib.hid hn
  have HTOP := Lib.hid ht
  clear h hr hb hG hnil ht
  by_cases hbig : 300000 < n
  · have HE := Lib.hid (show wAppend a num lim rec sync = (14, a, num) by unfold wAppend; rw [if_pos (by rw [hn]; exact hbig)])
    have d1 : decide ((300000 : Int) < (n : Int)) = true := by simp; omega
    clear hn
    go_enter Tryz.func11, Tryz.ntmps11
    go_wp2
    go_ret
    rw [HE.out]
    exact ⟨rfl, hL.out, Stay.refl _ _⟩
  · have d1 : decide ((300000 : Int) < (n : Int)) = false := by simp; omega
    obtain ⟨sz, hsz⟩ : ∃ sz, a.size (wnm num) = sz := ⟨_, rfl⟩
    obtain ⟨se, hse⟩ : ∃ se, a.sizeE (wnm num) = se := ⟨_, rfl⟩
    have HSZ := Lib.hid hsz
    have HSE := Lib.hid hse
    have hszb : sz ≤ 1048576 := by rw [← hsz]; exact size_bound hL.out.fx.ok _
    have HE := Lib.hid (show wAppend a num lim rec sync = if se = 0 then (if lim ≤ sz then (if (wGoOn a num).1 = 0 then ((wPut (wGoOn a num).2.1 (wGoOn a num).2.2 0 rec sync).1, (wPut (wGoOn a num).2.1 (wGoOn a num).2.2 0 rec sync).2, (wGoOn a num).2.2) else wGoOn a num) else ((wPut a num sz rec sync).1, (wPut a num sz rec sync).2, num)) else (se, a, num) by
      unfold wAppend; rw [if_neg (by rw [hn]; exact hbig), hse, hsz])
    clear hn hsz hse
    go_enter Tryz.func11, Tryz.ntmps11
    go_wp2_with fail
    refine wp_region_held_drew (S := (fun w' => w'.cell? ⟨lb, 0, none⟩ = some (bp pb) ∧ w'.cell? ⟨lb, 1, none⟩ = some (.int .i64 (num : Int)))) (by kernel_rfl) (hL.out.drewN 1).cells (fun hHeld => ?_)
    refine wpAnyH_take (i := 0) (v := ?_) rfl (by kernel_rfl) (by kernel_rfl) (by kernel_rfl) (fun _ _ _ h => h) (Or.inl ⟨by rfl, ?_⟩) hHeld ?_
    rotate_left
    · (intro wx hSw; obtain ⟨hx1, hx2⟩ := hSw; first | (go_simp; done) | (go_simp; with_reducible rfl))
    simp only [Act.put, List.getElem_toArray, List.getElem_cons_zero, List.setIfInBounds_toArray, List.set_cons_zero, List.set_cons_succ]
    refine wpAnyH_take (i := 1) (v := ?_) rfl (by kernel_rfl) (by kernel_rfl) (by kernel_rfl) (fun _ _ _ h => h) (Or.inl ⟨by rfl, ?_⟩) hHeld ?_
    rotate_left
    · (intro wx hSw; obtain ⟨hx1, hx2⟩ := hSw; first | (go_simp; done) | (go_simp; with_reducible rfl))
    simp only [Act.put, List.getElem_toArray, List.getElem_cons_zero, List.getElem_cons_succ, List.setIfInBounds_toArray, List.set_cons_zero, List.set_cons_succ]
    refine wpAnyH_take (i := 2) (v := ?_) rfl (by kernel_rfl) (by kernel_rfl) (by kernel_rfl) (fun _ _ _ h => h) (Or.inl ⟨by rfl, ?_⟩) hHeld ?_
    rotate_left
    · (intro wx hSw; obtain ⟨hx1, hx2⟩ := hSw; first | (go_simp; done) | (go_simp; with_reducible rfl))
    simp only [Act.put, List.getElem_toArray, List.getElem_cons_zero, List.getElem_cons_succ, List.setIfInBounds_toArray, List.set_cons_zero, List.set_cons_succ]
    refine wpAnyH_take (i := 3) (v := ?_) rfl (by kernel_rfl) (by kernel_rfl) (by kernel_rfl) (fun _ _ _ h => h) (Or.inl ⟨by rfl, ?_⟩) hHeld ?_
    rotate_left
    · (intro wx hSw; obtain ⟨hx1, hx2⟩ := hSw; first | (go_simp; done) | (go_simp; with_reducible rfl))
    simp only [Act.put, List.getElem_toArray, List.getElem_cons_zero, List.getElem_cons_succ, List.setIfInBounds_toArray, List.set_cons_zero, List.set_cons_succ]
    refine wpAnyH_take (i := 4) (v := ?_) rfl (by kernel_rfl) (by kernel_rfl) (by kernel_rfl) (fun _ _ _ h => h) (Or.inl ⟨by rfl, ?_⟩) hHeld ?_
    rotate_left
    · (intro wx hSw; obtain ⟨hx1, hx2⟩ := hSw; first | (go_simp; done) | (go_simp; with_reducible rfl))
    simp only [Act.put, List.getElem_toArray, List.getElem_cons_zero, List.getElem_cons_succ, List.setIfInBounds_toArray, List.set_cons_zero, List.set_cons_succ]
    refine wpAnyH_take (i := 5) (v := ?_) rfl (by kernel_rfl) (by kernel_rfl) (by kernel_rfl) (fun _ _ _ h => h) (Or.inl ⟨by rfl, ?_⟩) hHeld ?_
    rotate_left
    · (intro wx hSw; obtain ⟨hx1, hx2⟩ := hSw; first | (go_simp; done) | (go_simp; with_reducible rfl))
    simp only [Act.put, List.getElem_toArray, List.getElem_cons_zero, List.getElem_cons_succ, List.setIfInBounds_toArray, List.set_cons_zero, List.set_cons_succ]
    refine wpAnyH_take (i := 6) (v := ?_) rfl (by kernel_rfl) (by kernel_rfl) (by kernel_rfl) (fun _ _ _ h => h) (Or.inl ⟨by rfl, ?_⟩) hHeld ?_
    rotate_left
    · (intro wx hSw; obtain ⟨hx1, hx2⟩ := hSw; first | (go_simp; done) | (go_simp; with_reducible rfl))
    simp only [Act.put, List.getElem_toArray, List.getElem_cons_zero, List.getElem_cons_succ, List.setIfInBounds_toArray, List.set_cons_zero, List.set_cons_succ]
    refine wpAnyH_take (i := 7) (v := ?_) rfl (by kernel_rfl) (by kernel_rfl) (by kernel_rfl) (fun _ _ _ h => h) (Or.inl ⟨by rfl, ?_⟩) hHeld ?_
    rotate_left
    · (intro wx hSw; obtain ⟨hx1, hx2⟩ := hSw; first | (go_simp; done) | (go_simp; with_reducible rfl))
    simp only [Act.put, List.getElem_toArray, List.getElem_cons_zero, List.getElem_cons_succ, List.setIfInBounds_toArray, List.set_cons_zero, List.set_cons_succ]
    refine wpAnyH_ready (rs := [8]) (by kernel_rfl) (by simp) ?_
    refine AllReadyH.cons rfl (fun K hK => ?_) AllReadyH.nil
    go_simp
    refine (Name_any (num : Int) ⟨by omega, by omega⟩ _ ((hL.out.drewN 1).vg).vars).mono ?_
    rintro e W1 ⟨rfl, hb⟩
    have HB1 := Lib.hid (show Below w.heap.size w W1 from (below_drewN _ _ 1).trans hb)
    have HL1 := Lib.hid (hL.out.below HB1.out)
    rw [wName_in h1 h2]
    clear hb
    try go_wp2_with fail
    refine hK.out _ _ (HL1.out.cells) (fun hHeld => ?_)
    clear hK K
    try simp only [Act.put, List.setIfInBounds_toArray, List.set_cons_zero, List.set_cons_succ]
    refine wpAnyH_ready (rs := [9]) (by kernel_rfl) (by simp) ?_
    refine AllReadyH.cons rfl (fun K hK => ?_) AllReadyH.nil
    go_simp
    refine (fx_size HL1.out.fx (strB (wnm num))).mono ?_
    rintro e W1' ⟨rfl, rfl⟩
    rw [strB_list, HSZ.out, HSE.out]
    try go_wp2_with fail
    refine hK.out _ _ (HL1.out.cells) (fun hHeld => ?_)
    clear hK K
    try simp only [Act.put, List.setIfInBounds_toArray, List.set_cons_zero, List.set_cons_succ]
    refine wpAnyH_take (i := 10) (v := ?_) rfl (by kernel_rfl) (by kernel_rfl) (by kernel_rfl) (fun _ _ _ h => h) (Or.inl ⟨by rfl, ?_⟩) hHeld ?_
    rotate_left
    · (intro wx hSw; obtain ⟨hx1, hx2⟩ := hSw; first | (go_simp; done) | (go_simp; with_reducible rfl))
    simp only [Act.put, List.getElem_toArray, List.getElem_cons_zero, List.getElem_cons_succ, List.setIfInBounds_toArray, List.set_cons_zero, List.set_cons_succ]
    refine wpAnyH_take (i := 11) (v := ?_) rfl (by kernel_rfl) (by kernel_rfl) (by kernel_rfl) (fun _ _ _ h => h) (Or.inl ⟨by rfl, ?_⟩) hHeld ?_
    rotate_left
    · (intro wx hSw; obtain ⟨hx1, hx2⟩ := hSw; first | (go_simp; done) | (go_simp; with_reducible rfl))
    simp only [Act.put, List.getElem_toArray, List.getElem_cons_zero, List.getElem_cons_succ, List.setIfInBounds_toArray, List.set_cons_zero, List.set_cons_succ]
    refine wpAnyH_take (i := 12) (v := ?_) rfl (by kernel_rfl) (by kernel_rfl) (by kernel_rfl) (fun _ _ _ h => h) (Or.inl ⟨by rfl, ?_⟩) hHeld ?_
    rotate_left
    · (intro wx hSw; obtain ⟨hx1, hx2⟩ := hSw; first | (go_simp; done) | (go_simp; with_reducible rfl))
    simp only [Act.put, List.getElem_toArray, List.getElem_cons_zero, List.getElem_cons_succ, List.setIfInBounds_toArray, List.set_cons_zero, List.set_cons_succ]
    refine wpAnyH_take (i := 13) (v := ?_) rfl (by kernel_rfl) (by kernel_rfl) (by kernel_rfl) (fun _ _ _ h => h) (Or.inl ⟨by rfl, ?_⟩) hHeld ?_
    rotate_left
    · (intro wx hSw; obtain ⟨hx1, hx2⟩ := hSw; first | (go_simp; done) | (go_simp; with_reducible rfl))
    simp only [Act.put, List.getElem_toArray, List.getElem_cons_zero, List.getElem_cons_succ, List.setIfInBounds_toArray, List.set_cons_zero, List.set_cons_succ]
    refine wpAnyH_take (i := 14) (v := ?_) rfl (by kernel_rfl) (by kernel_rfl) (by kernel_rfl) (fun _ _ _ h => h) (Or.inl ⟨by rfl, ?_⟩) hHeld ?_
    rotate_left
    · (intro wx hSw; obtain ⟨hx1, hx2⟩ := hSw; first | (go_simp; done) | (go_simp; with_reducible rfl))
    simp only [Act.put, List.getElem_toArray, List.getElem_cons_zero, List.getElem_cons_succ, List.setIfInBounds_toArray, List.set_cons_zero, List.set_cons_succ]
    refine wpAnyH_done (by kernel_rfl) ?_ _
    have HS1 := Lib.hid (Stay.of_below (G := G) HB1.out)
    by_cases hz : se = 0
    · subst hz
      have HE1 := Lib.hid (show wAppend a num lim rec sync = (if lim ≤ sz then (if (wGoOn a num).1 = 0 then ((wPut (wGoOn a num).2.1 (wGoOn a num).2.2 0 rec sync).1, (wPut (wGoOn a num).2.1 (wGoOn a num).2.2 0 rec sync).2, (wGoOn a num).2.2) else wGoOn a num) else ((wPut a num sz rec sync).1, (wPut a num sz rec sync).2, num)) by rw [HE.out]; exact if_pos rfl)
      have hlc := HL1.out.limc
      have hl1 := HL1.out.lt
      clear HE
      by_cases hlim : lim ≤ sz
      · have d2 : decide (lim ≤ sz) = true := by simpa using hlim
        have d3 : decide ((lim : Int) ≤ (sz : Int)) = true := by simp; omega
        have HGO := Lib.hid (goOn_any HL1.out h1 h2 HTOP.out)
        have HE2 := Lib.hid (show wAppend a num lim rec sync = (if (wGoOn a num).1 = 0 then ((wPut (wGoOn a num).2.1 (wGoOn a num).2.2 0 rec sync).1, (wPut (wGoOn a num).2.1 (wGoOn a num).2.2 0 rec sync).2, (wGoOn a num).2.2) else wGoOn a num) by rw [HE1.out]; exact if_pos hlim)
        have hgn := wGoOn_num a h2
        have HGT := Lib.hid (wGoOn_top a num)
        obtain ⟨g, hg⟩ : ∃ g, wGoOn a num = g := ⟨_, rfl⟩
        rw [hg] at HGO HE2 hgn HGT
        obtain ⟨z, ag, ng⟩ := g
        dsimp only at HE2 hgn HGT
        obtain ⟨hg1, hg2⟩ := hgn
        clear hg HE1
        go_wp2_with fail
        refine HGO.out.mono ?_
        rintro e W4 ⟨rfl, hl, hs⟩
        have HL4 := Lib.hid hl
        have HS4 := Lib.hid (HS1.out.trans hs)
        dsimp only at HL4 ⊢
        clear hl hs HGO hlc hl1
        by_cases hz : z = 0
        · subst hz
          have HE3 := Lib.hid (show wAppend a num lim rec sync = ((wPut ag ng 0 rec sync).1, (wPut ag ng 0 rec sync).2, ng) by rw [HE2.out]; exact if_pos rfl)
          have HT0 := HTOP
          have HTOP := Lib.hid (show ag.top < 1073741824 by have := HGT.out; have := HT0.out; omega)
          clear HE2 hlim
          have hbW := HS4.out.byt HR.out HG.out
          have HFr := Lib.hid (FR.Frame_any W4 0 (by omega) ad cap rec hbW HB.out (by rw [HLN.out]; exact hc) HNIL.out (by rw [HLN.out]; omega))
          obtain ⟨X, hX⟩ : ∃ X, FR.Frm.frameL 0 rec = X := ⟨_, rfl⟩
          have hXl := FR.Frm.frameL_len 0 rec
          have hXp := FR.Frm.frameL_pos 0 rec
          have HXB := Lib.hid (FR.Frm.frameL_byte (n := 0) HB.out)
          rw [hX] at hXl hXp HXB HFr
          have HX := Lib.hid hX
          obtain ⟨q, hq⟩ : ∃ q, X.length = q := ⟨_, rfl⟩
          rw [HLN.out] at HFr hXl
          have HTP := Lib.hid (show (ag).top < 1073741824 by have := HTOP.out; omega)
          clear hX hbW
          go_wp2_with fail
          refine HFr.out.mono ?_
          rintro e W5 ⟨v, rfl, ho, hb5⟩
          rw [hq] at ho
          have hbase : ∀ g, v.ownBlock = some g → W4.heap.size ≤ g := fun g hg => by
            rcases ho.2 with ⟨he, h0⟩ | ⟨g', cap', cur, he, hB, hg', _⟩
            · omega
            · rw [he] at hg; simp [Value.ownBlock] at hg; omega
          obtain ⟨ad2, cap2, rfl, hby, hno, hcap⟩ := byt_of_own ho
          obtain ⟨fb, fo, rfl, hfb5⟩ : ∃ b off, ad2 = some ⟨b, off, none⟩ ∧ b < W5.heap.size := by
            rcases hby with h | ⟨b, off, h, hlt, _⟩
            · rw [h] at hXp; simp at hXp
            · exact ⟨b, off, h, hlt⟩
          rw [hq]
          have HFB := Lib.hid (hbase fb rfl)
          have HBY := Lib.hid hby
          have HB5 := Lib.hid hb5
          have HL5 := Lib.hid (HL4.out.below hb5)
          have hlt5 := HL5.out.lt
          clear ho hbase hby hno hcap hb5 HFr
          go_wp2_with fail
          refine wp_region_held_drew (S := (fun w' => w'.cell? ⟨lb, 0, none⟩ = some (bp pb) ∧ w'.cell? ⟨lb, 1, none⟩ = some (.int .i64 (ng : Int)))) (by kernel_rfl) (HL5.out.drewN 1).cells (fun hHeld => ?_)
          refine wpAnyH_take (i := 0) (v := ?_) rfl (by kernel_rfl) (by kernel_rfl) (by kernel_rfl) (fun _ _ _ h => h) (Or.inl ⟨by rfl, ?_⟩) hHeld ?_
          rotate_left
          · (intro wx hSw; obtain ⟨hx1, hx2⟩ := hSw; first | (go_simp; done) | (go_simp; with_reducible rfl))
          simp only [Act.put, List.getElem_toArray, List.getElem_cons_zero, List.setIfInBounds_toArray, List.set_cons_zero, List.set_cons_succ]
          refine wpAnyH_take (i := 1) (v := ?_) rfl (by kernel_rfl) (by kernel_rfl) (by kernel_rfl) (fun _ _ _ h => h) (Or.inl ⟨by rfl, ?_⟩) hHeld ?_
          rotate_left
          · (intro wx hSw; obtain ⟨hx1, hx2⟩ := hSw; first | (go_simp; done) | (go_simp; with_reducible rfl))
          simp only [Act.put, List.getElem_toArray, List.getElem_cons_zero, List.getElem_cons_succ, List.setIfInBounds_toArray, List.set_cons_zero, List.set_cons_succ]
          refine wpAnyH_take (i := 2) (v := ?_) rfl (by kernel_rfl) (by kernel_rfl) (by kernel_rfl) (fun _ _ _ h => h) (Or.inl ⟨by rfl, ?_⟩) hHeld ?_
          rotate_left
          · (intro wx hSw; obtain ⟨hx1, hx2⟩ := hSw; first | (go_simp; done) | (go_simp; with_reducible rfl))
          simp only [Act.put, List.getElem_toArray, List.getElem_cons_zero, List.getElem_cons_succ, List.setIfInBounds_toArray, List.set_cons_zero, List.set_cons_succ]
          refine wpAnyH_take (i := 3) (v := ?_) rfl (by kernel_rfl) (by kernel_rfl) (by kernel_rfl) (fun _ _ _ h => h) (Or.inl ⟨by rfl, ?_⟩) hHeld ?_
          rotate_left
          · (intro wx hSw; obtain ⟨hx1, hx2⟩ := hSw; first | (go_simp; done) | (go_simp; with_reducible rfl))
          simp only [Act.put, List.getElem_toArray, List.getElem_cons_zero, List.getElem_cons_succ, List.setIfInBounds_toArray, List.set_cons_zero, List.set_cons_succ]
          refine wpAnyH_take (i := 4) (v := ?_) rfl (by kernel_rfl) (by kernel_rfl) (by kernel_rfl) (fun _ _ _ h => h) (Or.inl ⟨by rfl, ?_⟩) hHeld ?_
          rotate_left
          · (intro wx hSw; obtain ⟨hx1, hx2⟩ := hSw; first | (go_simp; done) | (go_simp; with_reducible rfl))
          simp only [Act.put, List.getElem_toArray, List.getElem_cons_zero, List.getElem_cons_succ, List.setIfInBounds_toArray, List.set_cons_zero, List.set_cons_succ]
          refine wpAnyH_take (i := 5) (v := ?_) rfl (by kernel_rfl) (by kernel_rfl) (by kernel_rfl) (fun _ _ _ h => h) (Or.inl ⟨by rfl, ?_⟩) hHeld ?_
          rotate_left
          · (intro wx hSw; obtain ⟨hx1, hx2⟩ := hSw; first | (go_simp; done) | (go_simp; with_reducible rfl))
          simp only [Act.put, List.getElem_toArray, List.getElem_cons_zero, List.getElem_cons_succ, List.setIfInBounds_toArray, List.set_cons_zero, List.set_cons_succ]
          refine wpAnyH_take (i := 6) (v := ?_) rfl (by kernel_rfl) (by kernel_rfl) (by kernel_rfl) (fun _ _ _ h => h) (Or.inl ⟨by rfl, ?_⟩) hHeld ?_
          rotate_left
          · (intro wx hSw; obtain ⟨hx1, hx2⟩ := hSw; first | (go_simp; done) | (go_simp; with_reducible rfl))
          simp only [Act.put, List.getElem_toArray, List.getElem_cons_zero, List.getElem_cons_succ, List.setIfInBounds_toArray, List.set_cons_zero, List.set_cons_succ]
          refine wpAnyH_take (i := 7) (v := ?_) rfl (by kernel_rfl) (by kernel_rfl) (by kernel_rfl) (fun _ _ _ h => h) (Or.inl ⟨by rfl, ?_⟩) hHeld ?_
          rotate_left
          · (intro wx hSw; obtain ⟨hx1, hx2⟩ := hSw; first | (go_simp; done) | (go_simp; with_reducible rfl))
          simp only [Act.put, List.getElem_toArray, List.getElem_cons_zero, List.getElem_cons_succ, List.setIfInBounds_toArray, List.set_cons_zero, List.set_cons_succ]
          refine wpAnyH_take (i := 9) (v := ?_) rfl (by kernel_rfl) (by kernel_rfl) (by kernel_rfl) (fun _ _ _ h => h) (Or.inl ⟨by rfl, ?_⟩) hHeld ?_
          rotate_left
          · (intro wx hSw; obtain ⟨hx1, hx2⟩ := hSw; first | (go_simp; done) | (go_simp; with_reducible rfl))
          simp only [Act.put, List.getElem_toArray, List.getElem_cons_zero, List.getElem_cons_succ, List.setIfInBounds_toArray, List.set_cons_zero, List.set_cons_succ]
          refine wpAnyH_ready (rs := [8]) (by kernel_rfl) (by simp) ?_
          refine AllReadyH.cons rfl (fun K hK => ?_) AllReadyH.nil
          go_simp
          refine (Name_any (ng : Int) ⟨by omega, by omega⟩ _ ((HL5.out.drewN 1).vg).vars).mono ?_
          rintro e W6 ⟨rfl, hb6⟩
          have HB6 := Lib.hid (show Below W5.heap.size W5 W6 from (below_drewN _ _ 1).trans hb6)
          have HL6 := Lib.hid (HL5.out.below HB6.out)
          rw [wName_in (by omega) (by omega)]
          have HAP := Lib.hid (fx_append_in (c := cap2) HL4.out.fx (strB (wnm (ng))) HTP.out (HB5.out.trans (HB6.out.mono HB5.out.size)) (HBY.out.keep HB6.out) ⟨HFB.out, Nat.lt_of_lt_of_le hfb5 HB6.out.size⟩ hq HXB.out (by omega))
          rw [strB_list] at HAP
          clear hb6
          try go_wp2_with fail
          refine hK.out _ _ (HL6.out.cells) (fun hHeld => ?_)
          clear hK K
          try simp only [Act.put, List.setIfInBounds_toArray, List.set_cons_zero, List.set_cons_succ]
          refine wpAnyH_ready (rs := [10]) (by kernel_rfl) (by simp) ?_
          refine AllReadyH.cons rfl (fun K hK => ?_) AllReadyH.nil
          go_simp
          refine HAP.out.mono ?_
          rintro e W7 ⟨rfl, hF, hS⟩
          have HL7 := Lib.hid (HL4.out.next hF hS)
          have HS7 := Lib.hid (HS4.out.trans (hS.mono fun _ hk => .inl hk))
          clear hF hS HAP
          try go_wp2_with fail
          refine hK.out _ _ (HL7.out.cells) (fun hHeld => ?_)
          clear hK K
          try simp only [Act.put, List.setIfInBounds_toArray, List.set_cons_zero, List.set_cons_succ]
          refine wpAnyH_take (i := 11) (v := ?_) rfl (by kernel_rfl) (by kernel_rfl) (by kernel_rfl) (fun _ _ _ h => h) (Or.inl ⟨by rfl, ?_⟩) hHeld ?_
          rotate_left
          · (intro wx hSw; obtain ⟨hx1, hx2⟩ := hSw; first | (go_simp; done) | (go_simp; with_reducible rfl))
          simp only [Act.put, List.getElem_toArray, List.getElem_cons_zero, List.getElem_cons_succ, List.setIfInBounds_toArray, List.set_cons_zero, List.set_cons_succ]
          refine wpAnyH_done (by kernel_rfl) ?_ _
          have HW : Hid (wPut (ag) (ng) 0 rec sync = if (((ag).append (wnm (ng)) X).1 = 0 ∧ sync = true) then ((ag).append (wnm (ng)) X).2.sync (wnm (ng)) else (ag).append (wnm (ng)) X) := Lib.hid (by unfold wPut; rw [HX.out])
          obtain ⟨r, hr⟩ : ∃ r, (ag).append (wnm (ng)) X = r := ⟨_, rfl⟩
          rw [hr] at HW HL7 ⊢
          obtain ⟨z, a7⟩ := r
          dsimp only at HW HL7 ⊢
          clear hr
          by_cases hz : z = 0
          · subst hz
            cases sync with
            | false =>
              have HE2 := Lib.hid (show wAppend a num lim rec false = (0, a7, ng) by rw [HE3.out, HW.out]; simp)
              clear HW HE3 HBY HFB HB5
              go_wp2
              go_ret
              rw [HE2.out]
              exact ⟨rfl, HL7.out, HS7.out⟩
            | true =>
              have HE2 := Lib.hid (show wAppend a num lim rec true = ((a7.sync (wnm (ng))).1, (a7.sync (wnm (ng))).2, ng) by rw [HE3.out, HW.out]; simp)
              have HY := Lib.hid (wSync_any HL7.out (by omega) (by omega))
              clear HW HE3 HBY HFB HB5
              go_wp2_with fail
              refine HY.out.mono ?_
              rintro e W8 ⟨rfl, hl, hs⟩
              have HL8 := Lib.hid hl
              have HS8 := Lib.hid (HS7.out.trans hs)
              clear hl hs HY
              go_wp2
              go_ret
              rw [HE2.out]
              exact ⟨rfl, HL8.out, HS8.out⟩
          · have hz1 : (z == 0) = false := by simpa using hz
            have HE2 := Lib.hid (show wAppend a num lim rec sync = (z, a7, ng) by rw [HE3.out, HW.out]; simp [hz])
            clear HW HE3 HBY HFB HB5
            go_wp2
            go_ret
            rw [HE2.out]
            exact ⟨rfl, HL7.out, HS7.out⟩
        · have hz1 : (z == 0) = false := by simpa using hz
          have HE3 := Lib.hid (show wAppend a num lim rec sync = (z, ag, ng) by rw [HE2.out]; exact if_neg hz)
          clear HE2 hlim
          go_wp2
          go_ret
          rw [HE3.out]
          exact ⟨rfl, HL4.out, HS4.out⟩
      · have d2 : decide (lim ≤ sz) = false := by simpa using hlim
        have d3 : decide ((lim : Int) ≤ (sz : Int)) = false := by simp; omega
        have HE3 := Lib.hid (show wAppend a num lim rec sync = ((wPut a num sz rec sync).1, (wPut a num sz rec sync).2, num) by rw [HE1.out]; exact if_neg hlim)
        clear HE1 hlim
        have hbW := HS1.out.byt HR.out HG.out
        have HFr := Lib.hid (FR.Frame_any W1 sz (by omega) ad cap rec hbW HB.out (by rw [HLN.out]; exact hc) HNIL.out (by rw [HLN.out]; omega))
        obtain ⟨X, hX⟩ : ∃ X, FR.Frm.frameL sz rec = X := ⟨_, rfl⟩
        have hXl := FR.Frm.frameL_len sz rec
        have hXp := FR.Frm.frameL_pos sz rec
        have HXB := Lib.hid (FR.Frm.frameL_byte (n := sz) HB.out)
        rw [hX] at hXl hXp HXB HFr
        have HX := Lib.hid hX
        obtain ⟨q, hq⟩ : ∃ q, X.length = q := ⟨_, rfl⟩
        rw [HLN.out] at HFr hXl
        have HTP := Lib.hid (show (a).top < 1073741824 by have := HTOP.out; omega)
        clear hX hbW
        go_wp2_with fail
        refine HFr.out.mono ?_
        rintro e W5 ⟨v, rfl, ho, hb5⟩
        rw [hq] at ho
        have hbase : ∀ g, v.ownBlock = some g → W1.heap.size ≤ g := fun g hg => by
          rcases ho.2 with ⟨he, h0⟩ | ⟨g', cap', cur, he, hB, hg', _⟩
          · omega
          · rw [he] at hg; simp [Value.ownBlock] at hg; omega
        obtain ⟨ad2, cap2, rfl, hby, hno, hcap⟩ := byt_of_own ho
        obtain ⟨fb, fo, rfl, hfb5⟩ : ∃ b off, ad2 = some ⟨b, off, none⟩ ∧ b < W5.heap.size := by
          rcases hby with h | ⟨b, off, h, hlt, _⟩
          · rw [h] at hXp; simp at hXp
          · exact ⟨b, off, h, hlt⟩
        rw [hq]
        have HFB := Lib.hid (hbase fb rfl)
        have HBY := Lib.hid hby
        have HB5 := Lib.hid hb5
        have HL5 := Lib.hid (HL1.out.below hb5)
        have hlt5 := HL5.out.lt
        clear ho hbase hby hno hcap hb5 HFr
        go_wp2_with fail
        refine wp_region_held_drew (S := (fun w' => w'.cell? ⟨lb, 0, none⟩ = some (bp pb) ∧ w'.cell? ⟨lb, 1, none⟩ = some (.int .i64 (num : Int)))) (by kernel_rfl) (HL5.out.drewN 1).cells (fun hHeld => ?_)
        refine wpAnyH_take (i := 0) (v := ?_) rfl (by kernel_rfl) (by kernel_rfl) (by kernel_rfl) (fun _ _ _ h => h) (Or.inl ⟨by rfl, ?_⟩) hHeld ?_
        rotate_left
        · (intro wx hSw; obtain ⟨hx1, hx2⟩ := hSw; first | (go_simp; done) | (go_simp; with_reducible rfl))
        simp only [Act.put, List.getElem_toArray, List.getElem_cons_zero, List.setIfInBounds_toArray, List.set_cons_zero, List.set_cons_succ]
        refine wpAnyH_take (i := 1) (v := ?_) rfl (by kernel_rfl) (by kernel_rfl) (by kernel_rfl) (fun _ _ _ h => h) (Or.inl ⟨by rfl, ?_⟩) hHeld ?_
        rotate_left
        · (intro wx hSw; obtain ⟨hx1, hx2⟩ := hSw; first | (go_simp; done) | (go_simp; with_reducible rfl))
        simp only [Act.put, List.getElem_toArray, List.getElem_cons_zero, List.getElem_cons_succ, List.setIfInBounds_toArray, List.set_cons_zero, List.set_cons_succ]
        refine wpAnyH_take (i := 2) (v := ?_) rfl (by kernel_rfl) (by kernel_rfl) (by kernel_rfl) (fun _ _ _ h => h) (Or.inl ⟨by rfl, ?_⟩) hHeld ?_
        rotate_left
        · (intro wx hSw; obtain ⟨hx1, hx2⟩ := hSw; first | (go_simp; done) | (go_simp; with_reducible rfl))
        simp only [Act.put, List.getElem_toArray, List.getElem_cons_zero, List.getElem_cons_succ, List.setIfInBounds_toArray, List.set_cons_zero, List.set_cons_succ]
        refine wpAnyH_take (i := 3) (v := ?_) rfl (by kernel_rfl) (by kernel_rfl) (by kernel_rfl) (fun _ _ _ h => h) (Or.inl ⟨by rfl, ?_⟩) hHeld ?_
        rotate_left
        · (intro wx hSw; obtain ⟨hx1, hx2⟩ := hSw; first | (go_simp; done) | (go_simp; with_reducible rfl))
        simp only [Act.put, List.getElem_toArray, List.getElem_cons_zero, List.getElem_cons_succ, List.setIfInBounds_toArray, List.set_cons_zero, List.set_cons_succ]
        refine wpAnyH_take (i := 4) (v := ?_) rfl (by kernel_rfl) (by kernel_rfl) (by kernel_rfl) (fun _ _ _ h => h) (Or.inl ⟨by rfl, ?_⟩) hHeld ?_
        rotate_left
        · (intro wx hSw; obtain ⟨hx1, hx2⟩ := hSw; first | (go_simp; done) | (go_simp; with_reducible rfl))
        simp only [Act.put, List.getElem_toArray, List.getElem_cons_zero, List.getElem_cons_succ, List.setIfInBounds_toArray, List.set_cons_zero, List.set_cons_succ]
        refine wpAnyH_take (i := 5) (v := ?_) rfl (by kernel_rfl) (by kernel_rfl) (by kernel_rfl) (fun _ _ _ h => h) (Or.inl ⟨by rfl, ?_⟩) hHeld ?_
        rotate_left
        · (intro wx hSw; obtain ⟨hx1, hx2⟩ := hSw; first | (go_simp; done) | (go_simp; with_reducible rfl))
        simp only [Act.put, List.getElem_toArray, List.getElem_cons_zero, List.getElem_cons_succ, List.setIfInBounds_toArray, List.set_cons_zero, List.set_cons_succ]
        refine wpAnyH_take (i := 6) (v := ?_) rfl (by kernel_rfl) (by kernel_rfl) (by kernel_rfl) (fun _ _ _ h => h) (Or.inl ⟨by rfl, ?_⟩) hHeld ?_
        rotate_left
        · (intro wx hSw; obtain ⟨hx1, hx2⟩ := hSw; first | (go_simp; done) | (go_simp; with_reducible rfl))
        simp only [Act.put, List.getElem_toArray, List.getElem_cons_zero, List.getElem_cons_succ, List.setIfInBounds_toArray, List.set_cons_zero, List.set_cons_succ]
        refine wpAnyH_take (i := 7) (v := ?_) rfl (by kernel_rfl) (by kernel_rfl) (by kernel_rfl) (fun _ _ _ h => h) (Or.inl ⟨by rfl, ?_⟩) hHeld ?_
        rotate_left
        · (intro wx hSw; obtain ⟨hx1, hx2⟩ := hSw; first | (go_simp; done) | (go_simp; with_reducible rfl))
        simp only [Act.put, List.getElem_toArray, List.getElem_cons_zero, List.getElem_cons_succ, List.setIfInBounds_toArray, List.set_cons_zero, List.set_cons_succ]
        refine wpAnyH_take (i := 9) (v := ?_) rfl (by kernel_rfl) (by kernel_rfl) (by kernel_rfl) (fun _ _ _ h => h) (Or.inl ⟨by rfl, ?_⟩) hHeld ?_
        rotate_left
        · (intro wx hSw; obtain ⟨hx1, hx2⟩ := hSw; first | (go_simp; done) | (go_simp; with_reducible rfl))
        simp only [Act.put, List.getElem_toArray, List.getElem_cons_zero, List.getElem_cons_succ, List.setIfInBounds_toArray, List.set_cons_zero, List.set_cons_succ]
        refine wpAnyH_ready (rs := [8]) (by kernel_rfl) (by simp) ?_
        refine AllReadyH.cons rfl (fun K hK => ?_) AllReadyH.nil
        go_simp
        refine (Name_any (num : Int) ⟨by omega, by omega⟩ _ ((HL5.out.drewN 1).vg).vars).mono ?_
        rintro e W6 ⟨rfl, hb6⟩
        have HB6 := Lib.hid (show Below W5.heap.size W5 W6 from (below_drewN _ _ 1).trans hb6)
        have HL6 := Lib.hid (HL5.out.below HB6.out)
        rw [wName_in (by omega) (by omega)]
        have HAP := Lib.hid (fx_append_in (c := cap2) HL1.out.fx (strB (wnm (num))) HTP.out (HB5.out.trans (HB6.out.mono HB5.out.size)) (HBY.out.keep HB6.out) ⟨HFB.out, Nat.lt_of_lt_of_le hfb5 HB6.out.size⟩ hq HXB.out (by omega))
        rw [strB_list] at HAP
        clear hb6
        try go_wp2_with fail
        refine hK.out _ _ (HL6.out.cells) (fun hHeld => ?_)
        clear hK K
        try simp only [Act.put, List.setIfInBounds_toArray, List.set_cons_zero, List.set_cons_succ]
        refine wpAnyH_ready (rs := [10]) (by kernel_rfl) (by simp) ?_
        refine AllReadyH.cons rfl (fun K hK => ?_) AllReadyH.nil
        go_simp
        refine HAP.out.mono ?_
        rintro e W7 ⟨rfl, hF, hS⟩
        have HL7 := Lib.hid (HL1.out.next hF hS)
        have HS7 := Lib.hid (HS1.out.trans (hS.mono fun _ hk => .inl hk))
        clear hF hS HAP
        try go_wp2_with fail
        refine hK.out _ _ (HL7.out.cells) (fun hHeld => ?_)
        clear hK K
        try simp only [Act.put, List.setIfInBounds_toArray, List.set_cons_zero, List.set_cons_succ]
        refine wpAnyH_take (i := 11) (v := ?_) rfl (by kernel_rfl) (by kernel_rfl) (by kernel_rfl) (fun _ _ _ h => h) (Or.inl ⟨by rfl, ?_⟩) hHeld ?_
        rotate_left
        · (intro wx hSw; obtain ⟨hx1, hx2⟩ := hSw; first | (go_simp; done) | (go_simp; with_reducible rfl))
        simp only [Act.put, List.getElem_toArray, List.getElem_cons_zero, List.getElem_cons_succ, List.setIfInBounds_toArray, List.set_cons_zero, List.set_cons_succ]
        refine wpAnyH_done (by kernel_rfl) ?_ _
        have HW : Hid (wPut (a) (num) sz rec sync = if (((a).append (wnm (num)) X).1 = 0 ∧ sync = true) then ((a).append (wnm (num)) X).2.sync (wnm (num)) else (a).append (wnm (num)) X) := Lib.hid (by unfold wPut; rw [HX.out])
        obtain ⟨r, hr⟩ : ∃ r, (a).append (wnm (num)) X = r := ⟨_, rfl⟩
        rw [hr] at HW HL7 ⊢
        obtain ⟨z, a7⟩ := r
        dsimp only at HW HL7 ⊢
        clear hr
        by_cases hz : z = 0
        · subst hz
          cases sync with
          | false =>
            have HE2 := Lib.hid (show wAppend a num lim rec false = (0, a7, num) by rw [HE3.out, HW.out]; simp)
            clear HW HE3 HBY HFB HB5
            go_wp2
            go_ret
            rw [HE2.out]
            exact ⟨rfl, HL7.out, HS7.out⟩
          | true =>
            have HE2 := Lib.hid (show wAppend a num lim rec true = ((a7.sync (wnm (num))).1, (a7.sync (wnm (num))).2, num) by rw [HE3.out, HW.out]; simp)
            have HY := Lib.hid (wSync_any HL7.out (by omega) (by omega))
            clear HW HE3 HBY HFB HB5
            go_wp2_with fail
            refine HY.out.mono ?_
            rintro e W8 ⟨rfl, hl, hs⟩
            have HL8 := Lib.hid hl
            have HS8 := Lib.hid (HS7.out.trans hs)
            clear hl hs HY
            go_wp2
            go_ret
            rw [HE2.out]
            exact ⟨rfl, HL8.out, HS8.out⟩
        · have hz1 : (z == 0) = false := by simpa using hz
          have HE2 := Lib.hid (show wAppend a num lim rec sync = (z, a7, num) by rw [HE3.out, HW.out]; simp [hz])
          clear HW HE3 HBY HFB HB5
          go_wp2
          go_ret
          rw [HE2.out]
          exact ⟨rfl, HL7.out, HS7.out⟩
    · have hz1 : (se == 0) = false := by simpa using hz
      have HE1 := Lib.hid (show wAppend a num lim rec sync = (se, a, num) by rw [HE.out]; exact if_neg hz)
      clear HE
      go_wp2
      go_ret
      rw [HE1.out]
      exact ⟨rfl, HL1.out, HS1.out⟩
end Go.Proofs.YtadnecgcoceklaaGreatDoor
