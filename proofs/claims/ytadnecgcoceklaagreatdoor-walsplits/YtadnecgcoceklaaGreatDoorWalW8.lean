/-
  Drop, walked.
-/
import Derived.Test.YtadnecgcoceklaaGreatDoorWalW7
namespace Go.Proofs.YtadnecgcoceklaaGreatDoor
open Go.RowKit Go.Maps

def DropAns (G : Nat → Prop) (w : World) (pb : Nat) (r : Int × A × Nat) (e : Ending) (w' : World) : Prop :=
  e = .returned (.tuple #[.int .i64 (r.2.2 : Int), .int .i64 r.1]) ∧ Fx G w' pb r.2.1 ∧ Stay G w w'
theorem nums_in {l : List Bs} (hl : [] ∉ l) {n : Nat} (h : n ∈ wNums l) : 1 ≤ n ∧ n ≤ 999999 := by
  unfold wNums at h
  obtain ⟨s, hs, hn⟩ := List.mem_filterMap.1 h
  obtain ⟨_, e2, e3⟩ := numOf_some hn (fun e => hl (by rw [← e]; exact hs))
  exact ⟨e2, e3⟩
theorem numOf_nil : numOf [] = none := by simp [numOf, Lib.trimSuffix, Lib.hasSuffix, dotLog, Lib.atoiAll]
theorem nums_in' {l : List Bs} {n : Nat} (h : n ∈ wNums l) : 1 ≤ n ∧ n ≤ 999999 := by
  unfold wNums at h
  obtain ⟨s, hs, hn⟩ := List.mem_filterMap.1 h
  obtain ⟨_, e2, e3⟩ := numOf_some hn (fun e => by rw [e, numOf_nil] at hn; cases hn)
  exact ⟨e2, e3⟩
set_option maxRecDepth 100000 in
set_option maxHeartbeats 4000000 in
theorem Drop_any {G : Nat → Prop} {w : World} {pb : Nat} {a : A} (h : Fx G w pb a) (hv : VG G w) (ht : 2 * a.top < 1073741824) (below : Int) :
    Calls Tryz.prog 23 #[bp pb, .int .i64 below] w (DropAns G w pb (wDrop a below)) := by
  have HNU := Lib.hid (Numbers_any h hv (by omega))
  have HF := Lib.hid h
  have HV := Lib.hid hv
  have hN30 : (wNums a.list).length ≤ a.top := by
    have h1 : (wNums a.list).length ≤ a.list.length := List.length_filterMap_le _ _
    have h2 : a.list.length ≤ a.now.length := by
      unfold A.list; split
      · exact Nat.zero_le _
      · rw [List.length_map]; exact Nat.le_refl _
    have : a.now.length ≤ a.top := Nat.le_max_left _ _
    omega
  have HIN := Lib.hid (fun n hn => nums_in' (l := a.list) (n := n) hn)
  have HD : Hid (wDrop a below = _) := Lib.hid (show wDrop a below = _ by unfold wDrop; rfl)
  obtain ⟨N, hN⟩ : ∃ N, wNums a.list = N := ⟨_, rfl⟩
  obtain ⟨E, hE⟩ : ∃ E, a.listE = E := ⟨_, rfl⟩
  rw [hN, hE] at HNU HD
  rw [hN] at HIN hN30
  obtain ⟨n, hn⟩ : ∃ n, N.length = n := ⟨_, rfl⟩
  rw [hn] at hN30
  have HLN := Lib.hid hn
  have HT := Lib.hid ht
  have hn30 : n < 1073741824 := by omega
  clear h hv ht hN hE
  go_enter Tryz.func23, Tryz.ntmps23
  go_wp2_with fail
  refine HNU.out.mono ?_
  rintro e W1 ⟨ad, cap, rfl, hrow, hbel⟩
  rw [hn] at hrow ⊢
  clear hn
  have HS1 := Lib.hid (Stay.of_below (G := G) hbel)
  have HF1 := Lib.hid (HF.out.grown hbel)
  have HV1 := Lib.hid ((HV.out.below hbel).mono (G' := fun k => G k ∨ (w.heap.size ≤ k ∧ k < W1.heap.size)) fun k hk => .inl hk)
  have HCELL : Hid (∀ i q : Nat, N[i]? = some q → ∃ b, ad = some ⟨b, 0, none⟩ ∧ w.heap.size ≤ b ∧ b < W1.heap.size ∧ W1.cell? ⟨b, i, none⟩ = some (.int .i64 (q : Int))) := Lib.hid fun i q hq => by
    have hc := fun g hg => World.ownsRow.cells hrow (g := g) hg
    have hx : (i64s (natI N))[i]? = some (.int .i64 (q : Int)) := by simp [i64s, natI, hq]
    have hlt : i < n := by
      have := (List.getElem?_eq_some_iff.1 hq).1
      rw [HLN.out] at this; exact this
    rcases hrow.2 with ⟨he, h0⟩ | ⟨g, cap', cur, he, hB, hg, h1, _⟩
    · omega
    · cases he
      have := hc g rfl i _ hx
      rw [addr_add, Nat.zero_add] at this
      exact ⟨g, rfl, hB, (Array.getElem?_eq_some_iff.1 hg).1, this⟩
  clear hrow hbel HNU
  by_cases hz : E = 0
  · subst hz
    replace HD := Lib.hid (show wDrop a below = (if (wDropL a N below 0).1 = 0 then (if (wDropL a N below 0).2.2 = 0 then (0, (wDropL a N below 0).2.1, 0) else if (wDropL a N below 0).2.1.syncDir.1 = 0 then (0, (wDropL a N below 0).2.1.syncDir.2, (wDropL a N below 0).2.2) else ((wDropL a N below 0).2.1.syncDir.1, (wDropL a N below 0).2.1.syncDir.2, 0)) else ((wDropL a N below 0).1, (wDropL a N below 0).2.1, 0)) by rw [HD.out]; exact if_pos (by trivial))
    go_wp2_with fail
    go_loopw [8, 23] (fun u8 u23 wr => ∃ (i : Nat) (ai : A), u8 = .int .i64 i ∧ u23 = .int .i64 i ∧ i ≤ n ∧ Fx (fun k => G k ∨ (w.heap.size ≤ k ∧ k < W1.heap.size)) wr pb ai ∧ Stay (fun k => G k ∨ (w.heap.size ≤ k ∧ k < W1.heap.size)) W1 wr ∧ ai.top ≤ a.top + i ∧ wDropL a N below 0 = wDropL ai (N.drop i) below i) (fun _ u23 _ => n - (intOf u23).toNat)
    case atStart => exact ⟨0, a, rfl, rfl, Nat.zero_le _, HF1.out, Stay.refl _ _, by omega, rfl⟩
    case round =>
      obtain ⟨i, ai, rfl, rfl, hin, hF, hS, htop, hdr⟩ := hrel
      have HFr := Lib.hid hF
      have HSr := Lib.hid hS
      have HTO := Lib.hid htop
      have HDR := Lib.hid hdr
      have hws := hS.size
      clear hF hS htop hdr
      by_cases hlt : i < n
      · obtain ⟨q, hq⟩ : ∃ q, N[i]? = some q := ⟨_, List.getElem?_eq_getElem (by rw [HLN.out]; exact hlt)⟩
        obtain ⟨b, rfl, hb0, hbl, hc⟩ := HCELL.out i q hq
        have hcr : wr.cell? ⟨b, i, none⟩ = some (.int .i64 (q : Int)) := (World.cell?_of_block (a := ⟨b, i, none⟩) (HSr.out.block b hbl (.inr ⟨hb0, hbl⟩))).trans hc
        have hblr : b < wr.heap.size := Nat.lt_of_lt_of_le hbl hws
        obtain ⟨hq1, hq2⟩ := HIN.out q (List.mem_of_getElem? hq)
        have HDC := Lib.hid (show N.drop i = q :: N.drop (i + 1) by
          have hl : i < N.length := by rw [HLN.out]; exact hlt
          rw [List.drop_eq_getElem_cons hl]
          congr 1
          rw [List.getElem?_eq_getElem hl] at hq
          exact Option.some.inj hq)
        clear hc hq
        by_cases hge : below ≤ (q : Int)
        · have d1 : decide (below ≤ (q : Int)) = true := by simpa using hge
          have HZ := Lib.hid (show wDropL a N below 0 = (0, ai, i) by rw [HDR.out, HDC.out]; unfold wDropL; exact if_pos hge)
          clear HDR HDC hge
          have HD0 := Lib.hid (show wDrop a below = (if (wDropL a N below 0).1 = 0 then (if (wDropL a N below 0).2.2 = 0 then (0, (wDropL a N below 0).2.1, 0) else if (wDropL a N below 0).2.1.syncDir.1 = 0 then (0, (wDropL a N below 0).2.1.syncDir.2, (wDropL a N below 0).2.2) else ((wDropL a N below 0).2.1.syncDir.1, (wDropL a N below 0).2.1.syncDir.2, 0)) else ((wDropL a N below 0).1, (wDropL a N below 0).2.1, 0)) from HD.out)
          rw [HZ.out] at HD0
          by_cases hi0 : i = 0
          · subst hi0
            have HD1 := Lib.hid (show wDrop a below = (0, ai, 0) by rw [HD0.out]; simp)
            clear HD0 HZ
            go_wp2
            go_ret2
            rw [HD1.out]
            exact ⟨rfl, HFr.out.mono (fun k hk => .inl hk), HS1.out.trans (HSr.out.mono fun k hk => .inl hk)⟩
          · have hi1 : ((i : Int) == 0) = false := by simp; omega
            have HSD := Lib.hid (fx_syncDir HFr.out)
            obtain ⟨r, hr⟩ : ∃ r, ai.syncDir = r := ⟨_, rfl⟩
            have HD1 := Lib.hid (show wDrop a below = (if r.1 = 0 then (0, r.2, i) else (r.1, r.2, 0)) by rw [HD0.out, ← hr]; simp [hi0])
            rw [hr] at HSD
            obtain ⟨z, ar⟩ := r
            clear HD0 HZ hr
            go_wp2_with fail
            refine HSD.out.mono ?_
            rintro e W8 ⟨rfl, hF8, hS8⟩
            have HF8 := Lib.hid hF8
            have HS8 := Lib.hid (HSr.out.trans hS8)
            dsimp only at HD1 HF8 ⊢
            clear hF8 hS8 HSD
            by_cases hz : z = 0
            · subst hz
              have HD2 := Lib.hid (show wDrop a below = (0, ar, i) by rw [HD1.out]; exact if_pos rfl)
              clear HD1
              go_wp2
              go_ret2
              rw [HD2.out]
              exact ⟨rfl, HF8.out.mono (fun k hk => .inl hk), HS1.out.trans (HS8.out.mono fun k hk => .inl hk)⟩
            · have hz1 : (z == 0) = false := by simpa using hz
              have HD2 := Lib.hid (show wDrop a below = (z, ar, 0) by rw [HD1.out]; exact if_neg hz)
              clear HD1
              go_wp2
              go_ret2
              rw [HD2.out]
              exact ⟨rfl, HF8.out.mono (fun k hk => .inl hk), HS1.out.trans (HS8.out.mono fun k hk => .inl hk)⟩
        · have d1 : decide (below ≤ (q : Int)) = false := by simpa using hge
          have HNA := Lib.hid (Name_any (q : Int) ⟨by omega, by omega⟩ wr (HV1.out.stay HSr.out).vars)
          rw [wName_in hq1 hq2] at HNA
          go_wp2_with fail
          refine HNA.out.mono ?_
          rintro e W3 ⟨rfl, hb3⟩
          have HRM := Lib.hid (fx_remove (HFr.out.below hb3) (strB (wnm q)) (by have := HTO.out; have := HT.out; omega))
          rw [strB_list] at HRM
          have HS3 := Lib.hid (HSr.out.trans (Stay.of_below hb3))
          have htp := remove_top ai (wnm q)
          obtain ⟨r, hr⟩ : ∃ r, ai.remove (wnm q) = r := ⟨_, rfl⟩
          have HZ := Lib.hid (show wDropL a N below 0 = (if r.1 = 0 then wDropL r.2 (N.drop (i + 1)) below (i + 1) else (r.1, r.2, i)) by
            rw [HDR.out, HDC.out, wDropL, if_neg (by omega), hr])
          rw [hr] at HRM htp
          have HTP := Lib.hid htp
          obtain ⟨z, ar⟩ := r
          clear hb3 HNA hr htp HDR HDC hge
          go_wp2_with fail
          refine HRM.out.mono ?_
          rintro e W4 ⟨rfl, hF4, hS4⟩
          have HF4 := Lib.hid hF4
          have HS4 := Lib.hid (HS3.out.trans hS4)
          dsimp only at HZ HF4 HTP ⊢
          clear hF4 hS4 HRM
          by_cases hz : z = 0
          · subst hz
            have HZ2 := Lib.hid (show wDropL a N below 0 = wDropL ar (N.drop (i + 1)) below (i + 1) by rw [HZ.out]; exact if_pos rfl)
            clear HZ
            go_wp2
            go_roundw
            case rel => exact ⟨i + 1, ar, by go_num, by go_num, by omega, HF4.out, HS4.out, by have := HTO.out; have := HTP.out; omega, HZ2.out⟩
            case measure => simp [intOf]; omega
          · have hz1 : (z == 0) = false := by simpa using hz
            have HZ2 := Lib.hid (show wDropL a N below 0 = (z, ar, i) by rw [HZ.out]; exact if_neg hz)
            have HD1 := Lib.hid (show wDrop a below = (z, ar, 0) by rw [HD.out, HZ2.out]; exact if_neg hz)
            clear HZ HZ2
            go_wp2
            go_ret2
            rw [HD1.out]
            exact ⟨rfl, HF4.out.mono (fun k hk => .inl hk), HS1.out.trans (HS4.out.mono fun k hk => .inl hk)⟩
      · obtain rfl : i = n := by omega
        have HZ := Lib.hid (show wDropL a N below 0 = (0, ai, i) by rw [HDR.out, List.drop_of_length_le (by rw [HLN.out]; exact Nat.le_refl _)]; rfl)
        clear HDR
        have HD0 := Lib.hid (show wDrop a below = (if (wDropL a N below 0).1 = 0 then (if (wDropL a N below 0).2.2 = 0 then (0, (wDropL a N below 0).2.1, 0) else if (wDropL a N below 0).2.1.syncDir.1 = 0 then (0, (wDropL a N below 0).2.1.syncDir.2, (wDropL a N below 0).2.2) else ((wDropL a N below 0).2.1.syncDir.1, (wDropL a N below 0).2.1.syncDir.2, 0)) else ((wDropL a N below 0).1, (wDropL a N below 0).2.1, 0)) from HD.out)
        rw [HZ.out] at HD0
        by_cases hi0 : i = 0
        · subst hi0
          have HD1 := Lib.hid (show wDrop a below = (0, ai, 0) by rw [HD0.out]; simp)
          clear HD0 HZ
          go_wp2
          go_ret2
          rw [HD1.out]
          exact ⟨rfl, HFr.out.mono (fun k hk => .inl hk), HS1.out.trans (HSr.out.mono fun k hk => .inl hk)⟩
        · have hi1 : ((i : Int) == 0) = false := by simp; omega
          have HSD := Lib.hid (fx_syncDir HFr.out)
          obtain ⟨r, hr⟩ : ∃ r, ai.syncDir = r := ⟨_, rfl⟩
          have HD1 := Lib.hid (show wDrop a below = (if r.1 = 0 then (0, r.2, i) else (r.1, r.2, 0)) by rw [HD0.out, ← hr]; simp [hi0])
          rw [hr] at HSD
          obtain ⟨z, ar⟩ := r
          clear HD0 HZ hr
          go_wp2_with fail
          refine HSD.out.mono ?_
          rintro e W8 ⟨rfl, hF8, hS8⟩
          have HF8 := Lib.hid hF8
          have HS8 := Lib.hid (HSr.out.trans hS8)
          dsimp only at HD1 HF8 ⊢
          clear hF8 hS8 HSD
          by_cases hz : z = 0
          · subst hz
            have HD2 := Lib.hid (show wDrop a below = (0, ar, i) by rw [HD1.out]; exact if_pos rfl)
            clear HD1
            go_wp2
            go_ret2
            rw [HD2.out]
            exact ⟨rfl, HF8.out.mono (fun k hk => .inl hk), HS1.out.trans (HS8.out.mono fun k hk => .inl hk)⟩
          · have hz1 : (z == 0) = false := by simpa using hz
            have HD2 := Lib.hid (show wDrop a below = (z, ar, 0) by rw [HD1.out]; exact if_neg hz)
            clear HD1
            go_wp2
            go_ret2
            rw [HD2.out]
            exact ⟨rfl, HF8.out.mono (fun k hk => .inl hk), HS1.out.trans (HS8.out.mono fun k hk => .inl hk)⟩
  · have hz1 : (E == 0) = false := by simpa using hz
    have HD1 := Lib.hid (show wDrop a below = (E, a, 0) by rw [HD.out]; exact if_neg hz)
    go_wp2
    go_ret2
    rw [HD1.out]
    exact ⟨rfl, HF1.out.mono (fun k hk => .inl hk), HS1.out⟩
end Go.Proofs.YtadnecgcoceklaaGreatDoor
