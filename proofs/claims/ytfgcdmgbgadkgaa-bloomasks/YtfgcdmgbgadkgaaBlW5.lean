/-
  What Merge answers.
-/
import Derived.Test.YtfgcdmgbgadkgaaBlW4
namespace Go.Proofs.Ytfgcdmgbgadkgaa
open Go.RowKit

def orTo (x y : List Nat) (k j : Nat) : Nat := if j < k then x.getD j 0 ||| y.getD j 0 else x.getD j 0
def mergeL (x y : List Nat) : List Nat := (List.range x.length).map (orTo x y (x.length - 1))
def mergeE (x y : List Nat) : Int := if formB x = true ∧ formB y = true then (if x.length = y.length ∧ x.getD (x.length - 1) 0 = y.getD (y.length - 1) 0 then 0 else 1) else 2
def mergeR (x y : List Nat) : List Nat := if mergeE x y = 0 then mergeL x y else []
theorem mergeL_length (x y : List Nat) : (mergeL x y).length = x.length := by simp [mergeL]
theorem mergeL_byte {x y : List Nat} (hx : ∀ c ∈ x, c < 256) (hy : ∀ c ∈ y, c < 256) : ∀ c ∈ mergeL x y, c < 256 := by
  intro c hc
  simp only [mergeL, List.mem_map] at hc
  obtain ⟨j, _, rfl⟩ := hc
  unfold orTo; split
  · exact or_lt (getD_byte hx j) (getD_byte hy j)
  · exact getD_byte hx j
theorem mergeR_byte {x y : List Nat} (hx : ∀ c ∈ x, c < 256) (hy : ∀ c ∈ y, c < 256) : ∀ c ∈ mergeR x y, c < 256 := by
  unfold mergeR; split
  · exact mergeL_byte hx hy
  · simp
theorem orTo_lt {x y : List Nat} (hx : ∀ c ∈ x, c < 256) (hy : ∀ c ∈ y, c < 256) (k j : Nat) : orTo x y k j < 256 := by
  unfold orTo; split
  · exact or_lt (getD_byte hx j) (getD_byte hy j)
  · exact getD_byte hx j
theorem orTo_step (x y : List Nat) (k j : Nat) : orTo x y (k + 1) j = if j = k then x.getD k 0 ||| y.getD k 0 else orTo x y k j := by
  unfold orTo
  by_cases e : j = k
  · subst e; rw [if_pos (by omega), if_pos rfl]
  · by_cases h : j < k
    · rw [if_pos (by omega), if_neg e, if_pos h]
    · rw [if_neg (by omega), if_neg e, if_neg h]
theorem fresh_err {w w' : World} (E : Int) (h : Below w.heap.size w w') : FreshE w [] E (.returned (.tuple #[.slice none 0 0, .int .i64 E])) w' := ⟨none, 0, rfl, .inl rfl, fun _ => rfl, Nat.le_refl _, h⟩
set_option maxRecDepth 100000 in
set_option maxHeartbeats 1600000 in
theorem merge_any (w : World) (a a' : Option Addr) (cap cap' n m : Nat) (x y : List Nat) (hn : x.length = n) (hx : Byt w a x) (hxb : ∀ c ∈ x, c < 256) (hm : n ≤ 140737488351232) (hn' : y.length = m) (hy : Byt w a' y) (hyb : ∀ c ∈ y, c < 256) (hm' : m ≤ 140737488351232) (hcap : m ≤ cap') :
    Calls Try.prog 16 #[.slice a n cap, .slice a' m cap'] w (FreshE w (mergeR x y) (mergeE x y)) := by
  have HF1 : Hid (∀ wx, Below w.heap.size w wx → Calls Try.prog 24 #[.slice a n cap] wx fun e w' => e = .returned (.bool (formB x)) ∧ wx = w') := Lib.hid (fun wx h => inForm_any wx a cap n x hn (hx.keep h) hxb hm)
  have HF2 : Hid (∀ wx, Below w.heap.size w wx → Calls Try.prog 24 #[.slice a' m cap'] wx fun e w' => e = .returned (.bool (formB y)) ∧ wx = w') := Lib.hid (fun wx h => inForm_any wx a' cap' m y hn' (hy.keep h) hyb hm')
  by_cases h1 : formB x = true
  · by_cases h2 : formB y = true
    · have k1 : 2 ≤ x.length ∧ 1 ≤ x.getD (x.length - 1) 0 ∧ x.getD (x.length - 1) 0 ≤ 30 := of_decide_eq_true h1
      have k2 : 2 ≤ y.length ∧ 1 ≤ y.getD (y.length - 1) 0 ∧ y.getD (y.length - 1) 0 ≤ 30 := of_decide_eq_true h2
      rw [hn] at k1
      rw [hn'] at k2
      rw [h1] at HF1
      rw [h2] at HF2
      by_cases hnm : n = m
      · have hE : mergeE x y = if x.getD (n - 1) 0 = y.getD (n - 1) 0 then 0 else 1 := by
          unfold mergeE; rw [if_pos ⟨h1, h2⟩, hn, hn', ← hnm]; simp
        have HCL : Hid (∀ wx, Below w.heap.size w wx → Calls Try.prog 25 #[.slice a n cap] wx (Cloned wx x)) := Lib.hid (fun wx h => clone_any wx a cap n x hn (hx.keep h) (by omega) hm)
        have HX := Lib.hid hx
        have HY := Lib.hid hy
        have HXN := Lib.hid hn
        have HYN := Lib.hid hn'
        obtain ⟨b1, o1, rfl, c1⟩ := hx.at (k := n - 1) (by omega)
        obtain ⟨b2, o2, rfl, c2⟩ := hy.at (k := n - 1) (by omega)
        rw [← getD_at (by omega)] at c1 c2
        have hq1 : ((m : Int) - 1 != (n : Int) - 1) = false := by simp; omega
        by_cases hlast : x.getD (n - 1) 0 = y.getD (n - 1) 0
        · rw [if_pos hlast] at hE
          have HR : Hid (mergeR x y = mergeL x y ∧ mergeE x y = 0) := Lib.hid ⟨if_pos hE, hE⟩
          rw [← hlast] at c2
          generalize x.getD (n - 1) 0 = C at *
          subst hnm
          have hi0 : (n : Int) - 1 = ((n - 1 : Nat) : Int) := by omega
          have hlt : n - 1 < n := by omega
          have hq2 : (((n - 1 : Nat) : Int) != ((n - 1 : Nat) : Int)) = false := by simp
          have hpt := fun wx => run_part_to (w := wx) (a := some ⟨b2, o2, none⟩) n cap' (n - 1) (by omega)
          have HPB : Hid (∀ wx, Below w.heap.size w wx → Byt wx (part (some ⟨b2, o2, none⟩) cap' 0) (y.take (n - 1))) := Lib.hid (fun wx h => by
            have := (hy.keep h).part cap' 0 (n - 1) (by omega) (by omega) (by omega)
            rwa [List.drop_zero] at this)
          generalize part (some ⟨b2, o2, none⟩) cap' 0 = pb at *
          generalize hS : n - 1 = S at *
          have HS := Lib.hid hS
          clear hx hy hn hn' hlast hE h1 h2 hS hq1
          go_enter Try.func16, Try.ntmps16
          go_wp2_with fail
          refine (HF1.out _ (Below.refl _ _)).mono ?_
          rintro e w1 ⟨rfl, rfl⟩
          go_wp2_with fail
          refine (HF2.out _ (Below.refl _ _)).mono ?_
          rintro e w1 ⟨rfl, rfl⟩
          go_wp2_with fail
          go_quiet (fail)
          go_wp2_with fail
          refine (HCL.out _ (below_drewN _ _ _)).mono ?_
          rintro e w2 ⟨g, cg, rfl, hg, hO, hb2⟩
          rw [HXN.out]
          rw [HXN.out] at hO
          have hgl := hO.lt
          have HO := Lib.hid hO
          have HB2 : Hid (Below w.heap.size w w2) := Lib.hid ((below_drewN w.heap.size w nq).trans (hb2.mono (Nat.le_refl _)))
          have hg0 : w.heap.size ≤ g := hg
          have hng : n ≤ cg := by obtain ⟨_, _, h, _⟩ := hO; exact h
          clear hO hb2 hg HCL HF1 HF2
          go_wp2_with fail
          clear hpt c1 c2
          go_loopw [43] (fun v wr => ∃ k : Nat, k ≤ S ∧ v = .int .i64 (k : Int) ∧ Hid (OwnF wr g cg n (orTo x y k) ∧ Below w.heap.size w wr)) (fun v _ => S - (intOf v).toNat)
          case atStart => exact ⟨0, by omega, rfl, HO.out.congr (fun i _ => by simp [orTo]), HB2.out⟩
          case round =>
            obtain ⟨k, hk, rfl, hI⟩ := hrel
            obtain ⟨hO, hB⟩ := hI.out
            clear HO HB2
            by_cases hlt2 : k < S
            · have htl : k < (y.take S).length := by rw [List.length_take, HYN.out]; omega
              obtain ⟨b3, o3, rfl, hcl⟩ := (HPB.out wr hB).at (k := k) htl
              have e3 : (y.take S)[k] = y.getD k 0 := by rw [List.getElem_take, getD_at]
              rw [e3] at hcl
              have hyl := getD_byte hyb k
              have hxl := orTo_lt hxb hyb k k
              have ho := hO.cell (i := k) (by omega)
              have hf := hO.frozen k
              have HE : Hid (bits .or .u8 (orTo x y k k : Int) (y.getD k 0 : Int) = ((x.getD k 0 ||| y.getD k 0 : Nat) : Int)) := Lib.hid (by
                rw [or8 _ _ hxl hyl]; unfold orTo; rw [if_neg (by omega)])
              have HN : Hid (∀ wx, wx = wr.setCell ⟨g, k, none⟩ (.int .u8 ((x.getD k 0 ||| y.getD k 0 : Nat) : Int)) → OwnF wx g cg n (orTo x y (k + 1)) ∧ Below w.heap.size w wx) := Lib.hid (fun wx e => by
                subst e
                exact ⟨(hO.set k _).congr (fun i _ => by rw [orTo_step]), hB.setCell hg0 _⟩)
              clear hO hB hI e3
              generalize y.getD k 0 = cy at *
              generalize orTo x y k k = cx at *
              go_wp2
              go_roundw
              case rel =>
                rw [HE.out]
                exact ⟨k + 1, by omega, by go_num, HN.out _ rfl⟩
              case measure => simp [intOf]; omega
            · obtain rfl : k = S := by omega
              have HOO := Lib.hid hO
              have HBB := Lib.hid hB
              clear hO hB hI
              go_wp2
              go_ret2
              rw [HR.out.1, HR.out.2]
              refine ⟨some ⟨g, 0, none⟩, cg, by rw [mergeL_length, HXN.out]; rfl, HOO.out.byt _ (by rw [mergeL_length, HXN.out]) (fun i hi => ?_), (fun h => by cases h), by rw [mergeL_length, HXN.out]; exact hng, HBB.out⟩
              simp [mergeL, HXN.out, HS.out]
        · rw [if_neg hlast] at hE
          have HR : Hid (mergeR x y = [] ∧ mergeE x y = 1) := Lib.hid ⟨if_neg (by rw [hE]; decide), hE⟩
          have hq3 : ((x.getD (n - 1) 0 : Int) != (y.getD (n - 1) 0 : Int)) = true := by rw [bne_iff_ne]; intro e; exact hlast (by omega)
          generalize x.getD (n - 1) 0 = C at *
          generalize y.getD (n - 1) 0 = C' at *
          subst hnm
          have hi0 : (n : Int) - 1 = ((n - 1 : Nat) : Int) := by omega
          have hlt : n - 1 < n := by omega
          have hq2 : (((n - 1 : Nat) : Int) != ((n - 1 : Nat) : Int)) = false := by simp
          generalize n - 1 = S at *
          clear hx hy hn hn' hlast hE h1 h2 hq1
          go_enter Try.func16, Try.ntmps16
          go_wp2_with fail
          refine (HF1.out _ (Below.refl _ _)).mono ?_
          rintro e w1 ⟨rfl, rfl⟩
          go_wp2_with fail
          refine (HF2.out _ (Below.refl _ _)).mono ?_
          rintro e w1 ⟨rfl, rfl⟩
          go_wp2_with fail
          go_quiet (fail)
          go_wp2
          go_ret2
          rw [HR.out.1, HR.out.2]
          exact fresh_err 1 (below_drewN _ _ _)
      · have HR : Hid (mergeR x y = [] ∧ mergeE x y = 1) := Lib.hid (by
          have hE : mergeE x y = 1 := by
            unfold mergeE; rw [if_pos ⟨h1, h2⟩, if_neg (by omega)]
          exact ⟨if_neg (by rw [hE]; decide), hE⟩)
        have hq1 : ((m : Int) - 1 != (n : Int) - 1) = true := by simp; omega
        clear hx hy hn hn' h1 h2 k1 k2 hnm
        go_enter Try.func16, Try.ntmps16
        go_wp2_with fail
        refine (HF1.out _ (Below.refl _ _)).mono ?_
        rintro e w1 ⟨rfl, rfl⟩
        go_wp2_with fail
        refine (HF2.out _ (Below.refl _ _)).mono ?_
        rintro e w1 ⟨rfl, rfl⟩
        go_wp2_with fail
        go_quiet (fail)
        go_wp2
        go_ret2
        rw [HR.out.1, HR.out.2]
        exact fresh_err 1 (below_drewN _ _ _)
    · have HR : Hid (mergeR x y = [] ∧ mergeE x y = 2) := Lib.hid (by
        have hE : mergeE x y = 2 := by unfold mergeE; rw [if_neg (fun h => h2 h.2)]
        exact ⟨if_neg (by rw [hE]; decide), hE⟩)
      rw [h1] at HF1
      rw [show formB y = false by simpa using h2] at HF2
      clear hx hy hn hn' h1 h2
      go_enter Try.func16, Try.ntmps16
      go_wp2_with fail
      refine (HF1.out _ (Below.refl _ _)).mono ?_
      rintro e w1 ⟨rfl, rfl⟩
      go_wp2_with fail
      refine (HF2.out _ (Below.refl _ _)).mono ?_
      rintro e w1 ⟨rfl, rfl⟩
      go_wp2
      go_ret2
      rw [HR.out.1, HR.out.2]
      exact fresh_err 2 (Below.refl _ _)
  · have HR : Hid (mergeR x y = [] ∧ mergeE x y = 2) := Lib.hid (by
      have hE : mergeE x y = 2 := by unfold mergeE; rw [if_neg (fun h => h1 h.1)]
      exact ⟨if_neg (by rw [hE]; decide), hE⟩)
    rw [show formB x = false by simpa using h1] at HF1
    clear hx hy hn hn' h1
    go_enter Try.func16, Try.ntmps16
    go_wp2_with fail
    refine (HF1.out _ (Below.refl _ _)).mono ?_
    rintro e w1 ⟨rfl, rfl⟩
    go_wp2
    go_ret2
    rw [HR.out.1, HR.out.2]
    exact fresh_err 2 (Below.refl _ _)
end Go.Proofs.Ytfgcdmgbgadkgaa
