/-
  What the document's own DocMerge answers.
-/
import Derived.Test.YtfgcdmgbgadkgaaBlRMay
namespace Go.Proofs.Ytfgcdmgbgadkgaa
open Go.RowKit

/-- A row of bytes that may be written, its mark, if it has one, behind its cells. -/
def OwnM (w : World) (g n : Nat) (f : Nat → Nat) : Prop := ∃ c fz, w.heap[g]? = some (.cells c 5 fz) ∧ (∀ i, i < c.size → ¬ (fz.1 ≤ i ∧ i < fz.2)) ∧ n ≤ c.size ∧ ∀ i, i < n → c[i]? = some (.int .u8 (f i : Int))
theorem OwnM.lt {w : World} {g n : Nat} {f : Nat → Nat} (h : OwnM w g n f) : g < w.heap.size := by
  obtain ⟨c, fz, h1, _⟩ := h
  exact (Array.getElem?_eq_some_iff.1 h1).1
theorem OwnM.cell {w : World} {g n : Nat} {f : Nat → Nat} (h : OwnM w g n f) {i : Nat} (hi : i < n) : w.cell? ⟨g, i, none⟩ = some (.int .u8 (f i : Int)) := by
  obtain ⟨c, fz, h1, h2, h3, h4⟩ := h
  simp [World.cell?, h1, h4 i hi]
theorem OwnM.frozen {w : World} {g n : Nat} {f : Nat → Nat} (h : OwnM w g n f) {i : Nat} (hi : i < n) : w.frozen? ⟨g, i, none⟩ = false := by
  obtain ⟨c, ⟨lo, hi'⟩, h1, h2, h3, h4⟩ := h
  have := h2 i (by omega)
  simp only [World.frozen?, h1, Bool.and_eq_false_iff, decide_eq_false_iff_not]
  simp only at this
  omega
theorem OwnM.set {w : World} {g n : Nat} {f : Nat → Nat} (h : OwnM w g n f) (i v : Nat) : OwnM (w.setCell ⟨g, i, none⟩ (.int .u8 (v : Int))) g n (fun j => if j = i then v else f j) := by
  obtain ⟨c, fz, h1, h2, h3, h4⟩ := h
  refine ⟨c.setIfInBounds i (.int .u8 (v : Int)), fz, ?_, by simpa using h2, by simpa using h3, fun j hj => ?_⟩
  · simp [World.setCell, Array.getElem?_modify, h1]
  · rw [Array.getElem?_setIfInBounds]
    by_cases e : i = j
    · subst e
      have : i < c.size := by omega
      simp [this]
    · have e2 : ¬ j = i := fun h => e h.symm
      rw [if_neg e]
      simp only [e2, if_false]
      exact h4 j hj
theorem OwnM.congr {w : World} {g n : Nat} {f f' : Nat → Nat} (h : OwnM w g n f) (e : ∀ i, i < n → f i = f' i) : OwnM w g n f' := by
  obtain ⟨c, fz, h1, h2, h3, h4⟩ := h
  exact ⟨c, fz, h1, h2, h3, fun i hi => by rw [h4 i hi, e i hi]⟩
theorem OwnM.drew {w : World} {g n : Nat} {f : Nat → Nat} (h : OwnM w g n f) : OwnM w.drew g n f := h
theorem OwnM.byt {w : World} {g n : Nat} {f : Nat → Nat} (h : OwnM w g n f) (l : List Nat) (hl : l.length = n) (e : ∀ i (hi : i < l.length), f i = l[i]) : Byt w (some ⟨g, 0, none⟩) l :=
  .inr ⟨g, 0, rfl, h.lt, fun i hi => by rw [Nat.zero_add, h.cell (by omega), e i hi]⟩
theorem conv_ownM (wr : World) (s : ByteArray) :
    ∃ cap w2, (convert 9 30 (.string s)).run Try.prog wr = .ok (.slice (some ⟨wr.heap.size, 0, none⟩) s.size cap) w2 ∧ OwnM w2 wr.heap.size s.size (fun i => (natsOf s).getD i 0) ∧ Below wr.heap.size wr w2 := by
  have h := run_bytes_of_string (P := Try.prog) wr 9 30 5 s Try.underlying9 Try.underlying30 Try.underlying5
  have hge := grownCap_ge wr s.size 0 5
  have hds : s.data.size = s.size := rfl
  refine ⟨_, _, h, ⟨_, _, heap_alloc_new _ _, fun i hi => by simp only; omega, ?_, fun i hi => ?_⟩, ((Below.refl _ wr).drew).alloc (by simp) _⟩
  · unfold bytesRow; simp
  · unfold bytesRow
    have hd : i < s.data.size := hi
    show _ = some (Value.int .u8 (((natsOf s).getD i 0 : Nat) : Int))
    rw [Array.getElem?_append_left (by simpa using hd), getD_at (by rw [natsOf_length]; exact hi)]
    simp [natsOf]
    exact ⟨s.data[i], Array.getElem?_eq_getElem hd, rfl⟩
/-- A byte, and the first bits of another. -/
def orK (x y k : Nat) : Nat := x ||| (y % 2 ^ k)
theorem add_or (a k : Nat) (ha : a < 256) (hk : k < 8) (h : a.testBit k = false) : a + 2 ^ k = a ||| 2 ^ k := by
  have key : ∀ (a : Fin 256) (k : Fin 8), a.val.testBit k.val = false → a.val + 2 ^ k.val = a.val ||| 2 ^ k.val := by decide +kernel
  exact key ⟨a, ha⟩ ⟨k, hk⟩ h
theorem orK_lt (x y k : Nat) (hx : x < 256) (hy : y < 256) : orK x y k < 256 := or_lt hx (Nat.lt_of_le_of_lt (Nat.mod_le _ _) hy)
theorem orK_zero (x y : Nat) : orK x y 0 = x := by simp [orK, Nat.mod_one]
theorem orK_full (x y : Nat) (hy : y < 256) : orK x y 8 = x ||| y := by unfold orK; rw [Nat.mod_eq_of_lt (by omega)]
theorem orK_same (x y k : Nat) (h : ¬ (y.testBit k = true ∧ (orK x y k).testBit k = false)) : orK x y (k + 1) = orK x y k := by
  apply Nat.eq_of_testBit_eq
  intro t
  unfold orK at *
  rw [Nat.testBit_or, Nat.testBit_or, Nat.testBit_mod_two_pow, Nat.testBit_mod_two_pow] at *
  rcases Nat.lt_trichotomy t k with ht | ht | ht
  · have h1 : t < k + 1 := by omega
    simp [ht, h1]
  · subst ht
    simp at h ⊢
    intro hy
    exact h hy
  · have h1 : ¬ t < k + 1 := by omega
    have h2 : ¬ t < k := by omega
    simp [h1, h2]
theorem orK_more (x y k : Nat) (hx : x < 256) (hy : y < 256) (hk : k < 8) (h1 : y.testBit k = true) (h2 : (orK x y k).testBit k = false) : orK x y (k + 1) = orK x y k + 2 ^ k := by
  rw [add_or _ k (orK_lt x y k hx hy) hk h2]
  apply Nat.eq_of_testBit_eq
  intro t
  unfold orK
  rw [Nat.testBit_or, Nat.testBit_or, Nat.testBit_or, Nat.testBit_mod_two_pow, Nat.testBit_mod_two_pow, Nat.testBit_two_pow]
  rcases Nat.lt_trichotomy t k with ht | ht | ht
  · have e1 : t < k + 1 := by omega
    have e2 : ¬ k = t := by omega
    simp [ht, e1, e2]
  · subst ht; simp [h1]
  · have e1 : ¬ t < k + 1 := by omega
    have e2 : ¬ t < k := by omega
    have e3 : ¬ k = t := by omega
    simp [e1, e2, e3]
theorem add_k (x k : Nat) (h : x + 2 ^ k < 256) : ((x : Int) + (2 : Int) ^ k) % 256 = ((x + 2 ^ k : Nat) : Int) := by
  rw [show (2 : Int) ^ k = ((2 ^ k : Nat) : Int) by simp]
  generalize 2 ^ k = q at *
  omega
theorem eqt_one (c k : Nat) : (((c : Int) / 2 ^ k).tmod 2 == 1) = c.testBit k := by
  rw [bit_tmod]; cases c.testBit k <;> rfl
theorem eqt_zero (c k : Nat) : (((c : Int) / 2 ^ k).tmod 2 == 0) = !c.testBit k := by
  rw [bit_tmod]; cases c.testBit k <;> rfl
theorem eqb_one (c k : Nat) : ((c : Int) / 2 ^ k % 2 == 1) = c.testBit k := by
  rw [bit_val]; cases c.testBit k <;> rfl
theorem eqb_zero (c k : Nat) : ((c : Int) / 2 ^ k % 2 == 0) = !c.testBit k := by
  rw [bit_val]; cases c.testBit k <;> rfl
set_option maxRecDepth 100000 in
set_option maxHeartbeats 1600000 in
theorem docMerge_any (f g : ByteArray) (hm : f.size ≤ 1048576) (hm' : g.size ≤ 1048576) (w : World) :
    Calls Try.prog 15 #[.string f, .string g] w (DocS w (mergeR (natsOf f) (natsOf g)) (mergeE (natsOf f) (natsOf g))) := by
  have HF1 : Hid (∀ wx, Calls Try.prog 23 #[.string f] wx fun e w' => e = .returned (.bool (formB (natsOf f))) ∧ wx = w') := Lib.hid (rright_any f (by omega))
  have HF2 : Hid (∀ wx, Calls Try.prog 23 #[.string g] wx fun e w' => e = .returned (.bool (formB (natsOf g))) ∧ wx = w') := Lib.hid (rright_any g (by omega))
  by_cases h1 : formB (natsOf f) = true
  · by_cases h2 : formB (natsOf g) = true
    · have k1 : 2 ≤ (natsOf f).length ∧ _ := of_decide_eq_true h1
      have k2 : 2 ≤ (natsOf g).length ∧ _ := of_decide_eq_true h2
      have k1' : 2 ≤ f.size := by rw [← natsOf_length]; exact k1.1
      have k2' : 2 ≤ g.size := by rw [← natsOf_length]; exact k2.1
      clear k1 k2
      rw [h1] at HF1
      rw [h2] at HF2
      by_cases hnm : f.size = g.size
      · have hE : mergeE (natsOf f) (natsOf g) = if (f[f.size - 1]'(by omega)).toNat = (g[f.size - 1]'(by omega)).toNat then 0 else 1 := by
          unfold mergeE
          rw [if_pos ⟨h1, h2⟩, natsOf_length, natsOf_length, nats_last f (by omega), nats_last g (by omega)]
          simp only [hnm, true_and]
        have hi0 : (f.size : Int) - 1 = ((f.size - 1 : Nat) : Int) := by omega
        have hi1 : (g.size : Int) - 1 = ((f.size - 1 : Nat) : Int) := by omega
        have hlt : f.size - 1 < f.size := by omega
        have hlt' : f.size - 1 < g.size := by omega
        have hx1 := idx_at f ((f.size - 1 : Nat) : Int) (f.size - 1) rfl hlt
        have hx2 := idx_at g ((f.size - 1 : Nat) : Int) (f.size - 1) rfl hlt'
        have hq1 : ((f.size : Int) != (g.size : Int)) = false := by simp; omega
        by_cases hlast : (f[f.size - 1]'(by omega)).toNat = (g[f.size - 1]'(by omega)).toNat
        · rw [if_pos hlast] at hE
          have HR : Hid (mergeR (natsOf f) (natsOf g) = mergeL (natsOf f) (natsOf g) ∧ mergeE (natsOf f) (natsOf g) = 0) := Lib.hid ⟨if_pos hE, hE⟩
          rw [← hlast] at hx2
          have HMB := Lib.hid (mergeL_byte (natsOf_byte f) (natsOf_byte g))
          have HML : Hid ((mergeL (natsOf f) (natsOf g)).length = f.size) := Lib.hid (by rw [mergeL_length, natsOf_length])
          have HMG : Hid (∀ i (hi : i < (mergeL (natsOf f) (natsOf g)).length), orTo (natsOf f) (natsOf g) (f.size - 1) i = (mergeL (natsOf f) (natsOf g))[i]) := Lib.hid (fun i hi => by
            simp [mergeL, natsOf_length])
          have HCV : Hid (∀ wx : World, ∃ cap w2, (convert 9 30 (.string f)).run Try.prog wx = .ok (.slice (some ⟨wx.heap.size, 0, none⟩) f.size cap) w2 ∧ OwnM w2 wx.heap.size f.size (fun i => (natsOf f).getD i 0) ∧ Below wx.heap.size wx w2) := Lib.hid (fun wx => conv_ownM wx f)
          have HGN := Lib.hid hnm
          clear h1 h2 hlast hE
          generalize (f[f.size - 1]'(by omega)).toNat = C at *
          generalize hS : f.size - 1 = S at *
          have hS1 : f.size = S + 1 := by omega
          have HS1 := Lib.hid hS1
          clear hS hS1 hnm
          have hqC : ((C : Int) != (C : Int)) = false := by simp
          go_enter Try.func15, Try.ntmps15
          go_wp2_with fail
          refine (HF1.out _).mono ?_
          rintro e w1 ⟨rfl, rfl⟩
          go_wp2_with fail
          refine (HF2.out _).mono ?_
          rintro e w1 ⟨rfl, rfl⟩
          go_wp2_with fail
          go_quiet (fail)
          clear hx1 hx2 hq1 hqC HF1 HF2
          obtain ⟨cap, w2, r2, o2, b2⟩ := HCV.out (w.drewN nq)
          have O2 := Lib.hid o2
          have B2 : Hid (Below w.heap.size w w2) := Lib.hid ((below_drewN _ w nq).trans b2)
          clear o2 b2 HCV
          rw [show (w.drewN nq).heap.size = w.heap.size from rfl] at *
          go_wp2_with fail
          clear r2
          go_loopw [7] (fun x wr => ∃ i : Nat, i ≤ S ∧ x = .int .i64 (i : Int) ∧ Hid (OwnM wr w.heap.size f.size (orTo (natsOf f) (natsOf g) i) ∧ Below w.heap.size w wr)) (fun x _ => S - (intOf x).toNat)
          case atStart => exact ⟨0, by omega, rfl, O2.out.congr (fun i _ => by simp [orTo]), B2.out⟩
          case round =>
            clear O2 B2
            obtain ⟨i, hi, rfl, hI⟩ := hrel
            obtain ⟨hO, hB⟩ := hI.out
            by_cases hlt2 : i < S
            · have hif : i < f.size := by have := HS1.out; omega
              have hig : i < g.size := by have := HS1.out; have := HGN.out; omega
              have hix := idx_at g (i : Int) i rfl hig
              have hyb := (g[i]).toNat_lt
              have hxb := getD_byte (natsOf_byte f) i
              have hgd : (natsOf g).getD i 0 = (g[i]).toNat := by
                rw [getD_at (by rw [natsOf_length]; exact hig)]; exact natsOf_get g i hig
              have HST : Hid (OwnM wr w.heap.size f.size (fun j => if j = i then orK ((natsOf f).getD i 0) (g[i]).toNat 0 else orTo (natsOf f) (natsOf g) i j) ∧ Below w.heap.size w wr) := Lib.hid ⟨hO.congr (fun j _ => by
                by_cases e : j = i
                · subst e; simp [orK_zero, orTo]
                · simp [e]), hB⟩
              have HEN : Hid (∀ j, (if j = i then orK ((natsOf f).getD i 0) (g[i]).toNat 8 else orTo (natsOf f) (natsOf g) i j) = orTo (natsOf f) (natsOf g) (i + 1) j) := Lib.hid (fun j => by
                rw [orTo_step, orK_full _ _ hyb, hgd])
              clear hO hB hI hgd
              generalize (g[i]).toNat = cy at *
              generalize (natsOf f).getD i 0 = cx at *
              go_wp2_with fail
              go_loopw [8] (fun x wq => ∃ k : Nat, k ≤ 8 ∧ x = .int .i64 (k : Int) ∧ Hid (OwnM wq w.heap.size f.size (fun j => if j = i then orK cx cy k else orTo (natsOf f) (natsOf g) i j) ∧ Below w.heap.size w wq)) (fun x _ => 8 - (intOf x).toNat)
              case atStart => exact ⟨0, by omega, rfl, HST.out⟩
              case round =>
                clear HST
                obtain ⟨k, hk, rfl, hI⟩ := hrel
                obtain ⟨hO, hB⟩ := hI.out
                by_cases hlt3 : k < 8
                · have q1 := eqb_one cy k
                  have q1t := eqt_one cy k
                  have hcell := hO.cell hif
                  have hfrz := hO.frozen hif
                  rw [if_pos rfl] at hcell
                  have q2 := eqb_zero (orK cx cy k) k
                  have q2t := eqt_zero (orK cx cy k) k
                  have hol := orK_lt cx cy k hxb hyb
                  by_cases t1 : cy.testBit k = true
                  · rw [t1] at q1 q1t
                    by_cases t2 : (orK cx cy k).testBit k = false
                    · rw [t2] at q2 q2t
                      have hmo := orK_more cx cy k hxb hyb hlt3 t1 t2
                      have hml := orK_lt cx cy (k + 1) hxb hyb
                      have HO := Lib.hid (add_k (orK cx cy k) k (by omega))
                      have HF : Hid (∀ wx : World, wx = wr.setCell ⟨w.heap.size, i, none⟩ (.int .u8 ((orK cx cy k + 2 ^ k : Nat) : Int)) → OwnM wx w.heap.size f.size (fun j => if j = i then orK cx cy (k + 1) else orTo (natsOf f) (natsOf g) i j) ∧ Below w.heap.size w wx) := Lib.hid (fun wx e => by
                        subst e
                        refine ⟨(hO.set i _).congr (fun j _ => ?_), hB.setCell (Nat.le_refl _) _⟩
                        by_cases e : j = i
                        · simp [e, hmo]
                        · simp [e])
                      clear hO hB hI hmo hml t1 t2
                      generalize orK cx cy k = x at *
                      go_wp2_with fail
                      go_region
                      go_wp2
                      go_roundw
                      case rel =>
                        rw [HO.out]
                        exact ⟨k + 1, by omega, by go_num, (HF.out _ rfl).1.drew, (HF.out _ rfl).2.drew⟩
                      case measure => simp [intOf]; omega
                    · have t3 : (orK cx cy k).testBit k = true := by simpa using t2
                      rw [t3] at q2 q2t
                      have HF : Hid (OwnM wr w.heap.size f.size (fun j => if j = i then orK cx cy (k + 1) else orTo (natsOf f) (natsOf g) i j) ∧ Below w.heap.size w wr) := Lib.hid (by
                        rw [orK_same cx cy k (fun h => t2 h.2)]; exact ⟨hO, hB⟩)
                      clear hO hB hI t1 t2 t3
                      generalize orK cx cy k = x at *
                      go_wp2
                      go_roundw
                      case rel => exact ⟨k + 1, by omega, by go_num, HF.out⟩
                      case measure => simp [intOf]; omega
                  · have t3 : cy.testBit k = false := by simpa using t1
                    rw [t3] at q1 q1t
                    have HF : Hid (OwnM wr w.heap.size f.size (fun j => if j = i then orK cx cy (k + 1) else orTo (natsOf f) (natsOf g) i j) ∧ Below w.heap.size w wr) := Lib.hid (by
                      rw [orK_same cx cy k (fun h => t1 h.1)]; exact ⟨hO, hB⟩)
                    clear hO hB hI t1 t3 q2 q2t
                    generalize orK cx cy k = x at *
                    go_wp2
                    go_roundw
                    case rel => exact ⟨k + 1, by omega, by go_num, HF.out⟩
                    case measure => simp [intOf]; omega
                · obtain rfl : k = 8 := by omega
                  have HF : Hid (OwnM wr w.heap.size f.size (orTo (natsOf f) (natsOf g) (i + 1)) ∧ Below w.heap.size w wr) := Lib.hid ⟨hO.congr (fun j _ => HEN.out j), hB⟩
                  clear hO hB hI
                  go_wp2
                  go_roundw
                  case rel => exact ⟨i + 1, by omega, by go_num, HF.out⟩
                  case measure => simp [intOf]; omega
            · obtain rfl : i = S := by omega
              have hy := hO.byt (mergeL (natsOf f) (natsOf g)) HML.out HMG.out
              have hcv2 := conv_bytes hy HMB.out (fun h => by cases h) cap f.size HML.out
              have HBB := Lib.hid hB
              clear hO hB hI hy
              go_wp2
              go_ret2
              rw [HR.out.1, HR.out.2]
              exact ⟨rfl, HBB.out⟩
        · rw [if_neg hlast] at hE
          have HR : Hid (mergeR (natsOf f) (natsOf g) = [] ∧ mergeE (natsOf f) (natsOf g) = 1) := Lib.hid ⟨if_neg (by rw [hE]; decide), hE⟩
          have hqC : (((f[f.size - 1]'(by omega)).toNat : Int) != ((g[f.size - 1]'(by omega)).toNat : Int)) = true := by rw [bne_iff_ne]; intro e; exact hlast (by omega)
          clear h1 h2 hlast hE
          generalize (f[f.size - 1]'(by omega)).toNat = C at *
          generalize (g[f.size - 1]'(by omega)).toNat = C' at *
          generalize f.size - 1 = S at *
          go_enter Try.func15, Try.ntmps15
          go_wp2_with fail
          refine (HF1.out _).mono ?_
          rintro e w1 ⟨rfl, rfl⟩
          go_wp2_with fail
          refine (HF2.out _).mono ?_
          rintro e w1 ⟨rfl, rfl⟩
          go_wp2_with fail
          go_quiet (fail)
          go_wp2
          go_ret2
          rw [HR.out.1, HR.out.2]
          exact ⟨rfl, below_drewN _ _ _⟩
      · have HR : Hid (mergeR (natsOf f) (natsOf g) = [] ∧ mergeE (natsOf f) (natsOf g) = 1) := Lib.hid (by
          have hE : mergeE (natsOf f) (natsOf g) = 1 := by
            unfold mergeE; rw [if_pos ⟨h1, h2⟩, natsOf_length, natsOf_length, if_neg (fun h => hnm h.1)]
          exact ⟨if_neg (by rw [hE]; decide), hE⟩)
        have hq1 : ((f.size : Int) != (g.size : Int)) = true := by rw [bne_iff_ne]; omega
        clear h1 h2 hnm
        go_enter Try.func15, Try.ntmps15
        go_wp2_with fail
        refine (HF1.out _).mono ?_
        rintro e w1 ⟨rfl, rfl⟩
        go_wp2_with fail
        refine (HF2.out _).mono ?_
        rintro e w1 ⟨rfl, rfl⟩
        go_wp2_with fail
        go_quiet (fail)
        go_wp2
        go_ret2
        rw [HR.out.1, HR.out.2]
        exact ⟨rfl, below_drewN _ _ _⟩
    · have HR : Hid (mergeR (natsOf f) (natsOf g) = [] ∧ mergeE (natsOf f) (natsOf g) = 2) := Lib.hid (by
        have hE : mergeE (natsOf f) (natsOf g) = 2 := by unfold mergeE; rw [if_neg (fun h => h2 h.2)]
        exact ⟨if_neg (by rw [hE]; decide), hE⟩)
      rw [h1] at HF1
      rw [show formB (natsOf g) = false by simpa using h2] at HF2
      clear h1 h2
      go_enter Try.func15, Try.ntmps15
      go_wp2_with fail
      refine (HF1.out _).mono ?_
      rintro e w1 ⟨rfl, rfl⟩
      go_wp2_with fail
      refine (HF2.out _).mono ?_
      rintro e w1 ⟨rfl, rfl⟩
      go_wp2
      go_ret2
      rw [HR.out.1, HR.out.2]
      exact ⟨rfl, Below.refl _ _⟩
  · have HR : Hid (mergeR (natsOf f) (natsOf g) = [] ∧ mergeE (natsOf f) (natsOf g) = 2) := Lib.hid (by
      have hE : mergeE (natsOf f) (natsOf g) = 2 := by unfold mergeE; rw [if_neg (fun h => h1 h.1)]
      exact ⟨if_neg (by rw [hE]; decide), hE⟩)
    rw [show formB (natsOf f) = false by simpa using h1] at HF1
    clear h1
    go_enter Try.func15, Try.ntmps15
    go_wp2_with fail
    refine (HF1.out _).mono ?_
    rintro e w1 ⟨rfl, rfl⟩
    go_wp2
    go_ret2
    rw [HR.out.1, HR.out.2]
    exact ⟨rfl, Below.refl _ _⟩
end Go.Proofs.Ytfgcdmgbgadkgaa
