/-
  The law FsKeeps, walked.
-/
import Derived.Test.YtaadfoelaeliiaaFsStrs
namespace Go.Proofs.Ytaadfoelaeliiaa
open Go.RowKit Go.Maps

def KG (m kb : Nat) (k : Nat) : Prop := k < m ∨ k = kb
def KH (m kb sb : Nat) (k : Nat) : Prop := KG m kb k ∨ k = sb
theorem strB_kp_size (i : Nat) : (strB (kp i)).size = 6 := by rw [strB_size]; rfl
theorem read_byte {a : A} (h : a.Ok) (s : Bs) (x n : Int) : ∀ y ∈ a.read s x n, y < 256 := by
  intro y hy
  unfold A.read at hy
  split at hy
  · have h1 := List.mem_of_mem_drop (List.mem_of_mem_take hy)
    unfold A.file at h1
    rw [List.getD_eq_getElem?_getD] at h1
    cases e : a.files[a.idx s]? with
    | none => rw [e] at h1; cases h1
    | some f => rw [e] at h1; exact (h.fil f (List.mem_of_getElem? e)).2.2 y h1
  · cases hy
namespace fsKeeps

set_option maxRecDepth 100000 in
set_option maxHeartbeats 40000000 in
theorem walk (a0 : Option Addr) (len0 cap0 : Nat) (z0 : List ByteArray) (a1 : Option Addr) (len1 cap1 : Nat) (W : World) (w0 : IsStrs W a0 len0 cap0 z0) (w1 : IsDeeds W a1 len1 cap1) :
    Calls Try.prog 4 #[.slice a0 len0 cap0, .slice a1 len1 cap1] W fun e w' => e = .returned (.bool true) ∧ Below W.heap.size W w' := by
  obtain ⟨n, hn⟩ : ∃ n, min len0 5 = n := ⟨_, rfl⟩
  have hm1 := fun ts t wx => run_min2 (P := Try.prog) (w := wx) ts t (len0 : Int) 5 (n : Int) (by omega)
  have hn0 : n ≤ len0 := by omega
  have hn5 : n ≤ 5 := by omega
  have hmk := make_strs n (by omega)
  have HF0 := Lib.hid (files_any W)
  have HW0 := Lib.hid w0
  have HW1 := Lib.hid w1
  clear w0 w1 hn
  go_enter Try.func4, Try.ntmps4
  go_wp2_with fail
  refine HF0.out.mono ?_
  rintro e W1 ⟨rfl, b1⟩
  have HB1 := Lib.hid b1
  clear b1 HF0
  have HN := Lib.hid (fx_new (G := fun k => k < W1.heap.size) W1 1048576 (by omega) (fun k hk => hk))
  go_wp2_with fail
  refine HN.out.mono ?_
  rintro e W2 ⟨rfl, h1, b1⟩
  have HF2 := Lib.hid h1
  have HB2 := Lib.hid b1
  clear h1 b1 HN
  go_wp2_with fail
  generalize hW3 : W2.alloc (.cells #[.string ⟨#[107, 101, 101, 112, 45, 48]⟩, .string ⟨#[107, 101, 101, 112, 45, 49]⟩, .string ⟨#[107, 101, 101, 112, 45, 50]⟩, .string ⟨#[107, 101, 101, 112, 45, 51]⟩, .string ⟨#[107, 101, 101, 112, 45, 52]⟩] 9) = W3
  generalize hW4 : W3.alloc (.cells (madeCells #[.string ByteArray.empty] n) 9) = W4
  obtain ⟨m, hm⟩ : ∃ m, W1.heap.size = m := ⟨_, rfl⟩
  obtain ⟨kb, hkb⟩ : ∃ kb, W2.heap.size = kb := ⟨_, rfl⟩
  have hz3 : W3.heap.size = kb + 1 := by rw [← hW3, ← hkb]; simp
  have hz4 : W4.heap.size = kb + 2 := by rw [← hW4]; simp [hz3]
  have b23 : Below W2.heap.size W2 W3 := by rw [← hW3]; exact bel1 W2 _
  have b34 : Below W3.heap.size W3 W4 := by rw [← hW4]; exact bel1 W3 _
  have hmk2 : m ≤ kb := by rw [← hm, ← hkb]; exact HB2.out.size
  have HKP : Hid (KpAt W4 kb) := Lib.hid (by
    have : KpAt W3 kb := by unfold KpAt; rw [← hW3, ← hkb]; exact heap_alloc_new W2 _
    exact (b34.block kb (by omega)).trans this)
  have HSU : Hid (SuAt W4 (kb + 1) n (fun _ => ByteArray.empty)) := Lib.hid (by rw [← hW4, ← hz3]; exact su_made W3 n)
  have HF : Hid (Fx (KH m kb (kb + 1)) W4 m (kst [])) := Lib.hid (by
    have h2 := HF2.out
    rw [hm] at h2
    have h3 := (h2.grown b23).grown b34
    exact (h3.mono (fun k hk => by
      rcases hk with (hk | hk) | hk
      · exact .inl (.inl hk)
      · exact .inl (.inr (by omega))
      · exact .inr (by omega))))
  have HBW : Hid (Below W.heap.size W W4) := Lib.hid (HB1.out.trans ((HB2.out.mono HB1.out.size).trans ((b23.mono (Nat.le_trans HB1.out.size HB2.out.size)).trans (b34.mono (Nat.le_trans (Nat.le_trans HB1.out.size HB2.out.size) b23.size)))))
  have hwm : W.heap.size ≤ m := by rw [← hm]; exact HB1.out.size
  clear hmk hm1 hW4 hW3 b23 b34 HF2 HB1 HB2
  try rw [hz3]
  try rw [hkb]
  try rw [hm]
  go_loopw [10] (fun u10 wr => ∃ (i : Nat) (L : List (List Nat)) (f : Nat → ByteArray), u10 = .int .i64 i ∧ i ≤ n ∧ L.length = i ∧ (∀ b ∈ L, b.length ≤ 2000) ∧ (∀ b ∈ L, ∀ x ∈ b, x < 256) ∧ Fx (KH m kb (kb + 1)) wr m (kst L) ∧ Stay (KG m kb) W4 wr ∧ SuAt wr (kb + 1) n f ∧ (∀ k, k < i → f k = strOf (L.getD k []))) (fun u10 _ => n - (intOf u10).toNat)
  case atStart => exact ⟨0, [], _, rfl, Nat.zero_le _, rfl, (fun b hb => by cases hb), (fun b hb => by cases hb), HF.out, Stay.refl _ _, HSU.out, fun k hk => by omega⟩
  case round =>
    obtain ⟨i, L, f, rfl, hin, hLi, hL2, hLb, hF, hS, hU, hf⟩ := hrel
    have HFr := Lib.hid hF
    have HSr := Lib.hid hS
    have HUr := Lib.hid hU
    have HLI := Lib.hid hLi
    have HL2 := Lib.hid hL2
    have HLB := Lib.hid hLb
    have HFF := Lib.hid hf
    have plr := hF.lt
    have HBR : Hid (Below W.heap.size W wr) := Lib.hid (HBW.out.trans (hS.below (by omega) (fun k hk => .inl (by omega))))
    clear hF hS hU hLi hL2 hLb hf HF HSU
    by_cases hlt : i < n
    · as_aux_lemma =>
        obtain ⟨z, hz⟩ : ∃ z, z0[i]? = some z := ⟨z0[i]'(by have := HW0.out.1; omega), List.getElem?_eq_getElem (by have := HW0.out.1; omega)⟩
        obtain ⟨b, off, rfl, hc⟩ := HW0.out.2.1.at (k := i) (by have := HW0.out.1; omega)
        have hzi : z0[i]'(by have := HW0.out.1; omega) = z := by
          rw [List.getElem?_eq_getElem (by have := HW0.out.1; omega)] at hz; exact Option.some.inj hz
        rw [hzi] at hc
        have hzs : z.size ≤ 9223372036854775807 := HW0.out.2.2.2 z (List.mem_of_getElem? hz)
        have hbw := World.block_lt_of_cell? W _ hc
        have hcr := (HBR.out.cell (p := ⟨b, off + i, none⟩) hbw).trans hc
        have hil : i < len0 := by omega
        have hbk : b ≠ kb + 1 := by have : b < W.heap.size := hbw; omega
        have hbl : b < wr.heap.size := World.block_lt_of_cell? wr _ hcr
        obtain ⟨q, hq⟩ : ∃ q, min z.size 2000 = q := ⟨_, rfl⟩
        have hm2 := fun ts t wx => run_min2 (P := Try.prog) (w := wx) ts t (z.size : Int) 2000 (q : Int) (by omega)
        have hqz : q ≤ z.size := by omega
        have hq2 : q ≤ 2000 := by omega
        have hfz := HUr.out.fz i
        have hcu := HUr.out.cell hlt
        have hul := HUr.out.lt
        have hexs : (z.extract 0 q).size ≤ 2000 := by rw [ByteArray.size_extract]; omega
        clear hc hz hzi hq hbw
        go_wp2_with fail
        go_region
        obtain ⟨s, hs⟩ : ∃ s, z.extract 0 q = s := ⟨_, rfl⟩
        have ht1 : Touch (kb + 1) wr (wr.setCell ⟨kb + 1, i, none⟩ (.string s)).drew := (Touch.setCell (a := ⟨kb + 1, i, none⟩) _).trans (Touch.drewN _ _ 1)
        have hkn : ¬ KG m kb (kb + 1) := by unfold KG; omega
        obtain ⟨Wr, hWr⟩ : ∃ Wr, (wr.setCell ⟨kb + 1, i, none⟩ (.string s)).drew = Wr := ⟨_, rfl⟩
        rw [hs] at hexs
        rw [hs, hWr]
        have HF1 : Hid (Fx (KH m kb (kb + 1)) Wr m (kst L)) := Lib.hid (by rw [← hWr]; exact (HFr.out.set (.inr rfl)).drewN 1)
        have HSr1 : Hid (Stay (KG m kb) W4 Wr) := Lib.hid (by rw [← hWr]; exact HSr.out.own ht1 hkn)
        have HU1 : Hid (SuAt Wr (kb + 1) n (upd f i s)) := Lib.hid (by rw [← hWr]; exact (HUr.out.set hlt s).keep rfl)
        have HQ : Hid (∀ w', Stay (KH m kb (kb + 1)) Wr w' → w'.cell? ⟨kb, i, none⟩ = some (.string (strB (kp i))) ∧ w'.cell? ⟨kb + 1, i, none⟩ = some (.string s)) := Lib.hid fun w' h => ⟨(HKP.out.stay (HSr1.out.trans (h.mono (fun k hk => .inl hk))) (by omega) (.inr rfl)).cell (by omega), by
          have := (HU1.out.stay h (.inr rfl)).cell hlt
          rw [this]; unfold upd; rw [if_pos rfl]⟩
        have hi5 : (i : Int) < 5 := by omega
        have hsn : (natsOf s).length ≤ 2000 := by rw [natsOf_length]; exact hexs
        obtain ⟨s1, s2, e1, e2, e3, t0, t1, t2⟩ := kst_step (by rw [HLI.out]; omega) HL2.out hsn
        rw [HLI.out] at e1 e2 e3
        have HE1 := Lib.hid e1
        have HE2 := Lib.hid e2
        have HE3 := Lib.hid e3
        have HTP := Lib.hid (And.intro t0 (And.intro t1 t2))
        clear e1 e2 e3 t0 t1 t2 hWr ht1 hs hfz hcu hcr hsn hkn hm2 HFr HUr HSr
        go_wp2_with fail
        refine wp_region_held_drew (S := (fun w' => w'.cell? ⟨kb, i, none⟩ = some (.string (strB (kp i))) ∧ w'.cell? ⟨kb + 1, i, none⟩ = some (.string s))) (by kernel_rfl) (HQ.out _ (Stay.drewN _ _ 1)) (fun hHeld => ?_)
        refine wpAnyH_take (i := 0) (v := ?_) rfl (by kernel_rfl) (by kernel_rfl) (by kernel_rfl) (fun _ _ _ h => h) (Or.inl ⟨by rfl, ?_⟩) hHeld ?_
        rotate_left
        · (intro wx hSw; obtain ⟨hk1, hk2⟩ := hSw; first | (go_simp; done) | (go_simp; with_reducible rfl))
        simp only [Act.put, List.getElem_toArray, List.getElem_cons_zero, List.setIfInBounds_toArray, List.set_cons_zero, List.set_cons_succ]
        refine wpAnyH_take (i := 1) (v := ?_) rfl (by kernel_rfl) (by kernel_rfl) (by kernel_rfl) (fun _ _ _ h => h) (Or.inl ⟨by rfl, ?_⟩) hHeld ?_
        rotate_left
        · (intro wx hSw; obtain ⟨hk1, hk2⟩ := hSw; first | (go_simp; done) | (go_simp; with_reducible rfl))
        simp only [Act.put, List.getElem_toArray, List.getElem_cons_zero, List.getElem_cons_succ, List.setIfInBounds_toArray, List.set_cons_zero, List.set_cons_succ]
        refine wpAnyH_take (i := 2) (v := ?_) rfl (by kernel_rfl) (by kernel_rfl) (by kernel_rfl) (fun _ _ _ h => h) (Or.inl ⟨by rfl, ?_⟩) hHeld ?_
        rotate_left
        · (intro wx hSw; obtain ⟨hk1, hk2⟩ := hSw; first | (go_simp; done) | (go_simp; with_reducible rfl))
        simp only [Act.put, List.getElem_toArray, List.getElem_cons_zero, List.getElem_cons_succ, List.setIfInBounds_toArray, List.set_cons_zero, List.set_cons_succ]
        refine wpAnyH_take (i := 3) (v := ?_) rfl (by kernel_rfl) (by kernel_rfl) (by kernel_rfl) (fun _ _ _ h => h) (Or.inl ⟨by rfl, ?_⟩) hHeld ?_
        rotate_left
        · (intro wx hSw; obtain ⟨hk1, hk2⟩ := hSw; first | (go_simp; done) | (go_simp; with_reducible rfl))
        simp only [Act.put, List.getElem_toArray, List.getElem_cons_zero, List.getElem_cons_succ, List.setIfInBounds_toArray, List.set_cons_zero, List.set_cons_succ]
        refine wpAnyH_take (i := 4) (v := ?_) rfl (by kernel_rfl) (by kernel_rfl) (by kernel_rfl) (fun _ _ _ h => h) (Or.inl ⟨by rfl, ?_⟩) hHeld ?_
        rotate_left
        · (intro wx hSw; obtain ⟨hk1, hk2⟩ := hSw; first | (go_simp; done) | (go_simp; with_reducible rfl))
        simp only [Act.put, List.getElem_toArray, List.getElem_cons_zero, List.getElem_cons_succ, List.setIfInBounds_toArray, List.set_cons_zero, List.set_cons_succ]
        refine wpAnyH_ready (rs := [5]) (by kernel_rfl) (by simp) ?_
        refine AllReadyH.cons rfl (fun K hK => ?_) AllReadyH.nil
        go_simp
        refine (fxQ (fx_create (HF1.out.drewN 1) (strB (kp i)) (by have := HTP.out.1; omega)) (show (kst L).create (strB (kp i)).data.toList = (0, s1) by rw [strB_list]; exact HE1.out)).mono ?_
        rintro e X1 ⟨rfl, hF, hS⟩
        have HS1 := Lib.hid ((Stay.drewN (KH m kb (kb + 1)) Wr 1).trans hS)
        obtain ⟨capT, wT, hcv, hbT, hap⟩ := fx_append_text2 hF (strB (kp i)) (by have := HTP.out.2.1; omega) s (by omega)
        have HC2 := Lib.hid (fxQ hap (show s1.append (strB (kp i)).data.toList (natsOf s) = (0, s2) by rw [strB_list]; exact HE2.out))
        have HBT := Lib.hid hbT
        clear hF hS hap hbT
        try go_wp2_with fail
        refine hK.out _ _ (HQ.out X1 HS1.out) (fun hHeld => ?_)
        clear hK K
        try simp only [Act.put, List.setIfInBounds_toArray, List.set_cons_zero, List.set_cons_succ]
        refine wpAnyH_take (i := 6) (v := ?_) rfl (by kernel_rfl) (by kernel_rfl) (by kernel_rfl) (fun _ _ _ h => h) (Or.inl ⟨by rfl, ?_⟩) hHeld ?_
        rotate_left
        · (intro wx hSw; obtain ⟨hk1, hk2⟩ := hSw; first | (go_simp; done) | (go_simp; with_reducible rfl))
        simp only [Act.put, List.getElem_toArray, List.getElem_cons_zero, List.getElem_cons_succ, List.setIfInBounds_toArray, List.set_cons_zero, List.set_cons_succ]
        refine wpAnyH_take (i := 7) (v := ?_) rfl (by kernel_rfl) (by kernel_rfl) (by kernel_rfl) (fun _ _ _ h => h) (Or.inl ⟨by rfl, ?_⟩) hHeld ?_
        rotate_left
        · (intro wx hSw; obtain ⟨hk1, hk2⟩ := hSw; first | (go_simp; done) | (go_simp; with_reducible rfl))
        simp only [Act.put, List.getElem_toArray, List.getElem_cons_zero, List.getElem_cons_succ, List.setIfInBounds_toArray, List.set_cons_zero, List.set_cons_succ]
        refine wpAnyH_take (i := 8) (v := ?_) rfl (by kernel_rfl) (by kernel_rfl) (by kernel_rfl) (fun _ _ _ h => h) (Or.inl ⟨by rfl, ?_⟩) hHeld ?_
        rotate_left
        · (intro wx hSw; obtain ⟨hk1, hk2⟩ := hSw; first | (go_simp; done) | (go_simp; with_reducible rfl))
        simp only [Act.put, List.getElem_toArray, List.getElem_cons_zero, List.getElem_cons_succ, List.setIfInBounds_toArray, List.set_cons_zero, List.set_cons_succ]
        refine wpAnyH_take (i := 9) (v := ?_) rfl (by kernel_rfl) (by kernel_rfl) (by kernel_rfl) (fun _ _ _ h => h) (Or.inl ⟨by rfl, ?_⟩) hHeld ?_
        rotate_left
        · (intro wx hSw; obtain ⟨hk1, hk2⟩ := hSw; first | (go_simp; done) | (go_simp; with_reducible rfl))
        simp only [Act.put, List.getElem_toArray, List.getElem_cons_zero, List.getElem_cons_succ, List.setIfInBounds_toArray, List.set_cons_zero, List.set_cons_succ]
        refine wpAnyH_take (i := 10) (v := ?_) rfl (by kernel_rfl) (by kernel_rfl) (by kernel_rfl) (fun _ _ _ h => h) (Or.inl ⟨by rfl, ?_⟩) hHeld ?_
        rotate_left
        · (intro wx hSw; obtain ⟨hk1, hk2⟩ := hSw; first | (go_simp; done) | (go_simp; with_reducible rfl))
        simp only [Act.put, List.getElem_toArray, List.getElem_cons_zero, List.getElem_cons_succ, List.setIfInBounds_toArray, List.set_cons_zero, List.set_cons_succ]
        refine wpAnyH_take (i := 11) (v := ?_) rfl (by kernel_rfl) (by kernel_rfl) (by kernel_rfl) (fun _ _ _ h => h) (Or.inl ⟨by rfl, ?_⟩) hHeld ?_
        rotate_left
        · (intro wx hSw; obtain ⟨hk1, hk2⟩ := hSw; first | (go_simp; done) | (go_simp; with_reducible rfl))
        simp only [Act.put, List.getElem_toArray, List.getElem_cons_zero, List.getElem_cons_succ, List.setIfInBounds_toArray, List.set_cons_zero, List.set_cons_succ]
        refine wpAnyH_take (i := 12) (v := ?_) rfl (by kernel_rfl) (by kernel_rfl) (by kernel_rfl) (fun _ _ _ h => h) (Or.inl ⟨by rfl, ?_⟩) hHeld ?_
        rotate_left
        · (intro wx hSw; obtain ⟨hk1, hk2⟩ := hSw; first | (go_simp; done) | (go_simp; with_reducible rfl))
        simp only [Act.put, List.getElem_toArray, List.getElem_cons_zero, List.getElem_cons_succ, List.setIfInBounds_toArray, List.set_cons_zero, List.set_cons_succ]
        refine wpAnyH_take (i := 13) (v := ?_) rfl (by kernel_rfl) (by kernel_rfl) (by kernel_rfl) (fun _ _ _ h => h) (Or.inl ⟨by rfl, ?_⟩) hHeld ?_
        rotate_left
        · (intro wx hSw; obtain ⟨hk1, hk2⟩ := hSw; first | (go_simp; done) | (go_simp; with_reducible rfl))
        simp only [Act.put, List.getElem_toArray, List.getElem_cons_zero, List.getElem_cons_succ, List.setIfInBounds_toArray, List.set_cons_zero, List.set_cons_succ]
        refine wpAnyH_take (i := 14) (v := ?_) rfl (by kernel_rfl) (by kernel_rfl) (by kernel_rfl) (fun _ _ _ h => h) (Or.inl ⟨by rfl, ?_⟩) hHeld ?_
        rotate_left
        · (intro wx hSw; obtain ⟨hk1, hk2⟩ := hSw; first | (go_simp; done) | (go_simp; with_reducible rfl))
        simp only [Act.put, List.getElem_toArray, List.getElem_cons_zero, List.getElem_cons_succ, List.setIfInBounds_toArray, List.set_cons_zero, List.set_cons_succ]
        refine wpAnyH_take (i := 15) (v := ?_) rfl (by kernel_rfl) (by kernel_rfl) (by kernel_rfl) (fun _ _ _ h => h) (Or.inl ⟨by rfl, ?_⟩) hHeld ?_
        rotate_left
        · (intro wx hSw; obtain ⟨hk1, hk2⟩ := hSw; first | (go_simp; done) | (go_simp; with_reducible rfl))
        simp only [Act.put, List.getElem_toArray, List.getElem_cons_zero, List.getElem_cons_succ, List.setIfInBounds_toArray, List.set_cons_zero, List.set_cons_succ]
        refine wpAnyH_take (i := 16) (v := ?_) rfl (by kernel_rfl) (by kernel_rfl) (by kernel_rfl) (fun _ _ _ h => h) (Or.inl ⟨by rfl, ?_⟩) hHeld ?_
        rotate_left
        · (intro wx hSw; obtain ⟨hk1, hk2⟩ := hSw; first | (go_simp; done) | (go_simp; with_reducible rfl))
        simp only [Act.put, List.getElem_toArray, List.getElem_cons_zero, List.getElem_cons_succ, List.setIfInBounds_toArray, List.set_cons_zero, List.set_cons_succ]
        refine wpAnyH_ready (rs := [17]) (by kernel_rfl) (by simp) ?_
        refine AllReadyH.cons rfl (fun K hK => ?_) AllReadyH.nil
        go_simp
        skip
        try go_wp2_with fail
        refine hK.out _ _ (HQ.out wT (HS1.out.trans (Stay.of_below HBT.out))) (fun hHeld => ?_)
        clear hK K
        try simp only [Act.put, List.setIfInBounds_toArray, List.set_cons_zero, List.set_cons_succ]
        refine wpAnyH_ready (rs := [18]) (by kernel_rfl) (by simp) ?_
        refine AllReadyH.cons rfl (fun K hK => ?_) AllReadyH.nil
        go_simp
        refine HC2.out.mono ?_
        rintro e X2 ⟨rfl, hF, hS⟩
        have HS2 := Lib.hid (HS1.out.trans hS)
        have HC3 := Lib.hid (fxQ (fx_sync hF (strB (kp i))) (show s2.sync (strB (kp i)).data.toList = (0, kst (L ++ [natsOf s])) by rw [strB_list]; exact HE3.out))
        clear hF hS HC2 hcv HS1 HBT
        try go_wp2_with fail
        refine hK.out _ _ (HQ.out X2 HS2.out) (fun hHeld => ?_)
        clear hK K
        try simp only [Act.put, List.setIfInBounds_toArray, List.set_cons_zero, List.set_cons_succ]
        refine wpAnyH_take (i := 19) (v := ?_) rfl (by kernel_rfl) (by kernel_rfl) (by kernel_rfl) (fun _ _ _ h => h) (Or.inl ⟨by rfl, ?_⟩) hHeld ?_
        rotate_left
        · (intro wx hSw; obtain ⟨hk1, hk2⟩ := hSw; first | (go_simp; done) | (go_simp; with_reducible rfl))
        simp only [Act.put, List.getElem_toArray, List.getElem_cons_zero, List.getElem_cons_succ, List.setIfInBounds_toArray, List.set_cons_zero, List.set_cons_succ]
        refine wpAnyH_take (i := 20) (v := ?_) rfl (by kernel_rfl) (by kernel_rfl) (by kernel_rfl) (fun _ _ _ h => h) (Or.inl ⟨by rfl, ?_⟩) hHeld ?_
        rotate_left
        · (intro wx hSw; obtain ⟨hk1, hk2⟩ := hSw; first | (go_simp; done) | (go_simp; with_reducible rfl))
        simp only [Act.put, List.getElem_toArray, List.getElem_cons_zero, List.getElem_cons_succ, List.setIfInBounds_toArray, List.set_cons_zero, List.set_cons_succ]
        refine wpAnyH_take (i := 21) (v := ?_) rfl (by kernel_rfl) (by kernel_rfl) (by kernel_rfl) (fun _ _ _ h => h) (Or.inl ⟨by rfl, ?_⟩) hHeld ?_
        rotate_left
        · (intro wx hSw; obtain ⟨hk1, hk2⟩ := hSw; first | (go_simp; done) | (go_simp; with_reducible rfl))
        simp only [Act.put, List.getElem_toArray, List.getElem_cons_zero, List.getElem_cons_succ, List.setIfInBounds_toArray, List.set_cons_zero, List.set_cons_succ]
        refine wpAnyH_take (i := 22) (v := ?_) rfl (by kernel_rfl) (by kernel_rfl) (by kernel_rfl) (fun _ _ _ h => h) (Or.inl ⟨by rfl, ?_⟩) hHeld ?_
        rotate_left
        · (intro wx hSw; obtain ⟨hk1, hk2⟩ := hSw; first | (go_simp; done) | (go_simp; with_reducible rfl))
        simp only [Act.put, List.getElem_toArray, List.getElem_cons_zero, List.getElem_cons_succ, List.setIfInBounds_toArray, List.set_cons_zero, List.set_cons_succ]
        refine wpAnyH_take (i := 23) (v := ?_) rfl (by kernel_rfl) (by kernel_rfl) (by kernel_rfl) (fun _ _ _ h => h) (Or.inl ⟨by rfl, ?_⟩) hHeld ?_
        rotate_left
        · (intro wx hSw; obtain ⟨hk1, hk2⟩ := hSw; first | (go_simp; done) | (go_simp; with_reducible rfl))
        simp only [Act.put, List.getElem_toArray, List.getElem_cons_zero, List.getElem_cons_succ, List.setIfInBounds_toArray, List.set_cons_zero, List.set_cons_succ]
        refine wpAnyH_take (i := 24) (v := ?_) rfl (by kernel_rfl) (by kernel_rfl) (by kernel_rfl) (fun _ _ _ h => h) (Or.inl ⟨by rfl, ?_⟩) hHeld ?_
        rotate_left
        · (intro wx hSw; obtain ⟨hk1, hk2⟩ := hSw; first | (go_simp; done) | (go_simp; with_reducible rfl))
        simp only [Act.put, List.getElem_toArray, List.getElem_cons_zero, List.getElem_cons_succ, List.setIfInBounds_toArray, List.set_cons_zero, List.set_cons_succ]
        refine wpAnyH_take (i := 25) (v := ?_) rfl (by kernel_rfl) (by kernel_rfl) (by kernel_rfl) (fun _ _ _ h => h) (Or.inl ⟨by rfl, ?_⟩) hHeld ?_
        rotate_left
        · (intro wx hSw; obtain ⟨hk1, hk2⟩ := hSw; first | (go_simp; done) | (go_simp; with_reducible rfl))
        simp only [Act.put, List.getElem_toArray, List.getElem_cons_zero, List.getElem_cons_succ, List.setIfInBounds_toArray, List.set_cons_zero, List.set_cons_succ]
        refine wpAnyH_take (i := 26) (v := ?_) rfl (by kernel_rfl) (by kernel_rfl) (by kernel_rfl) (fun _ _ _ h => h) (Or.inl ⟨by rfl, ?_⟩) hHeld ?_
        rotate_left
        · (intro wx hSw; obtain ⟨hk1, hk2⟩ := hSw; first | (go_simp; done) | (go_simp; with_reducible rfl))
        simp only [Act.put, List.getElem_toArray, List.getElem_cons_zero, List.getElem_cons_succ, List.setIfInBounds_toArray, List.set_cons_zero, List.set_cons_succ]
        refine wpAnyH_ready (rs := [27]) (by kernel_rfl) (by simp) ?_
        refine AllReadyH.cons rfl (fun K hK => ?_) AllReadyH.nil
        go_simp
        refine HC3.out.mono ?_
        rintro e X3 ⟨rfl, hF, hS⟩
        have HS3 := Lib.hid (HS2.out.trans hS)
        have HF3 := Lib.hid hF
        clear hF hS HC3 HS2
        try go_wp2_with fail
        refine hK.out _ _ (HQ.out X3 HS3.out) (fun hHeld => ?_)
        clear hK K
        try simp only [Act.put, List.setIfInBounds_toArray, List.set_cons_zero, List.set_cons_succ]
        refine wpAnyH_take (i := 28) (v := ?_) rfl (by kernel_rfl) (by kernel_rfl) (by kernel_rfl) (fun _ _ _ h => h) (Or.inl ⟨by rfl, ?_⟩) hHeld ?_
        rotate_left
        · (intro wx hSw; obtain ⟨hk1, hk2⟩ := hSw; first | (go_simp; done) | (go_simp; with_reducible rfl))
        simp only [Act.put, List.getElem_toArray, List.getElem_cons_zero, List.getElem_cons_succ, List.setIfInBounds_toArray, List.set_cons_zero, List.set_cons_succ]
        refine wpAnyH_take (i := 29) (v := ?_) rfl (by kernel_rfl) (by kernel_rfl) (by kernel_rfl) (fun _ _ _ h => h) (Or.inl ⟨by rfl, ?_⟩) hHeld ?_
        rotate_left
        · (intro wx hSw; obtain ⟨hk1, hk2⟩ := hSw; first | (go_simp; done) | (go_simp; with_reducible rfl))
        simp only [Act.put, List.getElem_toArray, List.getElem_cons_zero, List.getElem_cons_succ, List.setIfInBounds_toArray, List.set_cons_zero, List.set_cons_succ]
        refine wpAnyH_done (by kernel_rfl) ?_ _
        go_wp2
        go_roundw
        case rel => exact ⟨i + 1, L ++ [natsOf s], upd f i s, by go_num, by omega, by rw [List.length_append, HLI.out]; rfl, (fun b hb => by
          rcases List.mem_append.1 hb with h | h
          · exact HL2.out b h
          · simp at h; subst h; rw [natsOf_length]; exact hexs), (fun b hb => by
          rcases List.mem_append.1 hb with h | h
          · exact HLB.out b h
          · simp at h; subst h; exact natsOf_byte s), HF3.out, HSr1.out.trans (HS3.out.mono (fun k hk => .inl hk)), HU1.out.stay HS3.out (.inr rfl), fun k hk => by
          unfold upd
          by_cases e : k = i
          · subst e; rw [if_pos rfl, List.getD_eq_getElem?_getD, List.getElem?_append_right (by rw [HLI.out]; omega), HLI.out]; simp [strOf_natsOf]
          · rw [if_neg e, HFF.out k (by omega), List.getD_eq_getElem?_getD, List.getD_eq_getElem?_getD, List.getElem?_append_left (by rw [HLI.out]; omega)]⟩
        case measure => simp [intOf]; omega
    · obtain rfl : i = n := by omega
      obtain ⟨a, ea, hK, htop⟩ := kst_end (L := L) (by rw [HLI.out]; omega)
      rw [HLI.out] at hK
      have HE := Lib.hid ea
      have HF := HFr
      have HS := Lib.hid (Stay.refl (KH m kb (kb + 1)) wr)
      have pl := plr
      have HKI : Hid (KInv kp a i (fun k => L.getD k [])) := Lib.hid hK
      have HTO := Lib.hid (show (kst L).top ≤ 5 by
        have : (kst L).top = max ((List.range L.length).map fun k => (kp k, k)).length (0 + ((List.range L.length).map fun k => Ch.create (kp k) k).length) := rfl
        rw [this, List.length_map, List.length_map, List.length_range, HLI.out]; omega)
      have HTA := Lib.hid htop
      clear ea hK htop
      have HC := Lib.hid (fxQ (fx_syncDir HF.out) HE.out)
      go_wp2_with fail
      refine HC.out.mono ?_
      rintro e W5 ⟨rfl, hF, hS⟩
      replace HS := Lib.hid (HS.out.trans hS)
      replace HF := Lib.hid hF
      replace pl := hF.lt
      clear hF hS HC
      have HSU := Lib.hid (HUr.out.stay HS.out (.inr rfl))
      have HS5 : Hid (Stay (KG m kb) W4 W5) := Lib.hid (HSr.out.trans (HS.out.mono (fun k hk => .inl hk)))
      have HB5 : Hid (∀ k, k < i → ∀ x ∈ L.getD k [], x < 256) := Lib.hid fun k hk x hx => by
        rw [List.getD_eq_getElem?_getD, List.getElem?_eq_getElem (by rw [HLI.out]; exact hk)] at hx
        exact HLB.out _ (List.getElem_mem _) x hx
      go_wp2_with fail
      clear HUr HSr HFr HS HBR plr
      go_loopw [11, 12, 13, 14, 15, 16, 17, 18, 19] (fun u11 _ _ _ _ _ _ _ _ wr => ∃ (j : Nat) (a : A) (sure : Nat → List Nat) (f : Nat → ByteArray), u11 = .int .i64 j ∧ j ≤ 70 ∧ j ≤ len1 ∧ Fx (KH m kb (kb + 1)) wr m a ∧ Stay (KG m kb) W4 wr ∧ SuAt wr (kb + 1) i f ∧ (∀ k, k < i → f k = strOf (sure k)) ∧ (∀ k, k < i → ∀ x ∈ sure k, x < 256) ∧ KInv kp a i sure ∧ a.top ≤ 5 + j) (fun u11 _ _ _ _ _ _ _ _ _ => 70 - (intOf u11).toNat)
      case atStart => exact ⟨0, a, _, f, rfl, Nat.zero_le _, Nat.zero_le _, HF.out, HS5.out, HSU.out, HFF.out, HB5.out, HKI.out, HTA.out⟩
      case round =>
        obtain ⟨j, a, sure, f, rfl, hj70, hjl, hF, hS, hU, hf, hx, hK, htop⟩ := hrel
        have HFr := Lib.hid hF
        have HSr := Lib.hid hS
        have HUr := Lib.hid hU
        have HFF := Lib.hid hf
        have HXX := Lib.hid hx
        have HKr := Lib.hid hK
        have HTO := Lib.hid htop
        have plr := hF.lt
        have HBR : Hid (Below W.heap.size W wr) := Lib.hid (HBW.out.trans (hS.below (by omega) (fun k hk => .inl (by omega))))
        clear hF hS hU hf hx hK htop HF HS5 HSU HKI HB5 HTA
        by_cases hin1 : j < len1
        · by_cases hin2 : j < 70
          · obtain ⟨b, off, rfl, hbw, d, hD⟩ := HW1.out.2.2 j hin1
            obtain ⟨call, name, to, av, bv, data, pad, plen, pcap, pz⟩ := d
            have hD' := hD.keep HBR.out hbw
            obtain ⟨c0, c1, c2, c3, c4, c5, c6, f0, f3, f4, n1, n2, n5, hr⟩ := hD'
            dsimp only at c0 c1 c2 c3 c4 c5 c6 f0 f3 f4 n1 n2 n5 hr
            have hbl : b < wr.heap.size := World.block_lt_of_cell? wr _ c0
            have HPI := Lib.hid hr
            have HAV := Lib.hid (wf_i64 f3)
            have HFd : Hid (Fx (KH m kb (kb + 1)) (wr.alloc (.cells #[.int .i64 call, .string name, .string to, .int .i64 av, .int .i64 bv, .string data, .slice pad plen pcap] 39)) m a) := Lib.hid (HFr.out.below (bel1 wr _))
            have HSd : Hid (Stay (KG m kb) W4 (wr.alloc (.cells #[.int .i64 call, .string name, .string to, .int .i64 av, .int .i64 bv, .string data, .slice pad plen pcap] 39))) := Lib.hid (HSr.out.trans (Stay.alloc _ wr _))
            have HUd : Hid (SuAt (wr.alloc (.cells #[.int .i64 call, .string name, .string to, .int .i64 av, .int .i64 bv, .string data, .slice pad plen pcap] 39)) (kb + 1) i f) := Lib.hid (HUr.out.stay (Stay.alloc (fun _ => True) wr _) trivial)
            have hkl : kb < wr.heap.size := by have := HSr.out.size; omega
            have hsl : kb + 1 < wr.heap.size := HUr.out.lt
            have HN1 := Lib.hid n1
            have HN2 := Lib.hid n2
            obtain ⟨k2, hk2⟩ : ∃ k2, min data.size 200 = k2 := ⟨_, rfl⟩
            have hm2 := fun ts t wx => run_min2 (P := Try.prog) (w := wx) ts t (data.size : Int) 200 (k2 : Int) (by omega)
            have hk3 : k2 ≤ data.size := by omega
            have hk4 : k2 ≤ 200 := by omega
            have hdt : (data.extract 0 k2).size ≤ 200 := by rw [ByteArray.size_extract]; omega
            have hi5 : (i : Int) ≤ 5 := by omega
            unfold maxLen at n5
            clear hr f0 f3 f4 hD n1 n2 hk2
            by_cases q1 : call = 1
            · as_aux_lemma =>
                subst q1
                go_wp2_with fail
                refine (low_any name _ (by have := HN1.out; unfold maxLen at this; omega)).mono ?_
                rintro e W6 ⟨t, rfl, ht9, hb6⟩
                have HF6 := Lib.hid (HFd.out.below hb6)
                have HS6 := Lib.hid (HSd.out.trans (Stay.of_below hb6))
                have HU6 := Lib.hid (HUd.out.stay (Stay.of_below (G := fun _ => True) hb6) trivial)
                obtain ⟨nt, hnt⟩ : ∃ nt, (⟨#[110, 101, 119, 45]⟩ : ByteArray) ++ t = nt := ⟨_, rfl⟩
                have hadd := fun wx => run_string_add_sum (P := Try.prog) (w := wx) ⟨#[110, 101, 119, 45]⟩ t (by show 4 + t.size ≤ _; omega)
                simp only [hnt] at hadd
                have HNE := Lib.hid (show ∀ k, nt.data.toList ≠ kp k by rw [← hnt]; exact kp_ne t)
                clear hb6 hnt ht9
                obtain ⟨r, hr⟩ : ∃ r, a.create nt.data.toList = r := ⟨_, rfl⟩
                have HC := Lib.hid (fx_create HF6.out nt (by have := HTO.out; omega))
                rw [hr] at HC
                have HKe : Hid (KInv kp r.2 i sure) := Lib.hid (by rw [← hr]; exact HKr.out.create (fun k _ => HNE.out k))
                have HTe : Hid (r.2.top ≤ 5 + j + 1) := Lib.hid (by rw [← hr]; have := HTO.out; have := create_top a nt.data.toList; omega)
                clear hr
                go_wp2_with fail
                refine HC.out.mono ?_
                rintro e W7 ⟨rfl, hF7, hS7⟩
                have HFe := Lib.hid hF7
                have HSe := Lib.hid (HS6.out.trans (hS7.mono (fun k hk => .inl hk)))
                have HUe := Lib.hid (HU6.out.stay hS7 (.inr rfl))
                clear hF7 hS7 HC
                have HFFe := HFF
                have HXXe := HXX
                go_wp2
                go_roundw
                case rel => exact ⟨j + 1, r.2, sure, f, by go_num, by omega, by omega, HFe.out, HSe.out, HUe.out, HFFe.out, HXXe.out, HKe.out, by have := HTe.out; omega⟩
                case measure => simp [intOf]; omega
            have p1 : (call == 1) = false := by simp; exact q1
            by_cases q2 : call = 2
            · as_aux_lemma =>
                subst q2
                by_cases hi0 : 0 < i
                · have hg1 : decide ((0 : Int) < (i : Int)) = true := by simp; omega
                  obtain ⟨K, hK1, hK2, hK3, -⟩ := modU av (i : Int) (by omega) (by omega)
                  have hK : K < i := by omega
                  have hK5 : (K : Int) < 5 := by omega
                  have hkc := (HKP.out.stay HSr.out (by omega) (.inr rfl)).cell (i := K) (by omega)
                  obtain ⟨tx, htx⟩ : ∃ tx, data.extract 0 k2 = tx := ⟨_, rfl⟩
                  rw [htx] at hdt
                  obtain ⟨capT, wT, hcv, hbT, hap⟩ := fx_append_text2 HFd.out (strB (kp K)) (by have := HTO.out; omega) tx (by omega)
                  have hsz : (wr.alloc (.cells #[.int .i64 2, .string name, .string to, .int .i64 av, .int .i64 bv, .string data, .slice pad plen pcap] 39)).heap.size = wr.heap.size + 1 := by simp
                  rw [hsz] at hcv hap
                  clear hsz
                  obtain ⟨r, hr⟩ : ∃ r, a.append (strB (kp K)).data.toList (natsOf tx) = r := ⟨_, rfl⟩
                  rw [hr] at hap
                  have HC := Lib.hid hap
                  have HKe : Hid (KInv kp r.2 i sure) := Lib.hid (by rw [← hr, strB_list]; exact HKr.out.append (fun k hk => kp_nm ⟨k, by omega⟩) hK _)
                  have HTe : Hid (r.2.top ≤ 5 + j + 1) := Lib.hid (by rw [← hr]; have := HTO.out; have := append_top a (strB (kp K)).data.toList (natsOf tx); omega)
                  have HBT := Lib.hid hbT
                  clear hr hap hbT
                  go_wp2_with fail
                  refine HC.out.mono ?_
                  rintro e W7 ⟨rfl, hF7, hS7⟩
                  have HFe := Lib.hid hF7
                  have HSe := Lib.hid (HSd.out.trans (hS7.mono (fun k hk => .inl hk)))
                  have HUe := Lib.hid (HUd.out.stay hS7 (.inr rfl))
                  clear hF7 hS7 HC hcv
                  have HFFe := HFF
                  have HXXe := HXX
                  go_wp2
                  go_roundw
                  case rel => exact ⟨j + 1, r.2, sure, f, by go_num, by omega, by omega, HFe.out, HSe.out, HUe.out, HFFe.out, HXXe.out, HKe.out, by have := HTe.out; omega⟩
                  case measure => simp [intOf]; omega
                · have hg1 : decide ((0 : Int) < (i : Int)) = false := by simp; omega
                  obtain rfl : i = 0 := by omega
                  have HFe := HFd
                  have HSe := HSd
                  have HUe := HUd
                  have HKe := HKr
                  have HTe := Lib.hid (show a.top ≤ 5 + j + 1 by have := HTO.out; omega)
                  have HFFe := HFF
                  have HXXe := HXX
                  go_wp2
                  go_roundw
                  case rel => exact ⟨j + 1, a, sure, f, by go_num, by omega, by omega, HFe.out, HSe.out, HUe.out, HFFe.out, HXXe.out, HKe.out, by have := HTe.out; omega⟩
                  case measure => simp [intOf]; omega
            have p2 : (call == 2) = false := by simp; exact q2
            by_cases q5 : call = 5
            · as_aux_lemma =>
                subst q5
                by_cases hi0 : 0 < i
                · have hg1 : decide ((0 : Int) < (i : Int)) = true := by simp; omega
                  obtain ⟨K, hK1, hK2, hK3, -⟩ := modU av (i : Int) (by omega) (by omega)
                  have hK : K < i := by omega
                  have hK5 : (K : Int) < 5 := by omega
                  have hkc := (HKP.out.stay HSr.out (by omega) (.inr rfl)).cell (i := K) (by omega)
                  obtain ⟨r, hr⟩ : ∃ r, a.sync (kp K) = r := ⟨_, rfl⟩
                  have hsy := HKr.out.sync (fun k hk => kp_nm ⟨k, by omega⟩) hK HFr.out.ok
                  have HC := Lib.hid (fx_sync HFd.out (strB (kp K)))
                  have hst := sync_top a (kp K)
                  rw [strB_list, hr] at HC
                  rw [hr] at hsy hst
                  have HTe : Hid (r.2.top ≤ 5 + j + 1) := Lib.hid (by rw [hst]; have := HTO.out; omega)
                  obtain ⟨z, r2⟩ := r
                  dsimp only at hsy HC HTe
                  clear hr hst hm2 hdt hk3 hk4
                  rcases hsy with ⟨rfl, l, hrE, hrL, hKn⟩ | ⟨rfl, hKn⟩
                  · have HKe := Lib.hid hKn
                    have HRE := Lib.hid hrE
                    have HRL := Lib.hid hrL
                    clear hKn hrE hrL
                    go_wp2_with fail
                    refine HC.out.mono ?_
                    rintro e W7 ⟨rfl, hF7, hS7⟩
                    have HR := Lib.hid (fxRd (l' := l) (E' := 0) (fx_read hF7 (strB (kp K)) 0 1048576) (by rw [strB_list]; exact HRL.out) (by rw [strB_list]; exact HRE.out))
                    have hlb : ∀ x ∈ l, x < 256 := by rw [← HRL.out]; exact read_byte hF7.ok _ _ _
                    have HLBy := Lib.hid hlb
                    have HS7 := Lib.hid (HSd.out.trans (hS7.mono (fun k hk => .inl hk)))
                    have HU7 := Lib.hid (HUd.out.stay hS7 (.inr rfl))
                    have hkc7 := (HKP.out.stay HS7.out (by omega) (.inr rfl)).cell (i := K) (by omega)
                    have hkl7 : kb < W7.heap.size := World.block_lt_of_cell? W7 _ hkc7
                    clear hF7 hS7 HC hlb hkc HRE HRL
                    go_wp2_with fail
                    refine HR.out.mono ?_
                    rintro e Q1 ⟨ad, cap, rfl, hby, hnone, hcap, hnew, hbel, hF⟩
                    have hcv := conv_bytes hby HLBy.out hnone cap _ rfl
                    have HF8 : Hid (Fx (KH m kb (kb + 1)) Q1 m r2) := Lib.hid (hF.mono (fun k hk => .inl hk))
                    have HS8 := Lib.hid (HS7.out.trans (Stay.of_below hbel))
                    have HU8 := Lib.hid (HU7.out.stay (Stay.of_below (G := fun _ => True) hbel) trivial)
                    have hul := HU8.out.lt
                    have hfz := HU8.out.fz K
                    have hcu := HU8.out.cell hK
                    obtain ⟨tx, htx⟩ : ∃ tx, strOf l = tx := ⟨_, rfl⟩
                    rw [htx] at hcv
                    have HTX := Lib.hid htx
                    have hkn : ¬ KG m kb (kb + 1) := by unfold KG; omega
                    have HFe : Hid (Fx (KH m kb (kb + 1)) (Q1.setCell ⟨kb + 1, K, none⟩ (.string tx)) m r2) := Lib.hid (HF8.out.set (.inr rfl))
                    have HSe := Lib.hid (HS8.out.own (Touch.setCell (w := Q1) (a := ⟨kb + 1, K, none⟩) (.string tx)) hkn)
                    have HUe := Lib.hid (HU8.out.set hK tx)
                    have HFFe : Hid (∀ k, k < i → upd f K tx k = strOf (upd sure K l k)) := Lib.hid fun k hk => by
                      unfold upd
                      split
                      · exact HTX.out.symm
                      · exact HFF.out k hk
                    have HXXe : Hid (∀ k, k < i → ∀ x ∈ upd sure K l k, x < 256) := Lib.hid fun k hk => by
                      unfold upd
                      split
                      · exact HLBy.out
                      · exact HXX.out k hk
                    clear hby hnone hcap hnew hbel hF HR htx hkc7 hkn
                    go_wp2
                    go_roundw
                    case rel => exact ⟨j + 1, r2, upd sure K l, upd f K tx, by go_num, by omega, by omega, HFe.out, HSe.out, HUe.out, HFFe.out, HXXe.out, HKe.out, by have := HTe.out; omega⟩
                    case measure => simp [intOf]; omega
                  · have HKe := Lib.hid hKn
                    clear hKn
                    go_wp2_with fail
                    refine HC.out.mono ?_
                    rintro e W7 ⟨rfl, hF7, hS7⟩
                    have HFe := Lib.hid hF7
                    have HSe := Lib.hid (HSd.out.trans (hS7.mono (fun k hk => .inl hk)))
                    have HUe := Lib.hid (HUd.out.stay hS7 (.inr rfl))
                    clear hF7 hS7 HC
                    have HFFe := HFF
                    have HXXe := HXX
                    go_wp2
                    go_roundw
                    case rel => exact ⟨j + 1, r2, sure, f, by go_num, by omega, by omega, HFe.out, HSe.out, HUe.out, HFFe.out, HXXe.out, HKe.out, by have := HTe.out; omega⟩
                    case measure => simp [intOf]; omega
                · have hg1 : decide ((0 : Int) < (i : Int)) = false := by simp; omega
                  obtain rfl : i = 0 := by omega
                  have HFe := HFd
                  have HSe := HSd
                  have HUe := HUd
                  have HKe := HKr
                  have HTe := Lib.hid (show a.top ≤ 5 + j + 1 by have := HTO.out; omega)
                  have HFFe := HFF
                  have HXXe := HXX
                  go_wp2
                  go_roundw
                  case rel => exact ⟨j + 1, a, sure, f, by go_num, by omega, by omega, HFe.out, HSe.out, HUe.out, HFFe.out, HXXe.out, HKe.out, by have := HTe.out; omega⟩
                  case measure => simp [intOf]; omega
            have p5 : (call == 5) = false := by simp; exact q5
            by_cases q6 : call = 6
            · as_aux_lemma =>
                subst q6
                have HQ : Hid (∀ w', Below (wr.alloc (.cells #[.int .i64 6, .string name, .string to, .int .i64 av, .int .i64 bv, .string data, .slice pad plen pcap] 39)).heap.size (wr.alloc (.cells #[.int .i64 6, .string name, .string to, .int .i64 av, .int .i64 bv, .string data, .slice pad plen pcap] 39)) w' → w'.cell? ⟨wr.heap.size, 1, none⟩ = some (.string name) ∧ w'.cell? ⟨wr.heap.size, 2, none⟩ = some (.string to)) := Lib.hid fun w' h => by
                  have hb := h.block wr.heap.size (by simp)
                  have hn := heap_alloc_new wr (.cells #[.int .i64 6, .string name, .string to, .int .i64 av, .int .i64 bv, .string data, .slice pad plen pcap] 39)
                  rw [hn] at hb
                  exact ⟨by rw [cell_of_row _ _ _ _ _ _ hb]; rfl, by rw [cell_of_row _ _ _ _ _ _ hb]; rfl⟩
                have HFg := Lib.hid (HFr.out.grown (bel1 wr (.cells #[.int .i64 6, .string name, .string to, .int .i64 av, .int .i64 bv, .string data, .slice pad plen pcap] 39)))
                go_wp2_with fail
                refine wp_region_held_drew (S := (fun w' => w'.cell? ⟨wr.heap.size, 1, none⟩ = some (.string name) ∧ w'.cell? ⟨wr.heap.size, 2, none⟩ = some (.string to))) (by kernel_rfl) (HQ.out _ (below_drewN _ _ 1)) (fun hHeld => ?_)
                refine wpAnyH_take (i := 0) (v := ?_) rfl (by kernel_rfl) (by kernel_rfl) (by kernel_rfl) (fun _ _ _ h => h) (Or.inl ⟨by rfl, ?_⟩) hHeld ?_
                rotate_left
                · (intro wx hSw; obtain ⟨hx1, hx2⟩ := hSw; first | (go_simp; done) | (go_simp; with_reducible rfl))
                simp only [Act.put, List.getElem_toArray, List.getElem_cons_zero, List.setIfInBounds_toArray, List.set_cons_zero, List.set_cons_succ]
                refine wpAnyH_take (i := 1) (v := ?_) rfl (by kernel_rfl) (by kernel_rfl) (by kernel_rfl) (fun _ _ _ h => h) (Or.inl ⟨by rfl, ?_⟩) hHeld ?_
                rotate_left
                · (intro wx hSw; obtain ⟨hx1, hx2⟩ := hSw; first | (go_simp; done) | (go_simp; with_reducible rfl))
                simp only [Act.put, List.getElem_toArray, List.getElem_cons_zero, List.getElem_cons_succ, List.setIfInBounds_toArray, List.set_cons_zero, List.set_cons_succ]
                refine wpAnyH_take (i := 2) (v := ?_) rfl (by kernel_rfl) (by kernel_rfl) (by kernel_rfl) (fun _ _ _ h => h) (Or.inl ⟨by rfl, ?_⟩) hHeld ?_
                rotate_left
                · (intro wx hSw; obtain ⟨hx1, hx2⟩ := hSw; first | (go_simp; done) | (go_simp; with_reducible rfl))
                simp only [Act.put, List.getElem_toArray, List.getElem_cons_zero, List.getElem_cons_succ, List.setIfInBounds_toArray, List.set_cons_zero, List.set_cons_succ]
                refine wpAnyH_take (i := 5) (v := ?_) rfl (by kernel_rfl) (by kernel_rfl) (by kernel_rfl) (fun _ _ _ h => h) (Or.inl ⟨by rfl, ?_⟩) hHeld ?_
                rotate_left
                · (intro wx hSw; obtain ⟨hx1, hx2⟩ := hSw; first | (go_simp; done) | (go_simp; with_reducible rfl))
                simp only [Act.put, List.getElem_toArray, List.getElem_cons_zero, List.getElem_cons_succ, List.setIfInBounds_toArray, List.set_cons_zero, List.set_cons_succ]
                refine wpAnyH_take (i := 6) (v := ?_) rfl (by kernel_rfl) (by kernel_rfl) (by kernel_rfl) (fun _ _ _ h => h) (Or.inl ⟨by rfl, ?_⟩) hHeld ?_
                rotate_left
                · (intro wx hSw; obtain ⟨hx1, hx2⟩ := hSw; first | (go_simp; done) | (go_simp; with_reducible rfl))
                simp only [Act.put, List.getElem_toArray, List.getElem_cons_zero, List.getElem_cons_succ, List.setIfInBounds_toArray, List.set_cons_zero, List.set_cons_succ]
                refine wpAnyH_ready (rs := [3]) (by kernel_rfl) (by simp) ?_
                refine AllReadyH.cons rfl (fun K hK => ?_) AllReadyH.nil
                go_simp
                refine (low_any name _ (by have := HN1.out; unfold maxLen at this; omega)).mono ?_
                rintro e W6 ⟨t, rfl, ht9, hb6⟩
                have HB6 := Lib.hid (show Below (wr.alloc (.cells #[.int .i64 6, .string name, .string to, .int .i64 av, .int .i64 bv, .string data, .slice pad plen pcap] 39)).heap.size (wr.alloc (.cells #[.int .i64 6, .string name, .string to, .int .i64 av, .int .i64 bv, .string data, .slice pad plen pcap] 39)) W6 from (below_drewN _ _ 1).trans hb6)
                have hadd := fun wx => run_string_add_sum (P := Try.prog) (w := wx) ⟨#[110, 101, 119, 45]⟩ t (by show 4 + t.size ≤ _; omega)
                obtain ⟨nt, hnt⟩ : ∃ nt, (⟨#[110, 101, 119, 45]⟩ : ByteArray) ++ t = nt := ⟨_, rfl⟩
                simp only [hnt] at hadd
                have HNE := Lib.hid (show ∀ k, nt.data.toList ≠ kp k by rw [← hnt]; exact kp_ne t)
                clear hb6 hnt ht9
                try go_wp2_with fail
                refine hK.out _ _ (HQ.out W6 HB6.out) (fun hHeld => ?_)
                clear hK K
                try simp only [Act.put, List.setIfInBounds_toArray, List.set_cons_zero, List.set_cons_succ]
                refine wpAnyH_take (i := 4) (v := ?_) rfl (by kernel_rfl) (by kernel_rfl) (by kernel_rfl) (fun _ _ _ h => h) (Or.inl ⟨by rfl, ?_⟩) hHeld ?_
                rotate_left
                · (intro wx hSw; obtain ⟨hx1, hx2⟩ := hSw; first | (go_simp; done) | (go_simp; with_reducible rfl))
                simp only [Act.put, List.getElem_toArray, List.getElem_cons_zero, List.getElem_cons_succ, List.setIfInBounds_toArray, List.set_cons_zero, List.set_cons_succ]
                refine wpAnyH_ready (rs := [7]) (by kernel_rfl) (by simp) ?_
                refine AllReadyH.cons rfl (fun K hK => ?_) AllReadyH.nil
                go_simp
                refine (low_any to _ (by have := HN2.out; unfold maxLen at this; omega)).mono ?_
                rintro e W7 ⟨t2, rfl, ht9, hb7⟩
                have HB7 := Lib.hid (HB6.out.trans (hb7.mono HB6.out.size))
                have hadd2 := fun wx => run_string_add_sum (P := Try.prog) (w := wx) ⟨#[110, 101, 119, 45]⟩ t2 (by show 4 + t2.size ≤ _; omega)
                obtain ⟨nt2, hnt⟩ : ∃ nt, (⟨#[110, 101, 119, 45]⟩ : ByteArray) ++ t2 = nt := ⟨_, rfl⟩
                simp only [hnt] at hadd2
                have HNE2 := Lib.hid (show ∀ k, nt2.data.toList ≠ kp k by rw [← hnt]; exact kp_ne t2)
                have HF7 := Lib.hid (HFg.out.below HB7.out)
                have HS7 := Lib.hid (HSd.out.trans (Stay.of_below HB7.out))
                have HU7 := Lib.hid (HUd.out.stay (Stay.of_below (G := fun _ => True) HB7.out) trivial)
                have HC := Lib.hid (fx_rename HF7.out nt nt2 (by have := HTO.out; omega))
                obtain ⟨r, hr⟩ : ∃ r, a.rename nt.data.toList nt2.data.toList = r := ⟨_, rfl⟩
                rw [hr] at HC
                have HKe : Hid (KInv kp r.2 i sure) := Lib.hid (by rw [← hr]; exact HKr.out.rename (fun k _ => HNE.out k) (fun k _ => HNE2.out k))
                have HTe : Hid (r.2.top ≤ 5 + j + 1) := Lib.hid (by rw [← hr]; have := HTO.out; have := rename_top a nt.data.toList nt2.data.toList; omega)
                clear hb7 hnt ht9 hr
                try go_wp2_with fail
                refine hK.out _ _ (HQ.out W7 HB7.out) (fun hHeld => ?_)
                clear hK K
                try simp only [Act.put, List.setIfInBounds_toArray, List.set_cons_zero, List.set_cons_succ]
                refine wpAnyH_take (i := 8) (v := ?_) rfl (by kernel_rfl) (by kernel_rfl) (by kernel_rfl) (fun _ _ _ h => h) (Or.inl ⟨by rfl, ?_⟩) hHeld ?_
                rotate_left
                · (intro wx hSw; obtain ⟨hx1, hx2⟩ := hSw; first | (go_simp; done) | (go_simp; with_reducible rfl))
                simp only [Act.put, List.getElem_toArray, List.getElem_cons_zero, List.getElem_cons_succ, List.setIfInBounds_toArray, List.set_cons_zero, List.set_cons_succ]
                refine wpAnyH_ready (rs := [9]) (by kernel_rfl) (by simp) ?_
                refine AllReadyH.cons rfl (fun K hK => ?_) AllReadyH.nil
                go_simp
                refine HC.out.mono ?_
                rintro e W8 ⟨rfl, hF8, hS8⟩
                have HFe : Hid (Fx (KH m kb (kb + 1)) W8 m r.2) := Lib.hid (hF8.mono (fun k hk => .inl hk))
                have HSe := Lib.hid (HS7.out.trans (hS8.mono (fun k hk => .inl (.inl hk))))
                have HUe := Lib.hid (HU7.out.stay hS8 (.inl (.inr rfl)))
                have HX := Lib.hid (show W8.cell? ⟨wr.heap.size, 1, none⟩ = some (.string name) ∧ W8.cell? ⟨wr.heap.size, 2, none⟩ = some (.string to) from
                  have hl : wr.heap.size < W7.heap.size := by have := HB7.out.size; simp at this; omega
                  have hb := hS8.block wr.heap.size hl (.inr ⟨Nat.le_refl _, by simp⟩)
                  ⟨(World.cell?_of_block (a := ⟨wr.heap.size, 1, none⟩) hb).trans (HQ.out W7 HB7.out).1, (World.cell?_of_block (a := ⟨wr.heap.size, 2, none⟩) hb).trans (HQ.out W7 HB7.out).2⟩)
                clear hF8 hS8 HC
                try go_wp2_with fail
                refine hK.out _ _ HX.out (fun hHeld => ?_)
                clear hK K
                try simp only [Act.put, List.setIfInBounds_toArray, List.set_cons_zero, List.set_cons_succ]
                refine wpAnyH_done (by kernel_rfl) ?_ _
                have HFFe := HFF
                have HXXe := HXX
                go_wp2
                go_roundw
                case rel => exact ⟨j + 1, r.2, sure, f, by go_num, by omega, by omega, HFe.out, HSe.out, HUe.out, HFFe.out, HXXe.out, HKe.out, by have := HTe.out; omega⟩
                case measure => simp [intOf]; omega
            have p6 : (call == 6) = false := by simp; exact q6
            by_cases q7 : call = 7
            · as_aux_lemma =>
                subst q7
                go_wp2_with fail
                refine (low_any name _ (by have := HN1.out; unfold maxLen at this; omega)).mono ?_
                rintro e W6 ⟨t, rfl, ht9, hb6⟩
                have HF6 := Lib.hid (HFd.out.below hb6)
                have HS6 := Lib.hid (HSd.out.trans (Stay.of_below hb6))
                have HU6 := Lib.hid (HUd.out.stay (Stay.of_below (G := fun _ => True) hb6) trivial)
                obtain ⟨nt, hnt⟩ : ∃ nt, (⟨#[110, 101, 119, 45]⟩ : ByteArray) ++ t = nt := ⟨_, rfl⟩
                have hadd := fun wx => run_string_add_sum (P := Try.prog) (w := wx) ⟨#[110, 101, 119, 45]⟩ t (by show 4 + t.size ≤ _; omega)
                simp only [hnt] at hadd
                have HNE := Lib.hid (show ∀ k, nt.data.toList ≠ kp k by rw [← hnt]; exact kp_ne t)
                clear hb6 hnt ht9
                obtain ⟨r, hr⟩ : ∃ r, a.remove nt.data.toList = r := ⟨_, rfl⟩
                have HC := Lib.hid (fx_remove HF6.out nt (by have := HTO.out; omega))
                rw [hr] at HC
                have HKe : Hid (KInv kp r.2 i sure) := Lib.hid (by rw [← hr]; exact HKr.out.remove (fun k _ => HNE.out k))
                have HTe : Hid (r.2.top ≤ 5 + j + 1) := Lib.hid (by rw [← hr]; have := HTO.out; have := remove_top a nt.data.toList; omega)
                clear hr
                go_wp2_with fail
                refine HC.out.mono ?_
                rintro e W7 ⟨rfl, hF7, hS7⟩
                have HFe := Lib.hid hF7
                have HSe := Lib.hid (HS6.out.trans (hS7.mono (fun k hk => .inl hk)))
                have HUe := Lib.hid (HU6.out.stay hS7 (.inr rfl))
                clear hF7 hS7 HC
                have HFFe := HFF
                have HXXe := HXX
                go_wp2
                go_roundw
                case rel => exact ⟨j + 1, r.2, sure, f, by go_num, by omega, by omega, HFe.out, HSe.out, HUe.out, HFFe.out, HXXe.out, HKe.out, by have := HTe.out; omega⟩
                case measure => simp [intOf]; omega
            have p7 : (call == 7) = false := by simp; exact q7
            by_cases q8 : call = 8
            · as_aux_lemma =>
                subst q8
                have HF6 := HFd
                have HS6 := HSd
                have HU6 := HUd
                obtain ⟨r, hr⟩ : ∃ r, a.syncDir = r := ⟨_, rfl⟩
                have HC := Lib.hid (fx_syncDir HF6.out)
                rw [hr] at HC
                have HKe : Hid (KInv kp r.2 i sure) := Lib.hid (by rw [← hr]; exact HKr.out.syncDir)
                have HTe : Hid (r.2.top ≤ 5 + j + 1) := Lib.hid (by rw [← hr]; have := HTO.out; have := syncDir_top a; omega)
                clear hr
                go_wp2_with fail
                refine HC.out.mono ?_
                rintro e W7 ⟨rfl, hF7, hS7⟩
                have HFe := Lib.hid hF7
                have HSe := Lib.hid (HS6.out.trans (hS7.mono (fun k hk => .inl hk)))
                have HUe := Lib.hid (HU6.out.stay hS7 (.inr rfl))
                clear hF7 hS7 HC
                have HFFe := HFF
                have HXXe := HXX
                go_wp2
                go_roundw
                case rel => exact ⟨j + 1, r.2, sure, f, by go_num, by omega, by omega, HFe.out, HSe.out, HUe.out, HFFe.out, HXXe.out, HKe.out, by have := HTe.out; omega⟩
                case measure => simp [intOf]; omega
            have p8 : (call == 8) = false := by simp; exact q8
            by_cases q9 : call = 9
            · as_aux_lemma =>
                subst q9
                have HF6 := HFd
                have HS6 := HSd
                have HU6 := HUd
                have HC := Lib.hid (fx_arm HF6.out av HAV.out)
                have HKe := Lib.hid (HKr.out.arm av)
                have HTe := Lib.hid (show (a.arm av).top ≤ 5 + j + 1 by rw [arm_top]; have := HTO.out; omega)
                go_wp2_with fail
                refine HC.out.mono ?_
                rintro e W7 ⟨rfl, hF7, hS7⟩
                have HFe := Lib.hid hF7
                have HSe := Lib.hid (HS6.out.trans (hS7.mono (fun k hk => .inl hk)))
                have HUe := Lib.hid (HU6.out.stay hS7 (.inr rfl))
                clear hF7 hS7 HC
                have HFFe := HFF
                have HXXe := HXX
                go_wp2
                go_roundw
                case rel => exact ⟨j + 1, (a.arm av), sure, f, by go_num, by omega, by omega, HFe.out, HSe.out, HUe.out, HFFe.out, HXXe.out, HKe.out, by have := HTe.out; omega⟩
                case measure => simp [intOf]; omega
            have p9 : (call == 9) = false := by simp; exact q9
            by_cases q10 : call = 10
            · as_aux_lemma =>
                subst q10
                have hpi := HPI.out.1.keep (bel1 wr (.cells #[.int .i64 10, .string name, .string to, .int .i64 av, .int .i64 bv, .string data, .slice pad plen pcap] 39))
                obtain ⟨adP, capP, wP, hcp, hbP, hpP, hlP⟩ := copy_picks hpi HPI.out.2
                have hsz : (wr.alloc (.cells #[.int .i64 10, .string name, .string to, .int .i64 av, .int .i64 bv, .string data, .slice pad plen pcap] 39)).heap.size = wr.heap.size + 1 := by simp
                rw [hsz] at hcp
                clear hsz
                have HC := Lib.hid (fx_crash_in (cap := capP) HFd.out (by have := HTO.out; omega) hbP hpP hlP)
                have HK2 := Lib.hid (HKr.out.crash (pz.take plen))
                have HT2 := Lib.hid (show (a.crash (pz.take plen)).top ≤ 5 + j + 1 by have := HTO.out; have := crash_top a (pz.take plen); omega)
                have HOF := Lib.hid (crash_eq a (pz.take plen)).choose_spec.2.2.2
                obtain ⟨b2, hb2⟩ : ∃ b2, a.crash (pz.take plen) = b2 := ⟨_, rfl⟩
                rw [hb2] at HC HK2 HT2 HOF
                clear hbP hpP hlP hb2 hpi
                go_wp2_with (at_builtin; refine wpList_app_run rfl rfl hcp rfl rfl ?_)
                refine HC.out.mono ?_
                rintro e W7 ⟨rfl, hF7, hS7⟩
                have HF7 := Lib.hid hF7
                have HS7 := Lib.hid (HSd.out.trans (hS7.mono (fun k hk => .inl hk)))
                have HU7 := Lib.hid (HUd.out.stay hS7 (.inr rfl))
                clear hF7 hS7 HC hcp
                go_wp2_with fail
                go_loopw [17, 18, 19] (fun u17 _ _ wq => ∃ q : Nat, u17 = .int .i64 q ∧ q ≤ i ∧ Fx (KH m kb (kb + 1)) wq m b2 ∧ Stay (KG m kb) W4 wq ∧ SuAt wq (kb + 1) i f) (fun u17 _ _ _ => i - (intOf u17).toNat)
                case atStart => exact ⟨0, rfl, Nat.zero_le _, HF7.out, HS7.out, HU7.out⟩
                case round =>
                  obtain ⟨q, rfl, hqi, hFq, hSq, hUq⟩ := hrel
                  have HFq := Lib.hid hFq
                  have HSq := Lib.hid hSq
                  have HUq := Lib.hid hUq
                  have plq := hFq.lt
                  clear hFq hSq hUq HF7 HS7 HU7
                  by_cases hq : q < i
                  · have hr := HK2.out.read (fun k hk => kp_nm ⟨k, by omega⟩) hq HOF.out
                    have hfq : (sure q).length = (f q).size := by rw [HFF.out q hq, strOf_size]
                    rw [hfq] at hr
                    have HR := Lib.hid (fxRd (l' := sure q) (E' := 0) (fx_read (HFq.out.drewN 1) (strB (kp q)) 0 ((f q).size : Int)) (by rw [strB_list]; exact hr.2) (by rw [strB_list]; exact hr.1))
                    have hq5 : (q : Int) < 5 := by omega
                    clear hr hfq
                    go_wp2_with fail
                    refine wp_region_held_drew (S := (fun w' => w'.cell? ⟨kb, q, none⟩ = some (.string (strB (kp q))) ∧ w'.cell? ⟨kb + 1, q, none⟩ = some (.string (f q)))) (by kernel_rfl) ⟨(HKP.out.stay (HSq.out.trans (Stay.drewN _ wr 1)) (by omega) (.inr rfl)).cell (by omega), (HUq.out.stay (Stay.drewN (fun _ => True) wr 1) trivial).cell hq⟩ (fun hHeld => ?_)
                    refine wpAnyH_take (i := 0) (v := ?_) rfl (by kernel_rfl) (by kernel_rfl) (by kernel_rfl) (fun _ _ _ h => h) (Or.inl ⟨by rfl, ?_⟩) hHeld ?_
                    rotate_left
                    · (intro wx hSw; obtain ⟨hx1, hx2⟩ := hSw; first | (go_simp; done) | (go_simp; with_reducible rfl))
                    simp only [Act.put, List.getElem_toArray, List.getElem_cons_zero, List.setIfInBounds_toArray, List.set_cons_zero, List.set_cons_succ]
                    refine wpAnyH_take (i := 1) (v := ?_) rfl (by kernel_rfl) (by kernel_rfl) (by kernel_rfl) (fun _ _ _ h => h) (Or.inl ⟨by rfl, ?_⟩) hHeld ?_
                    rotate_left
                    · (intro wx hSw; obtain ⟨hx1, hx2⟩ := hSw; first | (go_simp; done) | (go_simp; with_reducible rfl))
                    simp only [Act.put, List.getElem_toArray, List.getElem_cons_zero, List.getElem_cons_succ, List.setIfInBounds_toArray, List.set_cons_zero, List.set_cons_succ]
                    refine wpAnyH_take (i := 2) (v := ?_) rfl (by kernel_rfl) (by kernel_rfl) (by kernel_rfl) (fun _ _ _ h => h) (Or.inl ⟨by rfl, ?_⟩) hHeld ?_
                    rotate_left
                    · (intro wx hSw; obtain ⟨hx1, hx2⟩ := hSw; first | (go_simp; done) | (go_simp; with_reducible rfl))
                    simp only [Act.put, List.getElem_toArray, List.getElem_cons_zero, List.getElem_cons_succ, List.setIfInBounds_toArray, List.set_cons_zero, List.set_cons_succ]
                    refine wpAnyH_take (i := 3) (v := ?_) rfl (by kernel_rfl) (by kernel_rfl) (by kernel_rfl) (fun _ _ _ h => h) (Or.inl ⟨by rfl, ?_⟩) hHeld ?_
                    rotate_left
                    · (intro wx hSw; obtain ⟨hx1, hx2⟩ := hSw; first | (go_simp; done) | (go_simp; with_reducible rfl))
                    simp only [Act.put, List.getElem_toArray, List.getElem_cons_zero, List.getElem_cons_succ, List.setIfInBounds_toArray, List.set_cons_zero, List.set_cons_succ]
                    refine wpAnyH_take (i := 4) (v := ?_) rfl (by kernel_rfl) (by kernel_rfl) (by kernel_rfl) (fun _ _ _ h => h) (Or.inl ⟨by rfl, ?_⟩) hHeld ?_
                    rotate_left
                    · (intro wx hSw; obtain ⟨hx1, hx2⟩ := hSw; first | (go_simp; done) | (go_simp; with_reducible rfl))
                    simp only [Act.put, List.getElem_toArray, List.getElem_cons_zero, List.getElem_cons_succ, List.setIfInBounds_toArray, List.set_cons_zero, List.set_cons_succ]
                    refine wpAnyH_take (i := 5) (v := ?_) rfl (by kernel_rfl) (by kernel_rfl) (by kernel_rfl) (fun _ _ _ h => h) (Or.inl ⟨by rfl, ?_⟩) hHeld ?_
                    rotate_left
                    · (intro wx hSw; obtain ⟨hx1, hx2⟩ := hSw; first | (go_simp; done) | (go_simp; with_reducible rfl))
                    simp only [Act.put, List.getElem_toArray, List.getElem_cons_zero, List.getElem_cons_succ, List.setIfInBounds_toArray, List.set_cons_zero, List.set_cons_succ]
                    refine wpAnyH_take (i := 6) (v := ?_) rfl (by kernel_rfl) (by kernel_rfl) (by kernel_rfl) (fun _ _ _ h => h) (Or.inl ⟨by rfl, ?_⟩) hHeld ?_
                    rotate_left
                    · (intro wx hSw; obtain ⟨hx1, hx2⟩ := hSw; first | (go_simp; done) | (go_simp; with_reducible rfl))
                    simp only [Act.put, List.getElem_toArray, List.getElem_cons_zero, List.getElem_cons_succ, List.setIfInBounds_toArray, List.set_cons_zero, List.set_cons_succ]
                    refine wpAnyH_take (i := 7) (v := ?_) rfl (by kernel_rfl) (by kernel_rfl) (by kernel_rfl) (fun _ _ _ h => h) (Or.inl ⟨by rfl, ?_⟩) hHeld ?_
                    rotate_left
                    · (intro wx hSw; obtain ⟨hx1, hx2⟩ := hSw; first | (go_simp; done) | (go_simp; with_reducible rfl))
                    simp only [Act.put, List.getElem_toArray, List.getElem_cons_zero, List.getElem_cons_succ, List.setIfInBounds_toArray, List.set_cons_zero, List.set_cons_succ]
                    refine wpAnyH_take (i := 8) (v := ?_) rfl (by kernel_rfl) (by kernel_rfl) (by kernel_rfl) (fun _ _ _ h => h) (Or.inl ⟨by rfl, ?_⟩) hHeld ?_
                    rotate_left
                    · (intro wx hSw; obtain ⟨hx1, hx2⟩ := hSw; first | (go_simp; done) | (go_simp; with_reducible rfl))
                    simp only [Act.put, List.getElem_toArray, List.getElem_cons_zero, List.getElem_cons_succ, List.setIfInBounds_toArray, List.set_cons_zero, List.set_cons_succ]
                    refine wpAnyH_take (i := 9) (v := ?_) rfl (by kernel_rfl) (by kernel_rfl) (by kernel_rfl) (fun _ _ _ h => h) (Or.inl ⟨by rfl, ?_⟩) hHeld ?_
                    rotate_left
                    · (intro wx hSw; obtain ⟨hx1, hx2⟩ := hSw; first | (go_simp; done) | (go_simp; with_reducible rfl))
                    simp only [Act.put, List.getElem_toArray, List.getElem_cons_zero, List.getElem_cons_succ, List.setIfInBounds_toArray, List.set_cons_zero, List.set_cons_succ]
                    refine wpAnyH_ready (rs := [10]) (by kernel_rfl) (by simp) ?_
                    refine AllReadyH.cons rfl (fun K hK => ?_) AllReadyH.nil
                    go_simp
                    refine HR.out.mono ?_
                    rintro e Q1 ⟨ad, cap, he, hby, hnone, hcap, hnew, hbel, hF⟩
                    have hln : (sure q).length = (f q).size := by rw [HFF.out q hq, strOf_size]
                    rw [hln] at he
                    subst he
                    have hcv0 := conv_bytes (hby.drewN 1) (HXX.out q hq) hnone cap _ hln
                    rw [← HFF.out q hq] at hcv0
                    have HCV := Lib.hid hcv0
                    have HFq : Hid (Fx (KH m kb (kb + 1)) Q1 m b2) := Lib.hid (hF.mono (fun k hk => .inl hk))
                    have HSq2 := Lib.hid (HSq.out.trans ((Stay.drewN _ wr 1).trans (Stay.of_below hbel)))
                    have HUq2 := Lib.hid (HUq.out.stay ((Stay.drewN (fun _ => True) wr 1).trans (Stay.of_below (G := fun _ => True) hbel)) trivial)
                    clear hby hnone hcap hnew hbel hF HR hln hcv0
                    try go_wp2_with fail
                    refine hK.out _ _ ⟨(HKP.out.stay HSq2.out (by omega) (.inr rfl)).cell (by omega), HUq2.out.cell hq⟩ (fun hHeld => ?_)
                    clear hK K
                    try simp only [Act.put, List.setIfInBounds_toArray, List.set_cons_zero, List.set_cons_succ]
                    refine wpAnyH_take (i := 11) (v := ?_) rfl (by kernel_rfl) (by kernel_rfl) (by kernel_rfl) (fun _ _ _ h => h) (Or.inl ⟨by rfl, ?_⟩) hHeld ?_
                    rotate_left
                    · (intro wx hSw; obtain ⟨hx1, hx2⟩ := hSw; first | (go_simp; done) | (go_simp; with_reducible rfl))
                    simp only [Act.put, List.getElem_toArray, List.getElem_cons_zero, List.getElem_cons_succ, List.setIfInBounds_toArray, List.set_cons_zero, List.set_cons_succ]
                    refine wpAnyH_take (i := 12) (v := ?_) rfl (by kernel_rfl) (by kernel_rfl) (by kernel_rfl) (fun _ _ _ h => h) (Or.inl ⟨by rfl, ?_⟩) hHeld ?_
                    rotate_left
                    · (intro wx hSw; obtain ⟨hx1, hx2⟩ := hSw; first | (go_simp; done) | (go_simp; with_reducible rfl))
                    simp only [Act.put, List.getElem_toArray, List.getElem_cons_zero, List.getElem_cons_succ, List.setIfInBounds_toArray, List.set_cons_zero, List.set_cons_succ]
                    refine wpAnyH_take (i := 13) (v := ?_) rfl (by kernel_rfl) (by kernel_rfl) (by kernel_rfl) (fun _ _ _ h => h) (Or.inl ⟨by rfl, ?_⟩) hHeld ?_
                    rotate_left
                    · (intro wx hSw; obtain ⟨hx1, hx2⟩ := hSw; first | (go_simp; done) | (go_simp; with_reducible rfl))
                    simp only [Act.put, List.getElem_toArray, List.getElem_cons_zero, List.getElem_cons_succ, List.setIfInBounds_toArray, List.set_cons_zero, List.set_cons_succ]
                    refine wpAnyH_take (i := 14) (v := ?_) rfl (by kernel_rfl) (by kernel_rfl) (by kernel_rfl) (fun _ _ _ h => h) (Or.inl ⟨by rfl, ?_⟩) hHeld ?_
                    rotate_left
                    · (intro wx hSw; obtain ⟨hx1, hx2⟩ := hSw; first | (go_simp; done) | (go_simp; with_reducible rfl))
                    simp only [Act.put, List.getElem_toArray, List.getElem_cons_zero, List.getElem_cons_succ, List.setIfInBounds_toArray, List.set_cons_zero, List.set_cons_succ]
                    refine wpAnyH_take (i := 15) (v := ?_) rfl (by kernel_rfl) (by kernel_rfl) (by kernel_rfl) (fun _ _ _ h => h) (Or.inl ⟨by rfl, ?_⟩) hHeld ?_
                    rotate_left
                    · (intro wx hSw; obtain ⟨hx1, hx2⟩ := hSw; first | (go_simp; done) | (go_simp; with_reducible rfl))
                    simp only [Act.put, List.getElem_toArray, List.getElem_cons_zero, List.getElem_cons_succ, List.setIfInBounds_toArray, List.set_cons_zero, List.set_cons_succ]
                    refine wpAnyH_done (by kernel_rfl) ?_ _
                    have hux := HUq2.out.cell hq
                    have hul := HUq2.out.lt
                    clear hHeld
                    go_wp2_with fail
                    refine wp_region_held_drew (S := (fun w' => w'.cell? ⟨kb + 1, q, none⟩ = some (.string (f q)) ∧ (convert 49 9 (.slice ad (f q).size cap)).run Try.prog w' = .ok (.string (f q)) w')) (by kernel_rfl) ⟨hux, HCV.out⟩ (fun hHeld => ?_)
                    refine wpAnyH_take (i := 0) (v := ?_) rfl (by kernel_rfl) (by kernel_rfl) (by kernel_rfl) (fun _ _ _ h => h) (Or.inl ⟨by rfl, ?_⟩) hHeld ?_
                    rotate_left
                    · (intro wx hSw; obtain ⟨hx1, hx2⟩ := hSw; first | (go_simp; done) | (go_simp; with_reducible rfl))
                    simp only [Act.put, List.getElem_toArray, List.getElem_cons_zero, List.setIfInBounds_toArray, List.set_cons_zero, List.set_cons_succ]
                    refine wpAnyH_take (i := 1) (v := ?_) rfl (by kernel_rfl) (by kernel_rfl) (by kernel_rfl) (fun _ _ _ h => h) (Or.inl ⟨by rfl, ?_⟩) hHeld ?_
                    rotate_left
                    · (intro wx hSw; obtain ⟨hx1, hx2⟩ := hSw; first | (go_simp; done) | (go_simp; with_reducible rfl))
                    simp only [Act.put, List.getElem_toArray, List.getElem_cons_zero, List.getElem_cons_succ, List.setIfInBounds_toArray, List.set_cons_zero, List.set_cons_succ]
                    refine wpAnyH_take (i := 2) (v := ?_) rfl (by kernel_rfl) (by kernel_rfl) (by kernel_rfl) (fun _ _ _ h => h) (Or.inl ⟨by rfl, ?_⟩) hHeld ?_
                    rotate_left
                    · (intro wx hSw; obtain ⟨hx1, hx2⟩ := hSw; first | (go_simp; done) | (go_simp; with_reducible rfl))
                    simp only [Act.put, List.getElem_toArray, List.getElem_cons_zero, List.getElem_cons_succ, List.setIfInBounds_toArray, List.set_cons_zero, List.set_cons_succ]
                    refine wpAnyH_take (i := 3) (v := ?_) rfl (by kernel_rfl) (by kernel_rfl) (by kernel_rfl) (fun _ _ _ h => h) (Or.inl ⟨by rfl, ?_⟩) hHeld ?_
                    rotate_left
                    · (intro wx hSw; obtain ⟨hx1, hx2⟩ := hSw; first | (go_simp; done) | (go_simp; with_reducible rfl))
                    simp only [Act.put, List.getElem_toArray, List.getElem_cons_zero, List.getElem_cons_succ, List.setIfInBounds_toArray, List.set_cons_zero, List.set_cons_succ]
                    refine wpAnyH_take (i := 4) (v := ?_) rfl (by kernel_rfl) (by kernel_rfl) (by kernel_rfl) (fun _ _ _ h => h) (Or.inl ⟨by rfl, ?_⟩) hHeld ?_
                    rotate_left
                    · (intro wx hSw; obtain ⟨hx1, hx2⟩ := hSw; first | (go_simp; done) | (go_simp; with_reducible rfl))
                    simp only [Act.put, List.getElem_toArray, List.getElem_cons_zero, List.getElem_cons_succ, List.setIfInBounds_toArray, List.set_cons_zero, List.set_cons_succ]
                    refine wpAnyH_take (i := 5) (v := ?_) rfl (by kernel_rfl) (by kernel_rfl) (by kernel_rfl) (fun _ _ _ h => h) (Or.inl ⟨by rfl, ?_⟩) hHeld ?_
                    rotate_left
                    · (intro wx hSw; obtain ⟨hx1, hx2⟩ := hSw; first | (go_simp; done) | (go_simp; with_reducible rfl))
                    simp only [Act.put, List.getElem_toArray, List.getElem_cons_zero, List.getElem_cons_succ, List.setIfInBounds_toArray, List.set_cons_zero, List.set_cons_succ]
                    refine wpAnyH_take (i := 6) (v := ?_) rfl (by kernel_rfl) (by kernel_rfl) (by kernel_rfl) (fun _ _ _ h => h) (Or.inl ⟨by rfl, ?_⟩) hHeld ?_
                    rotate_left
                    · (intro wx hSw; obtain ⟨hx1, hx2⟩ := hSw; first | (go_simp; done) | (go_simp; with_reducible rfl))
                    simp only [Act.put, List.getElem_toArray, List.getElem_cons_zero, List.getElem_cons_succ, List.setIfInBounds_toArray, List.set_cons_zero, List.set_cons_succ]
                    refine wpAnyH_take (i := 7) (v := ?_) rfl (by kernel_rfl) (by kernel_rfl) (by kernel_rfl) (fun _ _ _ h => h) (Or.inl ⟨by rfl, ?_⟩) hHeld ?_
                    rotate_left
                    · (intro wx hSw; obtain ⟨hx1, hx2⟩ := hSw; first | (go_simp; done) | (go_simp; with_reducible rfl))
                    simp only [Act.put, List.getElem_toArray, List.getElem_cons_zero, List.getElem_cons_succ, List.setIfInBounds_toArray, List.set_cons_zero, List.set_cons_succ]
                    refine wpAnyH_take (i := 8) (v := ?_) rfl (by kernel_rfl) (by kernel_rfl) (by kernel_rfl) (fun _ _ _ h => h) (Or.inl ⟨by rfl, ?_⟩) hHeld ?_
                    rotate_left
                    · (intro wx hSw; obtain ⟨hx1, hx2⟩ := hSw; first | (go_simp; done) | (go_simp; with_reducible rfl))
                    simp only [Act.put, List.getElem_toArray, List.getElem_cons_zero, List.getElem_cons_succ, List.setIfInBounds_toArray, List.set_cons_zero, List.set_cons_succ]
                    refine wpAnyH_take (i := 9) (v := ?_) rfl (by kernel_rfl) (by kernel_rfl) (by kernel_rfl) (fun _ _ _ h => h) (Or.inl ⟨by rfl, ?_⟩) hHeld ?_
                    rotate_left
                    · (intro wx hSw; obtain ⟨hx1, hx2⟩ := hSw; first | (go_simp; done) | (go_simp; with_reducible rfl))
                    simp only [Act.put, List.getElem_toArray, List.getElem_cons_zero, List.getElem_cons_succ, List.setIfInBounds_toArray, List.set_cons_zero, List.set_cons_succ]
                    refine wpAnyH_take (i := 10) (v := ?_) rfl (by kernel_rfl) (by kernel_rfl) (by kernel_rfl) (fun _ _ _ h => h) (Or.inl ⟨by rfl, ?_⟩) hHeld ?_
                    rotate_left
                    · (intro wx hSw; obtain ⟨hx1, hx2⟩ := hSw; first | (go_simp; done) | (go_simp; with_reducible rfl))
                    simp only [Act.put, List.getElem_toArray, List.getElem_cons_zero, List.getElem_cons_succ, List.setIfInBounds_toArray, List.set_cons_zero, List.set_cons_succ]
                    refine wpAnyH_done (by kernel_rfl) ?_ _
                    go_wp2
                    go_roundw
                    case rel => exact ⟨q + 1, by go_num, by omega, HFq.out.drewN 1, HSq2.out.trans (Stay.drewN _ _ 1), HUq2.out.stay (Stay.drewN (fun _ => True) _ 1) trivial⟩
                    case measure => simp [intOf]; omega
                  · have HFe := HFq
                    have HSe := HSq
                    have HUe := HUq
                    have HKe := HK2
                    have HTe := HT2
                    have HFFe := HFF
                    have HXXe := HXX
                    go_wp2
                    go_roundw
                    case rel => exact ⟨j + 1, b2, sure, f, by go_num, by omega, by omega, HFe.out, HSe.out, HUe.out, HFFe.out, HXXe.out, HKe.out, by have := HTe.out; omega⟩
                    case measure => simp [intOf]; omega
            have p10 : (call == 10) = false := by simp; exact q10
            have HFe := HFd
            have HSe := HSd
            have HUe := HUd
            have HKe := HKr
            have HTe := Lib.hid (show a.top ≤ 5 + j + 1 by have := HTO.out; omega)
            have HFFe := HFF
            have HXXe := HXX
            go_wp2
            go_roundw
            case rel => exact ⟨j + 1, a, sure, f, by go_num, by omega, by omega, HFe.out, HSe.out, HUe.out, HFFe.out, HXXe.out, HKe.out, by have := HTe.out; omega⟩
            case measure => simp [intOf]; omega
          · have hj2 : ¬ (j < 70) := hin2
            go_wp2
            go_ret
            exact ⟨rfl, HBR.out⟩
        · go_wp2
          go_ret
          exact ⟨rfl, HBR.out⟩
end fsKeeps
end Go.Proofs.Ytaadfoelaeliiaa
