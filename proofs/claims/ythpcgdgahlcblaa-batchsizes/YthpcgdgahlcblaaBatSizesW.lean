/-
  The law BatchSizes, walked.
-/
import Derived.Test.YthpcgdgahlcblaaBatG1
import Derived.Test.YthpcgdgahlcblaaBatArg
import Derived.Deep.RegionHeld3
import Derived.Deep.DeepCutAuto
import Derived.BigQuiet
namespace Go.Proofs.Ythpcgdgahlcblaa
open Go.RowKit Go.Deep

theorem wp_region_grown {P : Program} {id : Nat} {Q : Exit → Act → World → Prop} {a : Act} {w : World} {l : List Oper} (hm : P.follows .mixedOrders = true) (hB : Region.lexB .any l.toArray = true)
    (h : wpQuiet P l.toArray (fun w' => ∃ x : {x : World // Below w.heap.size w x}, w' = x.val) (fun a' => ∀ w', (∃ x : {x : World // Below w.heap.size w x}, w' = x.val) → Q .normal a' w') l a) : (Code.region id l.toArray true).wp P Q a w :=
  wp_region_quiet (C := fun w' => ∃ x : {x : World // Below w.heap.size w x}, w' = x.val) hm hB ⟨⟨w.drew, (Below.refl _ w).drew⟩, rfl⟩ (by simpa using h)
/-- A change in a box. -/
def BoxAt (w : World) (p : Nat) (o : OpV) : Prop := w.heap[p]? = some (.cells #[.int .i64 o.kind, .string o.key, .string o.val] 48 (0, 0))
theorem BoxAt.keep {w w' : World} {p : Nat} {o : OpV} (h : BoxAt w p o) (hb : Below w.heap.size w w') : BoxAt w' p o := (hb.block p (Array.getElem?_eq_some_iff.1 h).1).trans h
theorem BoxAt.c0 {w : World} {p : Nat} {o : OpV} (h : BoxAt w p o) : w.cell? ⟨p, 0, none⟩ = some (.int .i64 o.kind) := by rw [cell_of_row _ _ _ _ _ _ h]; rfl
theorem BoxAt.c1 {w : World} {p : Nat} {o : OpV} (h : BoxAt w p o) : w.cell? ⟨p, 1, none⟩ = some (.string o.key) := by rw [cell_of_row _ _ _ _ _ _ h]; rfl
theorem BoxAt.c2 {w : World} {p : Nat} {o : OpV} (h : BoxAt w p o) : w.cell? ⟨p, 2, none⟩ = some (.string o.val) := by rw [cell_of_row _ _ _ _ _ _ h]; rfl
theorem BoxAt.lt {w : World} {p : Nat} {o : OpV} (h : BoxAt w p o) : p < w.heap.size := (Array.getElem?_eq_some_iff.1 h).1
/-- What Encode left: bytes that read as a list. -/
def RowIn (w : World) (v : Value) (l : List Nat) : Prop := ∃ a c, v = .slice a l.length c ∧ Byt w a l ∧ (a = none → l = []) ∧ l.length ≤ c
theorem RowIn.keep {w w' : World} {v : Value} {l : List Nat} (h : RowIn w v l) (hb : Below w.heap.size w w') : RowIn w' v l := by
  obtain ⟨a, c, rfl, h1, h2, h3⟩ := h
  exact ⟨a, c, rfl, h1.keep hb, h2, h3⟩
theorem EncV.row {w w' : World} {seq : Int} {l : List OpV} {e : Ending} (h : EncV w seq l e w') : ∃ v, e = .returned (.tuple #[v, .int .i64 (chkI seq l)]) ∧ RowIn w' v (encR seq l) ∧ Below w.heap.size w w' := by
  obtain ⟨v, rfl, ho, hb⟩ := h
  obtain ⟨a, c, hv, h1, h2, h3⟩ := byt_of_own ho
  exact ⟨v, rfl, ⟨a, c, hv, h1, h2, h3⟩, hb⟩
theorem opsAt_blk {w w' : World} {p : Nat} {l : List OpV} (h : OpsAt w (some ⟨p, 0, none⟩) l) (hb : w'.heap[p]? = w.heap[p]?) (hs : w.heap.size ≤ w'.heap.size) : OpsAt w' (some ⟨p, 0, none⟩) l := by
  rcases h with h | ⟨b, off, e, hlt, hc⟩
  · exact .inl h
  · cases e
    refine .inr ⟨p, 0, rfl, Nat.lt_of_lt_of_le hlt hs, fun i hi => ?_⟩
    obtain ⟨c0, c1, c2⟩ := hc i hi
    exact ⟨(World.cell?_of_block (w := w) (a := ⟨_, _, none⟩) hb).trans c0, (World.cell?_of_block (w := w) (a := ⟨_, _, none⟩) hb).trans c1, (World.cell?_of_block (w := w) (a := ⟨_, _, none⟩) hb).trans c2⟩
def szN (l : List OpV) (i : Nat) : Nat := 12 + (opsL (l.take i)).length
theorem szN_step (l : List OpV) (i : Nat) (hi : i < l.length) : szN l (i + 1) = szN l i + (opL l[i]).length := by
  unfold szN
  rw [opsL_snoc l i hi, List.length_append]; omega
theorem szN_end {seq : Int} {l : List OpV} (h : chkI seq l = 0) : szN l l.length = (encR seq l).length := by
  unfold szN encR encL
  rw [List.take_length, if_pos h]
  simp only [List.length_append, fixL_eq, VA.fixL_length]
theorem encR_12 {seq : Int} {l : List OpV} (h : chkI seq l = 0) : (encR seq l).drop 12 = opsL l := by
  have := (encR_parts h []).1
  simpa using this
theorem encR_8 {seq : Int} {l m : List OpV} (h : chkI seq l = 0) (h' : chkI seq m = 0) : (encR seq l).take 8 = (encR seq m).take 8 := by
  unfold encR encL
  have l8 : (fixL seq.toNat 8).length = 8 := VA.fixL_length _ 8
  rw [if_pos h, if_pos h', List.append_assoc, List.append_assoc, take_pre l8, take_pre l8]
/-- Two appends to a new row, the second of one change in a block of its own. -/
theorem app2 {B : Nat} {W : World} {v : Value} {q : Nat} {a1 : Option Addr} {len1 cap1 : Nat} {z1 : List OpV} {o : OpV} (hown : W.ownsRow B 48 3 v 0 (opsV [])) (hz : OpsAt W a1 z1) (hl : z1.length = len1) (hn : a1 = none → len1 = 0 ∧ cap1 = 0) (hq : OpsAt W (some ⟨q, 0, none⟩) [o]) (hqv : v.ownBlock ≠ some q) (hql : q < W.heap.size) (hB : B ≤ W.heap.size) (h150 : len1 ≤ 150) :
    ∃ v1 Wy a c Wz, (Builtin.append_ #[22, 22] 22 #[v, .slice a1 len1 cap1]).run Try.prog W = .ok v1 Wy ∧ (Builtin.append_ #[22, 22] 22 #[v1, .slice (some ⟨q, 0, none⟩) 1 1]).run Try.prog Wy = .ok (.slice a (len1 + 1) c) Wz ∧ OpsAt Wz a (z1 ++ [o]) ∧ Below B W Wz ∧ Below B W Wy := by
  have hl0 : z1 = [] ↔ len1 = 0 := by rw [← hl]; exact List.length_eq_zero_iff.symm
  obtain ⟨v1, Wy, r1, o1, b1, k1⟩ := appO B W v [] z1 0 len1 a1 cap1 hown hz hl (fun e => ⟨hl0.2 (hn e).1, (hn e).2⟩) hB (by omega)
  obtain ⟨n1, h1⟩ := k1 q hql hqv
  rw [List.nil_append] at o1
  obtain ⟨v2, Wz, r2, o2, b2, -⟩ := appO B Wy v1 z1 [o] (0 + len1) 1 (some ⟨q, 0, none⟩) 1 o1 (opsAt_blk hq h1 b1.size) rfl (fun e => by cases e) (by have := b1.size; omega) (by omega)
  obtain ⟨a, c, rfl, h2, -, -, -⟩ := ops_of_own o2
  rw [List.length_append, hl] at r2
  exact ⟨v1, Wy, a, c, Wz, r1, r2, h2, b1.trans b2, b1⟩
theorem encR_more {seq : Int} {l : List OpV} {o : OpV} (h : chkI seq l = 0) (h' : chkI seq (l ++ [o]) = 0) : (encR seq (l ++ [o])).length = (encR seq l).length + (opL o).length ∧ ((encR seq (l ++ [o])).take (encR seq l).length).drop 12 = (encR seq l).drop 12 := by
  have e : opsL (l ++ [o]) = opsL l ++ opL o := by unfold opsL; simp
  have a := encR_12 h
  have b := encR_12 h'
  have la := congrArg List.length a
  have lb := congrArg List.length b
  have l1 := encR_len h
  have l2 := encR_len h'
  rw [List.length_drop] at la lb
  rw [e, List.length_append] at lb
  refine ⟨by omega, ?_⟩
  rw [List.drop_take, b, a, e]
  apply take_pre
  omega
end Go.Proofs.Ythpcgdgahlcblaa
namespace Go.Proofs.Ythpcgdgahlcblaa.batchSizes
open Go.RowKit Go.Deep
set_option maxRecDepth 100000 in
set_option maxHeartbeats 4000000 in
theorem walk (seq : Int) (a1 : Option Addr) (len1 cap1 : Nat) (z1 : List OpV) (kd : Int) (ky vl : ByteArray) (w : World) (w0 : (Lit.int .i64 seq).wf = true) (w1 : IsOps w a1 len1 cap1 z1) (_w2 : (⟨kd, ky, vl⟩ : OpV).fit) :
    Calls Try.prog 8 #[.int .i64 seq, .slice a1 len1 cap1, .agg #[.int .i64 kd, .string ky, .string vl]] w fun e w' => e = .returned (.bool true) ∧ Below w.heap.size w w' := by
  obtain ⟨hlen1, hops, hc1, hmx1, hnl1, -⟩ := w1
  have hs := VA.wf_i64 w0
  have hmm : len1 ≤ 9223372036854775807 := by unfold maxLen at hmx1; omega
  obtain ⟨o, ho⟩ : ∃ o : OpV, o = ⟨kd, ky, vl⟩ := ⟨_, rfl⟩
  have hk0 : o.kind = kd := by rw [ho]
  have hk1 : o.key = ky := by rw [ho]
  have hk2 : o.val = vl := by rw [ho]
  obtain ⟨W0, hW0⟩ : ∃ W0, w.alloc (.cells #[.int .i64 kd, .string ky, .string vl] 48) = W0 := ⟨_, rfl⟩
  have HB0 : Hid (Below w.heap.size w W0) := Lib.hid (by rw [← hW0]; exact below_alloc (Nat.le_refl _) _)
  have HBX0 : Hid (BoxAt W0 w.heap.size o) := Lib.hid (by rw [← hW0, ho]; exact heap_alloc_new w _)
  have HOPS := Lib.hid hops
  have HL1 := Lib.hid hlen1
  have HNL1 := Lib.hid hnl1
  have HO := Lib.hid ho
  have HBT := Lib.hid batched_any
  have HK0 := Lib.hid hk0
  have HK1 := Lib.hid hk1
  have HK2 := Lib.hid hk2
  clear hops hlen1 hc1 hmx1 hnl1 w0 ho hk0 hk1 hk2
  by_cases h150 : 150 < len1
  · go_enter Try.func8, Try.ntmps8
    go_wp2_with fail
    refine (HBT.out _).mono ?_
    rintro e W1 ⟨rfl, hb⟩
    have HB1 := Lib.hid (HB0.out.trans (hb.mono HB0.out.size))
    clear hb
    go_wp2_with fail
    refine (HBT.out _).mono ?_
    rintro e W2 ⟨rfl, hb⟩
    have HB2 := Lib.hid (HB1.out.trans (hb.mono HB1.out.size))
    clear hb
    go_wp2_with fail
    go_ret
    exact ⟨rfl, HB2.out⟩
  · have hdq : decide (150 < len1) = false := by simpa using h150
    have HENC := Lib.hid (fun wx (h : Below w.heap.size w wx) => (encode_any seq hs wx a1 len1 cap1 z1 (HOPS.out.keep h) HL1.out hmm).mono fun e w' h => EncV.row h)
    have HENC2 := Lib.hid (fun wx a n c (h : OpsAt wx a (z1 ++ [o])) (hn : n = len1 + 1) => (encode_any seq hs wx a n c (z1 ++ [o]) h (by rw [List.length_append, HL1.out, hn]; rfl) (by omega)).mono fun e w' h => EncV.row h)
    go_enter Try.func8, Try.ntmps8
    go_wp2_with fail
    refine (HBT.out _).mono ?_
    rintro e W1 ⟨rfl, hb⟩
    have HB1 := Lib.hid (HB0.out.trans (hb.mono HB0.out.size))
    have HBX1 := Lib.hid (HBX0.out.keep hb)
    clear hb
    have HE1 := Lib.hid (HENC.out W1 HB1.out)
    go_wp2_with fail
    refine HE1.out.mono ?_
    rintro e W2 ⟨vx, rfl, hx, hb⟩
    have HB2 := Lib.hid (HB1.out.trans (hb.mono HB1.out.size))
    have HBX2 := Lib.hid (HBX1.out.keep hb)
    have HX := Lib.hid hx
    have HC2 := Lib.hid (rfl : chkI seq z1 = chkI seq z1)
    clear hb hx HE1
    generalize hp : w.heap.size = p at *
    have c0 := HBX2.out.c0
    have c1 := HBX2.out.c1
    have c2 := HBX2.out.c2
    have hpl := HBX2.out.lt
    rw [HK0.out] at c0
    rw [HK1.out] at c1
    rw [HK2.out] at c2
    go_upto_region 4 with (fail)
    have HBd : Hid (Below W2.heap.size W2 W2.drew) := Lib.hid (below_drewN _ _ 1)
    have HZd : Hid (OpsAt W2.drew a1 z1) := Lib.hid (HOPS.out.keep ((hp ▸ HB2.out).drew))
    have h150' : len1 ≤ 150 := by omega
    -- the empty row, the append; then the one
    have HZa := Lib.hid (HZd.out.keep (below_alloc (Nat.le_refl _) (.cells #[] 48)))
    obtain ⟨va, Wb, r1a, oa, ba, -⟩ := appO W2.heap.size (W2.drew.alloc (.cells #[] 48)) _ [] z1 0 len1 a1 cap1 (own_zeroO W2.drew _ rfl) HZa.out HL1.out (fun e => ⟨List.length_eq_zero_iff.1 (HL1.out.trans (HNL1.out e).1), (HNL1.out e).2⟩) (by simp) (by omega)
    have HBa : Hid (Below W2.heap.size W2 Wb) := Lib.hid ((((Below.refl _ W2).drew).alloc (by simp) _).trans ba)
    have hsa := HBa.out.size
    rw [List.nil_append] at oa
    obtain ⟨va2, Wa2, r2a, oa2, ba2, -⟩ := appO W2.heap.size (Wb.alloc (.cells #[.int .i64 kd, .string ky, .string vl] 48)) va z1 [o] (0 + len1) 1 (some ⟨Wb.heap.size, 0, none⟩) 1 (own_keepS oa (below_alloc (Nat.le_refl _) _)) (by rw [HO.out]; exact ops_new Wb ⟨kd, ky, vl⟩ _ rfl) rfl (fun e => by cases e) (by simp; omega) (by omega)
    obtain ⟨aA, cA, rfl, hA, -, -, -⟩ := ops_of_own oa2
    rw [List.length_append, HL1.out] at r2a
    have HA := Lib.hid hA
    have BA : Hid (Below W2.heap.size W2 Wa2) := Lib.hid ((HBa.out.trans (below_alloc hsa _)).trans ba2)
    -- the empty row, the one; then the append
    have hob : OpsAt ((W2.drew.alloc (.cells #[] 48)).alloc (.cells #[.int .i64 kd, .string ky, .string vl] 48)) (some ⟨W2.heap.size + 1, 0, none⟩) [o] := by
      rw [HO.out]; exact ops_new (W2.drew.alloc (.cells #[] 48)) ⟨kd, ky, vl⟩ _ (by simp)
    have BBd : Hid (Below W2.heap.size W2 ((W2.drew.alloc (.cells #[] 48)).alloc (.cells #[.int .i64 kd, .string ky, .string vl] 48))) := Lib.hid ((((Below.refl _ W2).drew).alloc (by simp) _).trans (below_alloc (by simp) _))
    obtain ⟨vb, Wb1, aB, cB, Wb2, r1b, r2b, hB', bB, bB1⟩ := app2 (B := W2.heap.size) (cap1 := cap1) (own_keepS (own_zeroO W2.drew _ rfl) (below_alloc (Nat.le_refl _) (.cells #[.int .i64 kd, .string ky, .string vl] 48))) (HZa.out.keep (below_alloc (Nat.le_refl _) (.cells #[.int .i64 kd, .string ky, .string vl] 48))) HL1.out HNL1.out hob (by simp [Value.ownBlock]) (by simp) (by simp; omega) h150'
    have HB' := Lib.hid hB'
    have BB : Hid (Below W2.heap.size W2 Wb2) := Lib.hid (BBd.out.trans bB)
    -- the one, the empty row; then the append
    have hoc : OpsAt ((W2.drew.alloc (.cells #[.int .i64 kd, .string ky, .string vl] 48)).alloc (.cells #[] 48)) (some ⟨W2.heap.size, 0, none⟩) [o] := by
      rw [HO.out]; exact (ops_new W2.drew ⟨kd, ky, vl⟩ _ rfl).keep (below_alloc (Nat.le_refl _) _)
    have BCd : Hid (Below W2.heap.size W2 ((W2.drew.alloc (.cells #[.int .i64 kd, .string ky, .string vl] 48)).alloc (.cells #[] 48))) := Lib.hid ((((Below.refl _ W2).drew).alloc (by simp) _).trans (below_alloc (by simp) _))
    have ownc : ((W2.drew.alloc (.cells #[.int .i64 kd, .string ky, .string vl] 48)).alloc (.cells #[] 48)).ownsRow (W2.heap.size + 1) 48 3 (.slice (some ⟨W2.heap.size + 1, 0, none⟩) 0 0) 0 (opsV []) := own_zeroO (W2.drew.alloc (.cells #[.int .i64 kd, .string ky, .string vl] 48)) _ (by simp)
    obtain ⟨vc, Wc1, aC, cC, Wc2, r1c, r2c, hC', bC, bC1⟩ := app2 (B := W2.heap.size + 1) (cap1 := cap1) ownc ((HZd.out.keep (below_alloc (Nat.le_refl _) (.cells #[.int .i64 kd, .string ky, .string vl] 48))).keep (below_alloc (Nat.le_refl _) (.cells #[] 48))) HL1.out HNL1.out hoc (by simp [Value.ownBlock]) (by simp; omega) (by simp) h150'
    have HC' := Lib.hid hC'
    have BC : Hid (Below W2.heap.size W2 Wc2) := Lib.hid (BCd.out.trans (bC.mono (by omega)))
    have SA1 : Hid (Below W2.heap.size W2 (W2.drew.alloc (.cells #[] 48))) := Lib.hid (((Below.refl _ W2).drew).alloc (by simp) _)
    have SC1 : Hid (Below W2.heap.size W2 (W2.drew.alloc (.cells #[.int .i64 kd, .string ky, .string vl] 48))) := Lib.hid (((Below.refl _ W2).drew).alloc (by simp) _)
    have SA2 : Hid (Below W2.heap.size W2 (Wb.alloc (.cells #[.int .i64 kd, .string ky, .string vl] 48))) := Lib.hid (HBa.out.trans (below_alloc hsa _))
    have BB1 : Hid (Below W2.heap.size W2 Wb1) := Lib.hid (BBd.out.trans bB1)
    have BC1 : Hid (Below W2.heap.size W2 Wc1) := Lib.hid (BCd.out.trans (bC1.mono (by omega)))
    clear hA oa oa2 ba ba2 hob hoc ownc hB' hC' bB bB1 bC bC1 HBT HENC
    go_cut [9, 10] (fun v f wx => f = .int .i64 (chkI seq (z1 ++ [o])) ∧ Hid (RowIn wx v (encR seq (z1 ++ [o])) ∧ Below W2.heap.size W2 wx))
    case first =>
      have HEA := Lib.hid (HENC2.out Wa2 aA (len1 + 1) cA HA.out rfl)
      have HEB := Lib.hid (HENC2.out Wb2 aB (len1 + 1) cB HB'.out rfl)
      have HEC := Lib.hid (HENC2.out Wc2 aC (len1 + 1) cC HC'.out rfl)
      clear HENC2
      refine wp_region_held_drew (S := fun w' => Below W2.heap.size W2 w') (by kernel_rfl) (below_drewN _ _ 1) (fun hHeld => ?_)
      refine wpAnyH_take (i := 0) (v := ?_) rfl (by kernel_rfl) (by kernel_rfl) (by kernel_rfl) (fun _ _ _ h => h) (Or.inl ⟨by rfl, ?_⟩) hHeld ?_
      rotate_left
      · (intro wx hSw; (try dsimp only at hSw); first | (go_simp; done) | (go_simp; with_reducible rfl))
      simp only [Act.put, List.getElem_toArray, List.getElem_cons_zero, List.setIfInBounds_toArray, List.set_cons_zero, List.set_cons_succ]
      refine wpAnyH_take (i := 2) (v := ?_) rfl (by kernel_rfl) (by kernel_rfl) (by kernel_rfl) (fun _ _ _ h => h) (Or.inl ⟨by rfl, ?_⟩) hHeld ?_
      rotate_left
      · (intro wx hSw; (try dsimp only at hSw); first | (go_simp; done) | (go_simp; with_reducible rfl))
      simp only [Act.put, List.getElem_toArray, List.getElem_cons_zero, List.getElem_cons_succ, List.setIfInBounds_toArray, List.set_cons_zero, List.set_cons_succ]
      refine wpAnyH_take (i := 4) (v := ?_) rfl (by kernel_rfl) (by kernel_rfl) (by kernel_rfl) (fun _ _ _ h => h) (Or.inl ⟨by rfl, ?_⟩) hHeld ?_
      rotate_left
      · (intro wx hSw; have hb3 := HBX2.out.keep hSw; have g0 := hb3.c0; have g1 := hb3.c1; have g2 := hb3.c2; have gl := hb3.lt; rw [HK0.out] at g0; rw [HK1.out] at g1; rw [HK2.out] at g2; clear hb3; first | (go_simp; done) | (go_simp; with_reducible rfl))
      simp only [Act.put, List.getElem_toArray, List.getElem_cons_zero, List.getElem_cons_succ, List.setIfInBounds_toArray, List.set_cons_zero, List.set_cons_succ]
      refine wpAnyH_ready (rs := [1, 5]) (by kernel_rfl) (by simp) ?_
      refine (AllReadyH.cons rfl (fun K hK => ?_) (AllReadyH.cons rfl (fun K hK => ?_) AllReadyH.nil))
      · go_simp
        refine hK.out _ _ SA1.out (fun hHeld => ?_)
        clear hK K
        try simp only [Act.put, List.setIfInBounds_toArray, List.set_cons_zero, List.set_cons_succ]
        refine wpAnyH_ready (rs := [3, 5]) (by kernel_rfl) (by simp) ?_
        refine (AllReadyH.cons rfl (fun K hK => ?_) (AllReadyH.cons rfl (fun K hK => ?_) AllReadyH.nil))
        · refine wp_app_run rfl r1a rfl rfl ?_
          refine hK.out _ _ HBa.out (fun hHeld => ?_)
          clear hK K
          try simp only [Act.put, List.setIfInBounds_toArray, List.set_cons_zero, List.set_cons_succ]
          refine wpAnyH_ready (rs := [5]) (by kernel_rfl) (by simp) ?_
          refine (AllReadyH.cons rfl (fun K hK => ?_) AllReadyH.nil)
          go_simp
          refine hK.out _ _ SA2.out (fun hHeld => ?_)
          clear hK K
          try simp only [Act.put, List.setIfInBounds_toArray, List.set_cons_zero, List.set_cons_succ]
          refine wpAnyH_ready (rs := [6]) (by kernel_rfl) (by simp) ?_
          refine (AllReadyH.cons rfl (fun K hK => ?_) AllReadyH.nil)
          refine wp_app_run rfl r2a rfl rfl ?_
          refine hK.out _ _ BA.out (fun hHeld => ?_)
          clear hK K
          try simp only [Act.put, List.setIfInBounds_toArray, List.set_cons_zero, List.set_cons_succ]
          refine wpAnyH_ready (rs := [7]) (by kernel_rfl) (by simp) ?_
          refine (AllReadyH.cons rfl (fun K hK => ?_) AllReadyH.nil)
          go_simp
          refine HEA.out.mono ?_
          rintro e w7 ⟨v7, rfl, o7, b7⟩
          have HF := Lib.hid (And.intro o7 (BA.out.trans (b7.mono BA.out.size)))
          clear o7 b7
          try go_wp2_with fail
          refine hK.out _ _ HF.out.2 (fun hHeld => ?_)
          clear hK K
          try simp only [Act.put, List.setIfInBounds_toArray, List.set_cons_zero, List.set_cons_succ]
          refine wpAnyH_take (i := 8) (v := ?_) rfl (by kernel_rfl) (by kernel_rfl) (by kernel_rfl) (fun _ _ _ h => h) (Or.inl ⟨by rfl, ?_⟩) hHeld ?_
          rotate_left
          · (intro wx hSw; (try dsimp only at hSw); first | (go_simp; done) | (go_simp; with_reducible rfl))
          simp only [Act.put, List.getElem_toArray, List.getElem_cons_zero, List.getElem_cons_succ, List.setIfInBounds_toArray, List.set_cons_zero, List.set_cons_succ]
          refine wpAnyH_take (i := 9) (v := ?_) rfl (by kernel_rfl) (by kernel_rfl) (by kernel_rfl) (fun _ _ _ h => h) (Or.inl ⟨by rfl, ?_⟩) hHeld ?_
          rotate_left
          · (intro wx hSw; (try dsimp only at hSw); first | (go_simp; done) | (go_simp; with_reducible rfl))
          simp only [Act.put, List.getElem_toArray, List.getElem_cons_zero, List.getElem_cons_succ, List.setIfInBounds_toArray, List.set_cons_zero, List.set_cons_succ]
          refine wpAnyH_take (i := 10) (v := ?_) rfl (by kernel_rfl) (by kernel_rfl) (by kernel_rfl) (fun _ _ _ h => h) (Or.inl ⟨by rfl, ?_⟩) hHeld ?_
          rotate_left
          · (intro wx hSw; (try dsimp only at hSw); first | (go_simp; done) | (go_simp; with_reducible rfl))
          simp only [Act.put, List.getElem_toArray, List.getElem_cons_zero, List.getElem_cons_succ, List.setIfInBounds_toArray, List.set_cons_zero, List.set_cons_succ]
          refine wpAnyH_take (i := 11) (v := ?_) rfl (by kernel_rfl) (by kernel_rfl) (by kernel_rfl) (fun _ _ _ h => h) (Or.inl ⟨by rfl, ?_⟩) hHeld ?_
          rotate_left
          · (intro wx hSw; (try dsimp only at hSw); first | (go_simp; done) | (go_simp; with_reducible rfl))
          simp only [Act.put, List.getElem_toArray, List.getElem_cons_zero, List.getElem_cons_succ, List.setIfInBounds_toArray, List.set_cons_zero, List.set_cons_succ]
          refine wpAnyH_take (i := 12) (v := ?_) rfl (by kernel_rfl) (by kernel_rfl) (by kernel_rfl) (fun _ _ _ h => h) (Or.inl ⟨by rfl, ?_⟩) hHeld ?_
          rotate_left
          · (intro wx hSw; (try dsimp only at hSw); first | (go_simp; done) | (go_simp; with_reducible rfl))
          simp only [Act.put, List.getElem_toArray, List.getElem_cons_zero, List.getElem_cons_succ, List.setIfInBounds_toArray, List.set_cons_zero, List.set_cons_succ]
          refine wpAnyH_done (by kernel_rfl) ?_ _
          go_wp2_with fail
          go_meet
          exact ⟨rfl, HF⟩
        · go_simp
          refine hK.out _ _ BBd.out (fun hHeld => ?_)
          clear hK K
          try simp only [Act.put, List.setIfInBounds_toArray, List.set_cons_zero, List.set_cons_succ]
          refine wpAnyH_ready (rs := [3]) (by kernel_rfl) (by simp) ?_
          refine (AllReadyH.cons rfl (fun K hK => ?_) AllReadyH.nil)
          refine wp_app_run rfl r1b rfl rfl ?_
          refine hK.out _ _ BB1.out (fun hHeld => ?_)
          clear hK K
          try simp only [Act.put, List.setIfInBounds_toArray, List.set_cons_zero, List.set_cons_succ]
          refine wpAnyH_ready (rs := [6]) (by kernel_rfl) (by simp) ?_
          refine (AllReadyH.cons rfl (fun K hK => ?_) AllReadyH.nil)
          refine wp_app_run rfl r2b rfl rfl ?_
          refine hK.out _ _ BB.out (fun hHeld => ?_)
          clear hK K
          try simp only [Act.put, List.setIfInBounds_toArray, List.set_cons_zero, List.set_cons_succ]
          refine wpAnyH_ready (rs := [7]) (by kernel_rfl) (by simp) ?_
          refine (AllReadyH.cons rfl (fun K hK => ?_) AllReadyH.nil)
          go_simp
          refine HEB.out.mono ?_
          rintro e w7 ⟨v7, rfl, o7, b7⟩
          have HF := Lib.hid (And.intro o7 (BB.out.trans (b7.mono BB.out.size)))
          clear o7 b7
          try go_wp2_with fail
          refine hK.out _ _ HF.out.2 (fun hHeld => ?_)
          clear hK K
          try simp only [Act.put, List.setIfInBounds_toArray, List.set_cons_zero, List.set_cons_succ]
          refine wpAnyH_take (i := 8) (v := ?_) rfl (by kernel_rfl) (by kernel_rfl) (by kernel_rfl) (fun _ _ _ h => h) (Or.inl ⟨by rfl, ?_⟩) hHeld ?_
          rotate_left
          · (intro wx hSw; (try dsimp only at hSw); first | (go_simp; done) | (go_simp; with_reducible rfl))
          simp only [Act.put, List.getElem_toArray, List.getElem_cons_zero, List.getElem_cons_succ, List.setIfInBounds_toArray, List.set_cons_zero, List.set_cons_succ]
          refine wpAnyH_take (i := 9) (v := ?_) rfl (by kernel_rfl) (by kernel_rfl) (by kernel_rfl) (fun _ _ _ h => h) (Or.inl ⟨by rfl, ?_⟩) hHeld ?_
          rotate_left
          · (intro wx hSw; (try dsimp only at hSw); first | (go_simp; done) | (go_simp; with_reducible rfl))
          simp only [Act.put, List.getElem_toArray, List.getElem_cons_zero, List.getElem_cons_succ, List.setIfInBounds_toArray, List.set_cons_zero, List.set_cons_succ]
          refine wpAnyH_take (i := 10) (v := ?_) rfl (by kernel_rfl) (by kernel_rfl) (by kernel_rfl) (fun _ _ _ h => h) (Or.inl ⟨by rfl, ?_⟩) hHeld ?_
          rotate_left
          · (intro wx hSw; (try dsimp only at hSw); first | (go_simp; done) | (go_simp; with_reducible rfl))
          simp only [Act.put, List.getElem_toArray, List.getElem_cons_zero, List.getElem_cons_succ, List.setIfInBounds_toArray, List.set_cons_zero, List.set_cons_succ]
          refine wpAnyH_take (i := 11) (v := ?_) rfl (by kernel_rfl) (by kernel_rfl) (by kernel_rfl) (fun _ _ _ h => h) (Or.inl ⟨by rfl, ?_⟩) hHeld ?_
          rotate_left
          · (intro wx hSw; (try dsimp only at hSw); first | (go_simp; done) | (go_simp; with_reducible rfl))
          simp only [Act.put, List.getElem_toArray, List.getElem_cons_zero, List.getElem_cons_succ, List.setIfInBounds_toArray, List.set_cons_zero, List.set_cons_succ]
          refine wpAnyH_take (i := 12) (v := ?_) rfl (by kernel_rfl) (by kernel_rfl) (by kernel_rfl) (fun _ _ _ h => h) (Or.inl ⟨by rfl, ?_⟩) hHeld ?_
          rotate_left
          · (intro wx hSw; (try dsimp only at hSw); first | (go_simp; done) | (go_simp; with_reducible rfl))
          simp only [Act.put, List.getElem_toArray, List.getElem_cons_zero, List.getElem_cons_succ, List.setIfInBounds_toArray, List.set_cons_zero, List.set_cons_succ]
          refine wpAnyH_done (by kernel_rfl) ?_ _
          go_wp2_with fail
          go_meet
          exact ⟨rfl, HF⟩
      · go_simp
        refine hK.out _ _ SC1.out (fun hHeld => ?_)
        clear hK K
        try simp only [Act.put, List.setIfInBounds_toArray, List.set_cons_zero, List.set_cons_succ]
        refine wpAnyH_ready (rs := [1]) (by kernel_rfl) (by simp) ?_
        refine (AllReadyH.cons rfl (fun K hK => ?_) AllReadyH.nil)
        go_simp
        refine hK.out _ _ BCd.out (fun hHeld => ?_)
        clear hK K
        try simp only [Act.put, List.setIfInBounds_toArray, List.set_cons_zero, List.set_cons_succ]
        refine wpAnyH_ready (rs := [3]) (by kernel_rfl) (by simp) ?_
        refine (AllReadyH.cons rfl (fun K hK => ?_) AllReadyH.nil)
        refine wp_app_run rfl r1c rfl rfl ?_
        refine hK.out _ _ BC1.out (fun hHeld => ?_)
        clear hK K
        try simp only [Act.put, List.setIfInBounds_toArray, List.set_cons_zero, List.set_cons_succ]
        refine wpAnyH_ready (rs := [6]) (by kernel_rfl) (by simp) ?_
        refine (AllReadyH.cons rfl (fun K hK => ?_) AllReadyH.nil)
        refine wp_app_run rfl r2c rfl rfl ?_
        refine hK.out _ _ BC.out (fun hHeld => ?_)
        clear hK K
        try simp only [Act.put, List.setIfInBounds_toArray, List.set_cons_zero, List.set_cons_succ]
        refine wpAnyH_ready (rs := [7]) (by kernel_rfl) (by simp) ?_
        refine (AllReadyH.cons rfl (fun K hK => ?_) AllReadyH.nil)
        go_simp
        refine HEC.out.mono ?_
        rintro e w7 ⟨v7, rfl, o7, b7⟩
        have HF := Lib.hid (And.intro o7 (BC.out.trans (b7.mono BC.out.size)))
        clear o7 b7
        try go_wp2_with fail
        refine hK.out _ _ HF.out.2 (fun hHeld => ?_)
        clear hK K
        try simp only [Act.put, List.setIfInBounds_toArray, List.set_cons_zero, List.set_cons_succ]
        refine wpAnyH_take (i := 8) (v := ?_) rfl (by kernel_rfl) (by kernel_rfl) (by kernel_rfl) (fun _ _ _ h => h) (Or.inl ⟨by rfl, ?_⟩) hHeld ?_
        rotate_left
        · (intro wx hSw; (try dsimp only at hSw); first | (go_simp; done) | (go_simp; with_reducible rfl))
        simp only [Act.put, List.getElem_toArray, List.getElem_cons_zero, List.getElem_cons_succ, List.setIfInBounds_toArray, List.set_cons_zero, List.set_cons_succ]
        refine wpAnyH_take (i := 9) (v := ?_) rfl (by kernel_rfl) (by kernel_rfl) (by kernel_rfl) (fun _ _ _ h => h) (Or.inl ⟨by rfl, ?_⟩) hHeld ?_
        rotate_left
        · (intro wx hSw; (try dsimp only at hSw); first | (go_simp; done) | (go_simp; with_reducible rfl))
        simp only [Act.put, List.getElem_toArray, List.getElem_cons_zero, List.getElem_cons_succ, List.setIfInBounds_toArray, List.set_cons_zero, List.set_cons_succ]
        refine wpAnyH_take (i := 10) (v := ?_) rfl (by kernel_rfl) (by kernel_rfl) (by kernel_rfl) (fun _ _ _ h => h) (Or.inl ⟨by rfl, ?_⟩) hHeld ?_
        rotate_left
        · (intro wx hSw; (try dsimp only at hSw); first | (go_simp; done) | (go_simp; with_reducible rfl))
        simp only [Act.put, List.getElem_toArray, List.getElem_cons_zero, List.getElem_cons_succ, List.setIfInBounds_toArray, List.set_cons_zero, List.set_cons_succ]
        refine wpAnyH_take (i := 11) (v := ?_) rfl (by kernel_rfl) (by kernel_rfl) (by kernel_rfl) (fun _ _ _ h => h) (Or.inl ⟨by rfl, ?_⟩) hHeld ?_
        rotate_left
        · (intro wx hSw; (try dsimp only at hSw); first | (go_simp; done) | (go_simp; with_reducible rfl))
        simp only [Act.put, List.getElem_toArray, List.getElem_cons_zero, List.getElem_cons_succ, List.setIfInBounds_toArray, List.set_cons_zero, List.set_cons_succ]
        refine wpAnyH_take (i := 12) (v := ?_) rfl (by kernel_rfl) (by kernel_rfl) (by kernel_rfl) (fun _ _ _ h => h) (Or.inl ⟨by rfl, ?_⟩) hHeld ?_
        rotate_left
        · (intro wx hSw; (try dsimp only at hSw); first | (go_simp; done) | (go_simp; with_reducible rfl))
        simp only [Act.put, List.getElem_toArray, List.getElem_cons_zero, List.getElem_cons_succ, List.setIfInBounds_toArray, List.set_cons_zero, List.set_cons_succ]
        refine wpAnyH_done (by kernel_rfl) ?_ _
        go_wp2_with fail
        go_meet
        exact ⟨rfl, HF⟩
    case rest =>
      obtain ⟨rfl, HF⟩ := hcut
      have HBc : Hid (Below w.heap.size w wc) := Lib.hid (by
        have h := HB2.out
        rw [← hp] at h
        exact h.trans (HF.out.2.mono h.size))
      have HBXc := Lib.hid (HBX2.out.keep HF.out.2)
      have HXc := Lib.hid (HX.out.keep HF.out.2)
      have HYc := Lib.hid HF.out.1
      have HOPSc := Lib.hid (HOPS.out.keep HBc.out)
      clear c0 c1 c2 hpl hp HF HX HBX2 HB0 HBX0 HB1 HBX1 HB2 r1a r2a r1b r2b r1c r2c HA BA HB' BB HC' BC BBd BCd HBd HZd HZa hsa HBa SA1 SC1 SA2 BB1 BC1 HENC2
      generalize hc1 : chkI seq z1 = c1v at *
      generalize hc2 : chkI seq (z1 ++ [o]) = c2v at *
      by_cases hz : c1v = 0
      · subst hz
        obtain ⟨ax, cx, hvx, xb, xn, xc⟩ := HXc.out
        obtain ⟨ay, cy, hvy, yb, yn, yc⟩ := HYc.out
        have hsz0 : szN z1 0 = 12 := rfl
        have hszE : szN z1 len1 = (encR seq z1).length := by rw [← HL1.out]; exact szN_end hc1
        have hxm := encR_max hc1
        have hx12 := encR_len hc1
        have HOPL := Lib.hid (chk_ops hc1)
        have HSTEP := Lib.hid (szN_step z1)
        have HSZE := Lib.hid hszE
        have HXB := Lib.hid xb
        have HXN := Lib.hid xn
        have HYB := Lib.hid yb
        have HYN := Lib.hid yn
        have HC1 := Lib.hid hc1
        have HC2' := Lib.hid hc2
        have hmono : ∀ i, szN z1 i ≤ (encR seq z1).length := fun i => by
          rw [← szN_end hc1]
          unfold szN
          have : (opsL (z1.take i)).length ≤ (opsL (z1.take z1.length)).length := by
            rw [List.take_length]
            conv => rhs; rw [← List.take_append_drop i z1]
            unfold opsL
            rw [List.flatMap_append, List.length_append]; omega
          omega
        have HMONO := Lib.hid hmono
        clear hc1 hc2 hszE xb xn yb yn hmono HXc HYc
        subst hvx hvy
        go_wp2_with fail
        go_loopw [11, 12] (fun s i wr => ∃ k : Nat, i = .int .i64 (k : Int) ∧ k ≤ len1 ∧ s = .int .i64 (szN z1 k : Int) ∧ Below wc.heap.size wc wr) (fun _ i _ => len1 - (intOf i).toNat)
        case atStart => exact ⟨0, rfl, Nat.zero_le _, by rw [hsz0]; rfl, Below.refl _ _⟩
        case round =>
          obtain ⟨k, rfl, hk, rfl, hbel⟩ := hrel
          have HBR := Lib.hid hbel
          have hws := hbel.size
          clear hbel hsz0
          by_cases hin : k < len1
          · have hil : k < z1.length := by rw [HL1.out]; exact hin
            obtain ⟨b, off, rfl, hlt, d0, d1, d2⟩ := (HOPSc.out.keep HBR.out).at hil
            have hSt := HSTEP.out k hil
            have hM := HMONO.out (k + 1)
            obtain ⟨g1, g2, g3⟩ := HOPL.out _ (List.getElem_mem hil)
            have HSA := Lib.hid (size_any z1[k] g1 g2)
            have hsm : szN z1 k ≤ 300000 := by have := HMONO.out k; omega
            have hop : (opL z1[k]).length ≤ 300000 := by omega
            have HST2 := Lib.hid hSt
            clear hSt hM g1 g2 g3
            generalize (opL z1[k]).length = ol at *
            generalize z1[k] = q at *
            obtain ⟨q0, q1, q2⟩ := q
            dsimp only at d0 d1 d2
            unfold OpV.v at HSA
            generalize szN z1 k = sk at *
            go_wp2_with fail
            refine (HSA.out _).mono ?_
            rintro e W3 ⟨rfl, hb⟩
            have HB3 := Lib.hid (HBR.out.trans (hb.mono hws))
            clear hb
            go_wp2_with fail
            go_roundw
            case rel => exact ⟨k + 1, by go_num, by omega, by rw [HST2.out]; go_num, HB3.out⟩
            case measure => simp [intOf]; omega
          · obtain rfl : k = len1 := by omega
            rw [HSZE.out]
            obtain ⟨nx, hnx⟩ : ∃ nx, (encR seq z1).length = nx := ⟨_, rfl⟩
            rw [hnx] at hxm hx12 xc ⊢
            have qx : ((nx : Int) != (nx : Int)) = false := by simp
            have HNX := Lib.hid hnx
            clear hnx HMONO HSTEP HOPL
            by_cases hz2 : c2v = 0
            · subst hz2
              obtain ⟨hm1, hm2⟩ := encR_more HC1.out HC2'.out
              have hm3 := encR_8 HC1.out HC2'.out
              have hym := encR_max HC2'.out
              have hok := chk_ops HC2'.out o (by simp)
              have hXby := encR_byte seq z1
              have hYby := encR_byte seq (z1 ++ [o])
              rw [HNX.out] at hm1 hm2
              have hyb2 : ((encR seq (z1 ++ [o])).take nx).length = nx := by rw [List.length_take, hm1]; omega
              -- the four texts
              have hs1 : ∀ wx, Below wr.heap.size wr wx → (convert 23 9 (.slice (part ay cy 12) (nx - 12) (cy - 12))).run Try.prog wx = .ok (.string (strOf ((encR seq z1).drop 12))) wx := fun wx h => by
                have hb : Byt wx (part ay cy 12) (((encR seq (z1 ++ [o])).take nx).drop 12) := bytPart ((HYB.out.keep (HBR.out.trans (h.mono hws))).low) cy 12 nx yc (by omega) (by omega)
                rw [hm2] at hb
                exact conv_bytes hb (fun x hx => hXby x (List.mem_of_mem_drop hx)) (fun e => by
                  have := HYN.out (part_none e)
                  rw [this] at hm1; simp at hm1; omega) (cy - 12) (nx - 12) (by rw [List.length_drop, HNX.out])
              have hs2 : ∀ wx, Below wr.heap.size wr wx → (convert 23 9 (.slice (part ax cx 12) (nx - 12) (cx - 12))).run Try.prog wx = .ok (.string (strOf ((encR seq z1).drop 12))) wx := fun wx h => by
                have hb : Byt wx (part ax cx 12) (((encR seq z1).take nx).drop 12) := bytPart ((HXB.out.keep (HBR.out.trans (h.mono hws))).low) cx 12 nx (by rw [HNX.out]; exact xc) (by omega) (by rw [HNX.out]; exact Nat.le_refl _)
                rw [List.take_of_length_le (by rw [HNX.out]; exact Nat.le_refl _)] at hb
                exact conv_bytes hb (fun x hx => hXby x (List.mem_of_mem_drop hx)) (fun e => by
                  have := HXN.out (part_none e)
                  have h2 := HNX.out
                  rw [this] at h2; simp at h2; omega) (cx - 12) (nx - 12) (by rw [List.length_drop, HNX.out])
              have hs3 : ∀ wx, Below wr.heap.size wr wx → (convert 23 9 (.slice (part ay cy 0) 8 cy)).run Try.prog wx = .ok (.string (strOf ((encR seq z1).take 8))) wx := fun wx h => by
                have hb : Byt wx (part ay cy 0) (((encR seq (z1 ++ [o])).take 8).drop 0) := bytPart ((HYB.out.keep (HBR.out.trans (h.mono hws))).low) cy 0 8 yc (by omega) (by omega)
                rw [List.drop_zero, ← hm3] at hb
                exact conv_bytes hb (fun x hx => hXby x (List.mem_of_mem_take hx)) (fun e => by
                  have := HYN.out (part_none e)
                  rw [this] at hm1; simp at hm1; omega) cy 8 (by rw [List.length_take, HNX.out]; omega)
              have hs4 : ∀ wx, Below wr.heap.size wr wx → (convert 23 9 (.slice (part ax cx 0) 8 cx)).run Try.prog wx = .ok (.string (strOf ((encR seq z1).take 8))) wx := fun wx h => by
                have hb : Byt wx (part ax cx 0) (((encR seq z1).take 8).drop 0) := bytPart ((HXB.out.keep (HBR.out.trans (h.mono hws))).low) cx 0 8 (by rw [HNX.out]; exact xc) (by omega) (by rw [HNX.out]; omega)
                rw [List.drop_zero] at hb
                exact conv_bytes hb (fun x hx => hXby x (List.mem_of_mem_take hx)) (fun e => by
                  have := HXN.out (part_none e)
                  have h2 := HNX.out
                  rw [this] at h2; simp at h2; omega) cx 8 (by rw [List.length_take, HNX.out]; omega)
              obtain ⟨S1, hS1⟩ : ∃ S, strOf ((encR seq z1).drop 12) = S := ⟨_, rfl⟩
              obtain ⟨S2, hS2⟩ : ∃ S, strOf ((encR seq z1).take 8) = S := ⟨_, rfl⟩
              rw [hS1] at hs1 hs2
              rw [hS2] at hs3 hs4
              have HS1 := Lib.hid hs1
              have HS2 := Lib.hid hs2
              have HS3 := Lib.hid hs3
              have HS4 := Lib.hid hs4
              have e1 : (S1.toList == S1.toList) = true := by simp
              have e2 : (S2.toList == S2.toList) = true := by simp
              have HSO := Lib.hid (size_any o hok.1 hok.2.1)
              have HBXr := Lib.hid (HBXc.out.keep HBR.out)
              obtain ⟨no, hno⟩ : ∃ no, (opL o).length = no := ⟨_, rfl⟩
              obtain ⟨ny, hny⟩ : ∃ ny, (encR seq (z1 ++ [o])).length = ny := ⟨_, rfl⟩
              rw [hno] at hm1 HSO
              rw [hny] at hm1 hym yc ⊢
              have hwr : IntKind.i64.wrap ((nx : Int) + (no : Int)) = (ny : Int) := by rw [IntKind.wrap_i64]; omega
              have qy : ((ny : Int) == (ny : Int)) = true := by simp
              have HSO2 : Hid (∀ wx, Below wr.heap.size wr wx → Calls Try.prog 23 #[.agg #[.int .i64 kd, .string ky, .string vl]] wx fun e w'' => e = .returned (.int .i64 (no : Int)) ∧ Below wr.heap.size wr w'') := Lib.hid (fun wx hx => by
                have h := HSO.out wx
                unfold OpV.v at h
                rw [HK0.out, HK1.out, HK2.out] at h
                exact h.mono fun _ _ ⟨he, hb⟩ => ⟨he, hx.trans (hb.mono hx.size)⟩)
              have sl1 : ∀ wx, (Instr.slice 23 (.slice ay ny cy) (some (.int .i64 12)) (some (.int .i64 (nx : Int))) none).run Try.prog wx = .ok (.slice (part ay cy 12) (nx - 12) (cy - 12)) wx := fun wx => run_part (w := wx) (a := ay) ny cy 12 nx (nx : Int) rfl (by omega) (by omega)
              have sl2 : ∀ wx, (Instr.slice 23 (.slice ax nx cx) (some (.int .i64 12)) none none).run Try.prog wx = .ok (.slice (part ax cx 12) (nx - 12) (cx - 12)) wx := fun wx => run_part_from (w := wx) (a := ax) nx cx 12 12 rfl (by omega) (by omega)
              have sl3 : ∀ wx, (Instr.slice 23 (.slice ay ny cy) none (some (.int .i64 8)) none).run Try.prog wx = .ok (.slice (part ay cy 0) 8 cy) wx := fun wx => run_part_to (w := wx) (a := ay) ny cy 8 (by omega)
              have sl4 : ∀ wx, (Instr.slice 23 (.slice ax nx cx) none (some (.int .i64 8)) none).run Try.prog wx = .ok (.slice (part ax cx 0) 8 cx) wx := fun wx => run_part_to (w := wx) (a := ax) nx cx 8 (by omega)
              clear hm1 hm2 hm3 hym hok hXby hYby hyb2 hs1 hs2 hs3 hs4 hS1 hS2 hno hny hxm hx12 xc yc HC1 HC2' HNX HSO
              go_wp2_with fail
              refine wp_region_grown (by kernel_rfl) (by kernel_rfl) ?_
              repeat (first
                | go_big_quiet_skip
                | (go_big_quiet_want; go_big_quiet_op; first
                    | go_big_quiet_on
                    | (apply Exists.intro; refine ⟨fun _ _ => rfl, ?_⟩; go_big_quiet_on)
                    | (apply Exists.intro; refine ⟨fun _ hx => ⟨rfl, hx⟩, ?_⟩; go_big_quiet_on)
                    | (refine ⟨.agg #[.int .i64 kd, .string ky, .string vl], by intro wx hx; have h := HBXr.out.keep hx; simp only [h.c0, h.c1, h.c2, HK0.out, HK1.out, HK2.out, Result.andThen]; exact ⟨trivial, trivial⟩, ?_⟩; go_big_quiet_on)
                    | (apply Exists.intro; refine ⟨by intro wx hx; (first | rw [HS1.out wx hx] | rw [HS2.out wx hx] | rw [HS3.out wx hx] | rw [HS4.out wx hx]); exact ⟨rfl, rfl⟩, ?_⟩; go_big_quiet_on)
                    | (apply Exists.intro; refine ⟨by with_reducible exact HSO2.out, ?_⟩; go_big_quiet_on)))
              refine wpQuiet_nil ?_
              rintro wz ⟨x, hx⟩
              have HZ : Hid (Below wr.heap.size wr wz) := Lib.hid (hx ▸ x.2)
              clear hx x
              go_wp2
              go_ret
              exact ⟨rfl, HBc.out.trans ((HBR.out.trans (HZ.out.mono hws)).mono HBc.out.size)⟩
            · have q2 : (c2v != 0) = true := by simpa using hz2
              clear hz2
              go_wp2_with fail
              refine wp_region_grown (by kernel_rfl) (by kernel_rfl) ?_
              repeat (first
                | go_big_quiet_skip
                | (go_big_quiet_want; go_big_quiet_op; first
                    | go_big_quiet_on
                    | (apply Exists.intro; refine ⟨fun _ _ => rfl, ?_⟩; go_big_quiet_on)
                    | (apply Exists.intro; refine ⟨fun _ hx => ⟨rfl, hx⟩, ?_⟩; go_big_quiet_on)))
              refine wpQuiet_nil ?_
              rintro wz ⟨x, hx⟩
              have HZ : Hid (Below wr.heap.size wr wz) := Lib.hid (hx ▸ x.2)
              clear hx x
              go_wp2
              go_ret
              exact ⟨rfl, HBc.out.trans ((HBR.out.trans (HZ.out.mono hws)).mono HBc.out.size)⟩
      · have hx0 : encR seq z1 = [] := by unfold encR; rw [if_neg (by rw [hc1]; exact hz)]
        obtain ⟨ax, cx, hvx, -, -, -⟩ := HXc.out
        rw [hx0] at hvx
        subst hvx
        have q2 : (c1v != 0) = true := by simpa using hz
        clear hz hx0 hc1 hc2
        go_wp2_with fail
        go_ret
        exact ⟨rfl, HBc.out⟩
end Go.Proofs.Ythpcgdgahlcblaa.batchSizes
