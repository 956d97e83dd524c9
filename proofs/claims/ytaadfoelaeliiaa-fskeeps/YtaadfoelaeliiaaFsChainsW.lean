/-
  The law FsChains, walked.
-/
import Derived.Test.YtaadfoelaeliiaaFsZ5
import Derived.Test.YtaadfoelaeliiaaFsArmsW
import Derived.Deep.RegionHeld3
namespace Go.Proofs.Ytaadfoelaeliiaa
open Go.RowKit Go.Maps

/-- The four names in memory. -/
def AllAt (w : World) (ab : Nat) : Prop := w.heap[ab]? = some (.cells #[.string (strB (cn 0)), .string (strB (cn 1)), .string (strB (cn 2)), .string (strB (cn 3))] 9 (0, 0))
theorem AllAt.cell {w : World} {ab : Nat} (h : AllAt w ab) {i : Nat} (hi : i < 4) : w.cell? ⟨ab, i, none⟩ = some (.string (strB (cn i))) := by
  rw [cell_of_row w ab i _ _ _ h]
  rcases (show i = 0 ∨ i = 1 ∨ i = 2 ∨ i = 3 by omega) with rfl | rfl | rfl | rfl <;> rfl
theorem AllAt.stay {G : Nat → Prop} {w w' : World} {ab : Nat} (h : AllAt w ab) (hS : Stay G w w') (hb : ab < w.heap.size) (hG : G ab) : AllAt w' ab := (hS.block ab hb hG).trans h
theorem fx_append_text2 {G : Nat → Prop} {w : World} {pb : Nat} {a : A} (h : Fx G w pb a) (s : ByteArray) (ht : a.top < 1073741824) (t : ByteArray) (hmx : t.size ≤ 140737488351232) :
    ∃ cap w2, (convert 9 49 (.string t)).run Try.prog w = .ok (.slice (some ⟨w.heap.size, 0, none⟩) t.size cap) w2 ∧ Below w.heap.size w w2 ∧
      Calls Try.prog 24 #[bp pb, .string s, .slice (some ⟨w.heap.size, 0, none⟩) t.size cap] w2 fun e w' => e = .returned (.int .i64 (a.append s.data.toList (natsOf t)).1) ∧ Fx G w' pb (a.append s.data.toList (natsOf t)).2 ∧ Stay G w w' := by
  obtain ⟨cap, w2, hr, hc⟩ := fx_append_text h s ht t hmx
  obtain ⟨cap', w2', hr', _, _, hb⟩ := conv_new w t w.heap.size rfl
  rw [hr] at hr'
  injection hr' with h1 h2
  subst h2
  exact ⟨cap, w2, hr, hb, hc⟩
theorem natsOf_cn {i : Nat} (hi : i < 4) : natsOf (strB (cn i)) = [97 + i] := by
  rcases (show i = 0 ∨ i = 1 ∨ i = 2 ∨ i = 3 by omega) with rfl | rfl | rfl | rfl <;> rfl
/-- Who is there, in memory. -/
def ThAt (w : World) (tb : Nat) (th : Nat → Bool) : Prop := w.heap[tb]? = some (.cells #[.bool (th 0), .bool (th 1), .bool (th 2), .bool (th 3)] 4 (0, 0))
theorem ThAt.cell {w : World} {tb : Nat} {th : Nat → Bool} (h : ThAt w tb th) {i : Nat} (hi : i < 4) : w.cell? ⟨tb, i, none⟩ = some (.bool (th i)) := by
  rw [cell_of_row w tb i _ _ _ h]
  rcases (show i = 0 ∨ i = 1 ∨ i = 2 ∨ i = 3 by omega) with rfl | rfl | rfl | rfl <;> rfl
theorem ThAt.fz {w : World} {tb : Nat} {th : Nat → Bool} (h : ThAt w tb th) (i : Nat) : w.frozen? ⟨tb, i, none⟩ = false := by
  unfold ThAt at h
  simp [World.frozen?, h]
theorem ThAt.set {w : World} {tb : Nat} {th : Nat → Bool} (h : ThAt w tb th) {k : Nat} (hk : k < 4) (b : Bool) : ThAt (w.setCell ⟨tb, k, none⟩ (.bool b)) tb (upd th k b) := by
  unfold ThAt
  rw [Go.Joins.block_setCell h _]
  rcases (show k = 0 ∨ k = 1 ∨ k = 2 ∨ k = 3 by omega) with rfl | rfl | rfl | rfl <;> rfl
theorem ThAt.stay {G : Nat → Prop} {w w' : World} {tb : Nat} {th : Nat → Bool} (h : ThAt w tb th) (hS : Stay G w w') (hG : G tb) : ThAt w' tb th := (hS.block tb (Array.getElem?_eq_some_iff.1 h).1 hG).trans h
theorem Stay.own {G : Nat → Prop} {w0 w w' : World} {tb : Nat} (h : Stay G w0 w) (ht : Touch tb w w') (hG : ¬ G tb) : Stay G w0 w' :=
  ⟨ht.os.trans h.os, ht.tape.trans h.tape, ht.output.trans h.output, by rw [ht.size]; exact h.size, fun k hk hg => (ht.block k (fun e => hG (by rw [← e]; exact hg))).trans (h.block k hk hg)⟩
theorem Fx.set {G : Nat → Prop} {w : World} {pb : Nat} {a : A} {tb i : Nat} {v : Value} (h : Fx G w pb a) (hG : G tb) : Fx G (w.setCell ⟨tb, i, none⟩ v) pb a :=
  have ht : Touch tb w (w.setCell ⟨tb, i, none⟩ v) := Touch.setCell (a := ⟨tb, i, none⟩) v
  h.own ht.size.symm (fun k _ hg => ht.block k (fun e => hg (by rw [e]; exact hG)))
/-- Where the file is: -1 where it is 'it'. -/
def atV (c : Nat) : Int := if c = 4 then -1 else (c : Int)
def nIt : ByteArray := ⟨#[105, 116]⟩
theorem strOf_cn {i : Nat} (hi : i < 4) : strOf [97 + i] = strB (cn i) := by
  rcases (show i = 0 ∨ i = 1 ∨ i = 2 ∨ i = 3 by omega) with rfl | rfl | rfl | rfl <;> rfl
namespace fsChains

set_option maxRecDepth 100000 in
set_option maxHeartbeats 4000000 in
theorem walk (a0 : Option Addr) (len0 cap0 : Nat) (z0 : List Int) (a1 : ByteArray) (W : World) (w0 : IsRowI W a0 len0 cap0 z0) (_ : a1.size ≤ 140737488351232) :
    Calls Try.prog 9 #[.slice a0 len0 cap0, .string a1] W fun e w' => e = .returned (.bool true) ∧ Below W.heap.size W w' := by
  obtain ⟨k1, hk1⟩ : ∃ k1, min a1.size 300 = k1 := ⟨_, rfl⟩
  have hm1 := fun ts t wx => run_min2 (P := Try.prog) (w := wx) ts t (a1.size : Int) 300 (k1 : Int) (by omega)
  have l1 : k1 ≤ a1.size := by omega
  have hexs : (a1.extract 0 k1).size ≤ 300 := by rw [ByteArray.size_extract]; omega
  have hadd := fun wx => run_string_add_sum (P := Try.prog) (w := wx) ⟨#[33]⟩ (a1.extract 0 k1) (by show 1 + (a1.extract 0 k1).size ≤ _; omega)
  obtain ⟨dt, hdt⟩ : ∃ dt, (⟨#[33]⟩ : ByteArray) ++ a1.extract 0 k1 = dt := ⟨_, rfl⟩
  have HDT := Lib.hid (show dt.size ≤ 301 by rw [← hdt, ByteArray.size_append]; show 1 + _ ≤ 301; omega)
  simp only [hdt] at hadd
  have HF0 := Lib.hid (files_any W)
  have HW0 := Lib.hid w0
  clear w0 hk1 hdt hexs
  go_enter Try.func9, Try.ntmps9
  go_wp2_with fail
  refine HF0.out.mono ?_
  rintro e W1 ⟨rfl, b1⟩
  have HB1 := Lib.hid b1
  clear b1 HF0
  go_wp2_with fail
  obtain ⟨Wa, hWa⟩ : ∃ Wa, W1.alloc (.cells #[.string (strB (cn 0)), .string (strB (cn 1)), .string (strB (cn 2)), .string (strB (cn 3))] 9) = Wa := ⟨_, rfl⟩
  have hAL : AllAt Wa W1.heap.size := by unfold AllAt; rw [← hWa]; exact heap_alloc_new W1 _
  have hsz : Wa.heap.size = W1.heap.size + 1 := by rw [← hWa]; simp
  have HBa := Lib.hid (show Below W.heap.size W Wa from HB1.out.trans (by rw [← hWa]; exact (bel1 W1 _).mono HB1.out.size))
  change Calls _ _ _ (W1.alloc (.cells #[.string (strB (cn 0)), .string (strB (cn 1)), .string (strB (cn 2)), .string (strB (cn 3))] 9)) _
  rw [hWa]
  obtain ⟨ab, hab⟩ : ∃ ab, W1.heap.size = ab := ⟨_, rfl⟩
  rw [hab] at hAL hsz ⊢
  have HAL := Lib.hid hAL
  have habl : ab < Wa.heap.size := by omega
  clear hWa hAL hab hsz
  have HN := Lib.hid (fx_new (G := fun k => k < Wa.heap.size) Wa 1048576 (by omega) (fun k hk => hk))
  refine HN.out.mono ?_
  rintro e W2 ⟨rfl, h1, b1⟩
  have HS := Lib.hid (show Stay (fun k => k < Wa.heap.size) Wa W2 from Stay.of_below b1)
  have HF : Hid (Fx (fun k => k < Wa.heap.size) W2 Wa.heap.size (ini 0)) := Lib.hid h1
  have pl := h1.lt
  clear h1 b1 HN hm1 l1 hadd
  go_wp2_with fail
  go_loopw [8] (fun u8 wr => ∃ (i : Nat), u8 = .int .i64 i ∧ i ≤ 4 ∧ Fx (fun k => k < Wa.heap.size) wr Wa.heap.size (ini i) ∧ Stay (fun k => k < Wa.heap.size) Wa wr) (fun u8 _ => 4 - (intOf u8).toNat)
  case atStart => exact ⟨0, rfl, Nat.zero_le _, HF.out, HS.out⟩
  case round =>
    obtain ⟨i, rfl, hi4, hF, hS⟩ := hrel
    have HFr := Lib.hid hF
    have HSr := Lib.hid hS
    have plr := hF.lt
    clear hF hS HF HS pl
    by_cases hin : i < 4
    · obtain ⟨s1, s2, e1, e2, e3, t0, t1, t2⟩ := ini_step hin
      have HE1 := Lib.hid e1
      have HE2 := Lib.hid e2
      have HE3 := Lib.hid e3
      have HTP := Lib.hid (And.intro t0 (And.intro t1 t2))
      clear e1 e2 e3 t0 t1 t2
      go_wp2_with fail
      refine wp_region_held_drew (S := fun w' => w'.cell? ⟨ab, i, none⟩ = some (.string (strB (cn i)))) (by kernel_rfl) ((HAL.out.stay (HSr.out.trans (Stay.drewN _ wr 1)) habl habl).cell hin) (fun hHeld => ?_)
      refine wpAnyH_take (i := 0) (v := ?_) rfl (by kernel_rfl) (by kernel_rfl) (by kernel_rfl) (fun _ _ _ h => h) (Or.inl ⟨by rfl, ?_⟩) hHeld ?_
      rotate_left
      · (intro wx hSw; (try dsimp only at hSw); first | (go_simp; done) | (go_simp; with_reducible rfl))
      simp only [Act.put, List.getElem_toArray, List.getElem_cons_zero, List.setIfInBounds_toArray, List.set_cons_zero, List.set_cons_succ]
      refine wpAnyH_take (i := 1) (v := ?_) rfl (by kernel_rfl) (by kernel_rfl) (by kernel_rfl) (fun _ _ _ h => h) (Or.inl ⟨by rfl, ?_⟩) hHeld ?_
      rotate_left
      · (intro wx hSw; (try dsimp only at hSw); first | (go_simp; done) | (go_simp; with_reducible rfl))
      simp only [Act.put, List.getElem_toArray, List.getElem_cons_zero, List.getElem_cons_succ, List.setIfInBounds_toArray, List.set_cons_zero, List.set_cons_succ]
      refine wpAnyH_take (i := 2) (v := ?_) rfl (by kernel_rfl) (by kernel_rfl) (by kernel_rfl) (fun _ _ _ h => h) (Or.inl ⟨by rfl, ?_⟩) hHeld ?_
      rotate_left
      · (intro wx hSw; (try dsimp only at hSw); first | (go_simp; done) | (go_simp; with_reducible rfl))
      simp only [Act.put, List.getElem_toArray, List.getElem_cons_zero, List.getElem_cons_succ, List.setIfInBounds_toArray, List.set_cons_zero, List.set_cons_succ]
      refine wpAnyH_take (i := 3) (v := ?_) rfl (by kernel_rfl) (by kernel_rfl) (by kernel_rfl) (fun _ _ _ h => h) (Or.inl ⟨by rfl, ?_⟩) hHeld ?_
      rotate_left
      · (intro wx hSw; (try dsimp only at hSw); first | (go_simp; done) | (go_simp; with_reducible rfl))
      simp only [Act.put, List.getElem_toArray, List.getElem_cons_zero, List.getElem_cons_succ, List.setIfInBounds_toArray, List.set_cons_zero, List.set_cons_succ]
      refine wpAnyH_take (i := 4) (v := ?_) rfl (by kernel_rfl) (by kernel_rfl) (by kernel_rfl) (fun _ _ _ h => h) (Or.inl ⟨by rfl, ?_⟩) hHeld ?_
      rotate_left
      · (intro wx hSw; (try dsimp only at hSw); first | (go_simp; done) | (go_simp; with_reducible rfl))
      simp only [Act.put, List.getElem_toArray, List.getElem_cons_zero, List.getElem_cons_succ, List.setIfInBounds_toArray, List.set_cons_zero, List.set_cons_succ]
      refine wpAnyH_ready (rs := [5]) (by kernel_rfl) (by simp) ?_
      refine AllReadyH.cons rfl (fun K hK => ?_) AllReadyH.nil
      go_simp
      refine (fxQ (fx_create (HFr.out.drewN 1) (strB (cn i)) (by have := HTP.out.1; omega)) (show (ini i).create (strB (cn i)).data.toList = (0, s1) by rw [strB_list]; exact HE1.out)).mono ?_
      rintro e X1 ⟨rfl, hF, hS⟩
      have HS1 := Lib.hid ((HSr.out.trans (Stay.drewN _ wr 1)).trans hS)
      obtain ⟨capT, wT, hcv, hbT, hap⟩ := fx_append_text2 hF (strB (cn i)) (by have := HTP.out.2.1; omega) (strB (cn i)) (by rw [strB_size]; show 1 ≤ _; omega)
      rw [natsOf_cn hin] at hap
      have HC2 := Lib.hid (fxQ hap (show s1.append (strB (cn i)).data.toList [97 + i] = (0, s2) by rw [strB_list]; exact HE2.out))
      have HBT := Lib.hid hbT
      clear hF hS hap hbT
      try go_wp2_with fail
      refine hK.out _ _ ((HAL.out.stay HS1.out habl habl).cell hin) (fun hHeld => ?_)
      clear hK K
      try simp only [Act.put, List.setIfInBounds_toArray, List.set_cons_zero, List.set_cons_succ]
      refine wpAnyH_take (i := 6) (v := ?_) rfl (by kernel_rfl) (by kernel_rfl) (by kernel_rfl) (fun _ _ _ h => h) (Or.inl ⟨by rfl, ?_⟩) hHeld ?_
      rotate_left
      · (intro wx hSw; (try dsimp only at hSw); first | (go_simp; done) | (go_simp; with_reducible rfl))
      simp only [Act.put, List.getElem_toArray, List.getElem_cons_zero, List.getElem_cons_succ, List.setIfInBounds_toArray, List.set_cons_zero, List.set_cons_succ]
      refine wpAnyH_take (i := 7) (v := ?_) rfl (by kernel_rfl) (by kernel_rfl) (by kernel_rfl) (fun _ _ _ h => h) (Or.inl ⟨by rfl, ?_⟩) hHeld ?_
      rotate_left
      · (intro wx hSw; (try dsimp only at hSw); first | (go_simp; done) | (go_simp; with_reducible rfl))
      simp only [Act.put, List.getElem_toArray, List.getElem_cons_zero, List.getElem_cons_succ, List.setIfInBounds_toArray, List.set_cons_zero, List.set_cons_succ]
      refine wpAnyH_take (i := 8) (v := ?_) rfl (by kernel_rfl) (by kernel_rfl) (by kernel_rfl) (fun _ _ _ h => h) (Or.inl ⟨by rfl, ?_⟩) hHeld ?_
      rotate_left
      · (intro wx hSw; (try dsimp only at hSw); first | (go_simp; done) | (go_simp; with_reducible rfl))
      simp only [Act.put, List.getElem_toArray, List.getElem_cons_zero, List.getElem_cons_succ, List.setIfInBounds_toArray, List.set_cons_zero, List.set_cons_succ]
      refine wpAnyH_take (i := 9) (v := ?_) rfl (by kernel_rfl) (by kernel_rfl) (by kernel_rfl) (fun _ _ _ h => h) (Or.inl ⟨by rfl, ?_⟩) hHeld ?_
      rotate_left
      · (intro wx hSw; (try dsimp only at hSw); first | (go_simp; done) | (go_simp; with_reducible rfl))
      simp only [Act.put, List.getElem_toArray, List.getElem_cons_zero, List.getElem_cons_succ, List.setIfInBounds_toArray, List.set_cons_zero, List.set_cons_succ]
      refine wpAnyH_take (i := 10) (v := ?_) rfl (by kernel_rfl) (by kernel_rfl) (by kernel_rfl) (fun _ _ _ h => h) (Or.inl ⟨by rfl, ?_⟩) hHeld ?_
      rotate_left
      · (intro wx hSw; (try dsimp only at hSw); first | (go_simp; done) | (go_simp; with_reducible rfl))
      simp only [Act.put, List.getElem_toArray, List.getElem_cons_zero, List.getElem_cons_succ, List.setIfInBounds_toArray, List.set_cons_zero, List.set_cons_succ]
      refine wpAnyH_take (i := 11) (v := ?_) rfl (by kernel_rfl) (by kernel_rfl) (by kernel_rfl) (fun _ _ _ h => h) (Or.inl ⟨by rfl, ?_⟩) hHeld ?_
      rotate_left
      · (intro wx hSw; (try dsimp only at hSw); first | (go_simp; done) | (go_simp; with_reducible rfl))
      simp only [Act.put, List.getElem_toArray, List.getElem_cons_zero, List.getElem_cons_succ, List.setIfInBounds_toArray, List.set_cons_zero, List.set_cons_succ]
      refine wpAnyH_take (i := 12) (v := ?_) rfl (by kernel_rfl) (by kernel_rfl) (by kernel_rfl) (fun _ _ _ h => h) (Or.inl ⟨by rfl, ?_⟩) hHeld ?_
      rotate_left
      · (intro wx hSw; (try dsimp only at hSw); first | (go_simp; done) | (go_simp; with_reducible rfl))
      simp only [Act.put, List.getElem_toArray, List.getElem_cons_zero, List.getElem_cons_succ, List.setIfInBounds_toArray, List.set_cons_zero, List.set_cons_succ]
      refine wpAnyH_take (i := 13) (v := ?_) rfl (by kernel_rfl) (by kernel_rfl) (by kernel_rfl) (fun _ _ _ h => h) (Or.inl ⟨by rfl, ?_⟩) hHeld ?_
      rotate_left
      · (intro wx hSw; (try dsimp only at hSw); first | (go_simp; done) | (go_simp; with_reducible rfl))
      simp only [Act.put, List.getElem_toArray, List.getElem_cons_zero, List.getElem_cons_succ, List.setIfInBounds_toArray, List.set_cons_zero, List.set_cons_succ]
      refine wpAnyH_take (i := 14) (v := ?_) rfl (by kernel_rfl) (by kernel_rfl) (by kernel_rfl) (fun _ _ _ h => h) (Or.inl ⟨by rfl, ?_⟩) hHeld ?_
      rotate_left
      · (intro wx hSw; (try dsimp only at hSw); first | (go_simp; done) | (go_simp; with_reducible rfl))
      simp only [Act.put, List.getElem_toArray, List.getElem_cons_zero, List.getElem_cons_succ, List.setIfInBounds_toArray, List.set_cons_zero, List.set_cons_succ]
      refine wpAnyH_take (i := 15) (v := ?_) rfl (by kernel_rfl) (by kernel_rfl) (by kernel_rfl) (fun _ _ _ h => h) (Or.inl ⟨by rfl, ?_⟩) hHeld ?_
      rotate_left
      · (intro wx hSw; (try dsimp only at hSw); first | (go_simp; done) | (go_simp; with_reducible rfl))
      simp only [Act.put, List.getElem_toArray, List.getElem_cons_zero, List.getElem_cons_succ, List.setIfInBounds_toArray, List.set_cons_zero, List.set_cons_succ]
      refine wpAnyH_take (i := 16) (v := ?_) rfl (by kernel_rfl) (by kernel_rfl) (by kernel_rfl) (fun _ _ _ h => h) (Or.inl ⟨by rfl, ?_⟩) hHeld ?_
      rotate_left
      · (intro wx hSw; (try dsimp only at hSw); first | (go_simp; done) | (go_simp; with_reducible rfl))
      simp only [Act.put, List.getElem_toArray, List.getElem_cons_zero, List.getElem_cons_succ, List.setIfInBounds_toArray, List.set_cons_zero, List.set_cons_succ]
      refine wpAnyH_ready (rs := [17]) (by kernel_rfl) (by simp) ?_
      refine AllReadyH.cons rfl (fun K hK => ?_) AllReadyH.nil
      go_simp
      skip
      try go_wp2_with fail
      refine hK.out _ _ ((HAL.out.stay (HS1.out.trans (Stay.of_below HBT.out)) habl habl).cell hin) (fun hHeld => ?_)
      clear hK K
      try simp only [Act.put, List.setIfInBounds_toArray, List.set_cons_zero, List.set_cons_succ]
      refine wpAnyH_ready (rs := [18]) (by kernel_rfl) (by simp) ?_
      refine AllReadyH.cons rfl (fun K hK => ?_) AllReadyH.nil
      go_simp
      refine HC2.out.mono ?_
      rintro e X2 ⟨rfl, hF, hS⟩
      have HS2 := Lib.hid (HS1.out.trans hS)
      have HC3 := Lib.hid (fxQ (fx_sync hF (strB (cn i))) (show s2.sync (strB (cn i)).data.toList = (0, ini (i + 1)) by rw [strB_list]; exact HE3.out))
      clear hF hS HC2 hcv HS1 HBT
      try go_wp2_with fail
      refine hK.out _ _ ((HAL.out.stay HS2.out habl habl).cell hin) (fun hHeld => ?_)
      clear hK K
      try simp only [Act.put, List.setIfInBounds_toArray, List.set_cons_zero, List.set_cons_succ]
      refine wpAnyH_take (i := 19) (v := ?_) rfl (by kernel_rfl) (by kernel_rfl) (by kernel_rfl) (fun _ _ _ h => h) (Or.inl ⟨by rfl, ?_⟩) hHeld ?_
      rotate_left
      · (intro wx hSw; (try dsimp only at hSw); first | (go_simp; done) | (go_simp; with_reducible rfl))
      simp only [Act.put, List.getElem_toArray, List.getElem_cons_zero, List.getElem_cons_succ, List.setIfInBounds_toArray, List.set_cons_zero, List.set_cons_succ]
      refine wpAnyH_take (i := 20) (v := ?_) rfl (by kernel_rfl) (by kernel_rfl) (by kernel_rfl) (fun _ _ _ h => h) (Or.inl ⟨by rfl, ?_⟩) hHeld ?_
      rotate_left
      · (intro wx hSw; (try dsimp only at hSw); first | (go_simp; done) | (go_simp; with_reducible rfl))
      simp only [Act.put, List.getElem_toArray, List.getElem_cons_zero, List.getElem_cons_succ, List.setIfInBounds_toArray, List.set_cons_zero, List.set_cons_succ]
      refine wpAnyH_take (i := 21) (v := ?_) rfl (by kernel_rfl) (by kernel_rfl) (by kernel_rfl) (fun _ _ _ h => h) (Or.inl ⟨by rfl, ?_⟩) hHeld ?_
      rotate_left
      · (intro wx hSw; (try dsimp only at hSw); first | (go_simp; done) | (go_simp; with_reducible rfl))
      simp only [Act.put, List.getElem_toArray, List.getElem_cons_zero, List.getElem_cons_succ, List.setIfInBounds_toArray, List.set_cons_zero, List.set_cons_succ]
      refine wpAnyH_take (i := 22) (v := ?_) rfl (by kernel_rfl) (by kernel_rfl) (by kernel_rfl) (fun _ _ _ h => h) (Or.inl ⟨by rfl, ?_⟩) hHeld ?_
      rotate_left
      · (intro wx hSw; (try dsimp only at hSw); first | (go_simp; done) | (go_simp; with_reducible rfl))
      simp only [Act.put, List.getElem_toArray, List.getElem_cons_zero, List.getElem_cons_succ, List.setIfInBounds_toArray, List.set_cons_zero, List.set_cons_succ]
      refine wpAnyH_take (i := 23) (v := ?_) rfl (by kernel_rfl) (by kernel_rfl) (by kernel_rfl) (fun _ _ _ h => h) (Or.inl ⟨by rfl, ?_⟩) hHeld ?_
      rotate_left
      · (intro wx hSw; (try dsimp only at hSw); first | (go_simp; done) | (go_simp; with_reducible rfl))
      simp only [Act.put, List.getElem_toArray, List.getElem_cons_zero, List.getElem_cons_succ, List.setIfInBounds_toArray, List.set_cons_zero, List.set_cons_succ]
      refine wpAnyH_take (i := 24) (v := ?_) rfl (by kernel_rfl) (by kernel_rfl) (by kernel_rfl) (fun _ _ _ h => h) (Or.inl ⟨by rfl, ?_⟩) hHeld ?_
      rotate_left
      · (intro wx hSw; (try dsimp only at hSw); first | (go_simp; done) | (go_simp; with_reducible rfl))
      simp only [Act.put, List.getElem_toArray, List.getElem_cons_zero, List.getElem_cons_succ, List.setIfInBounds_toArray, List.set_cons_zero, List.set_cons_succ]
      refine wpAnyH_take (i := 25) (v := ?_) rfl (by kernel_rfl) (by kernel_rfl) (by kernel_rfl) (fun _ _ _ h => h) (Or.inl ⟨by rfl, ?_⟩) hHeld ?_
      rotate_left
      · (intro wx hSw; (try dsimp only at hSw); first | (go_simp; done) | (go_simp; with_reducible rfl))
      simp only [Act.put, List.getElem_toArray, List.getElem_cons_zero, List.getElem_cons_succ, List.setIfInBounds_toArray, List.set_cons_zero, List.set_cons_succ]
      refine wpAnyH_take (i := 26) (v := ?_) rfl (by kernel_rfl) (by kernel_rfl) (by kernel_rfl) (fun _ _ _ h => h) (Or.inl ⟨by rfl, ?_⟩) hHeld ?_
      rotate_left
      · (intro wx hSw; (try dsimp only at hSw); first | (go_simp; done) | (go_simp; with_reducible rfl))
      simp only [Act.put, List.getElem_toArray, List.getElem_cons_zero, List.getElem_cons_succ, List.setIfInBounds_toArray, List.set_cons_zero, List.set_cons_succ]
      refine wpAnyH_ready (rs := [27]) (by kernel_rfl) (by simp) ?_
      refine AllReadyH.cons rfl (fun K hK => ?_) AllReadyH.nil
      go_simp
      refine HC3.out.mono ?_
      rintro e X3 ⟨rfl, hF, hS⟩
      have HS3 := Lib.hid (HS2.out.trans hS)
      have HF3 := Lib.hid hF
      clear hF hS HC3 HS2
      try go_wp2_with fail
      refine hK.out _ _ ((HAL.out.stay HS3.out habl habl).cell hin) (fun hHeld => ?_)
      clear hK K
      try simp only [Act.put, List.setIfInBounds_toArray, List.set_cons_zero, List.set_cons_succ]
      refine wpAnyH_take (i := 28) (v := ?_) rfl (by kernel_rfl) (by kernel_rfl) (by kernel_rfl) (fun _ _ _ h => h) (Or.inl ⟨by rfl, ?_⟩) hHeld ?_
      rotate_left
      · (intro wx hSw; (try dsimp only at hSw); first | (go_simp; done) | (go_simp; with_reducible rfl))
      simp only [Act.put, List.getElem_toArray, List.getElem_cons_zero, List.getElem_cons_succ, List.setIfInBounds_toArray, List.set_cons_zero, List.set_cons_succ]
      refine wpAnyH_take (i := 29) (v := ?_) rfl (by kernel_rfl) (by kernel_rfl) (by kernel_rfl) (fun _ _ _ h => h) (Or.inl ⟨by rfl, ?_⟩) hHeld ?_
      rotate_left
      · (intro wx hSw; (try dsimp only at hSw); first | (go_simp; done) | (go_simp; with_reducible rfl))
      simp only [Act.put, List.getElem_toArray, List.getElem_cons_zero, List.getElem_cons_succ, List.setIfInBounds_toArray, List.set_cons_zero, List.set_cons_succ]
      refine wpAnyH_done (by kernel_rfl) ?_ _
      go_wp2
      go_roundw
      case rel => exact ⟨i + 1, by go_num, by omega, HF3.out, HS3.out⟩
      case measure => simp [intOf]; omega
    · obtain rfl : i = 4 := by omega
      have HF := HFr
      have HS := HSr
      have pl := plr
      have HDL := Lib.hid (show (natsOf dt).length ≤ 1000 by rw [natsOf_length]; have := HDT.out; omega)
      obtain ⟨s1, s2, s3, e1, e2, e3, hC, t0, t1, t2, t3⟩ := ini_it (natsOf dt) HDL.out
      have HE1 := Lib.hid e1
      have HE2 := Lib.hid e2
      have HE3 := Lib.hid e3
      have HCH := Lib.hid hC
      have HTP := Lib.hid (And.intro t0 (And.intro t1 (And.intro t2 t3)))
      clear e1 e2 e3 hC t0 t1 t2 t3 HFr HSr plr hin
      have HC := Lib.hid (fxQ (fx_create HF.out nIt (by have := HTP.out.1; omega)) HE1.out)
      go_wp2_with fail
      refine HC.out.mono ?_
      rintro e X1 ⟨rfl, hF, hS⟩
      replace HS := Lib.hid (HS.out.trans hS)
      replace HF := Lib.hid hF
      replace pl := hF.lt
      clear hF hS HC
      obtain ⟨capT, wT, hcv, hap⟩ := fx_append_text HF.out nIt (by have := HTP.out.2.1; omega) dt (by have := HDT.out; omega)
      have HC := Lib.hid (fxQ hap HE2.out)
      clear hap
      go_wp2_with fail
      refine HC.out.mono ?_
      rintro e X2 ⟨rfl, hF, hS⟩
      replace HS := Lib.hid (HS.out.trans hS)
      replace HF := Lib.hid hF
      replace pl := hF.lt
      clear hF hS HC hcv
      have HC := Lib.hid (fxQ (fx_sync HF.out nIt) HE3.out)
      go_wp2_with fail
      refine HC.out.mono ?_
      rintro e X3 ⟨rfl, hF, hS⟩
      replace HS := Lib.hid (HS.out.trans hS)
      replace HF := Lib.hid hF
      replace pl := hF.lt
      clear hF hS HC
      go_wp2_with fail
      obtain ⟨X4, hX4⟩ : ∃ X4, X3.alloc (.cells #[.bool true, .bool true, .bool true, .bool true] 4) = X4 := ⟨_, rfl⟩
      rw [hX4]
      obtain ⟨tb, htb⟩ : ∃ tb, X3.heap.size = tb := ⟨_, rfl⟩
      have HTH : Hid (ThAt X4 tb (fun _ => true)) := Lib.hid (by rw [← hX4, ← htb]; exact heap_alloc_new X3 _)
      have hb4 : Below X3.heap.size X3 X4 := by rw [← hX4]; exact bel1 X3 _
      have hs4 : X4.heap.size = tb + 1 := by rw [← hX4, ← htb]; simp
      have HF4 : Hid (Fx (fun k => k < Wa.heap.size ∨ k = tb) X4 Wa.heap.size s3) := Lib.hid ((HF.out.grown hb4).mono (fun k hk => by
        rcases hk with hk | hk
        · exact .inl hk
        · exact .inr (by omega)))
      have HS4 := Lib.hid (HS.out.trans (Stay.of_below hb4))
      have htw : ¬ (tb < Wa.heap.size) := by have := HS.out.size; omega
      rw [htb]
      clear hX4 htb hb4 hs4 HF HS pl HE1 HE2 HE3
      go_loopw [10, 11, 12, 13] (fun u10 u11 u12 _ wr => ∃ (i c : Nat) (th : Nat → Bool) (a : A), u10 = .string (strB (nmC c)) ∧ u11 = .int .i64 (atV c) ∧ u12 = .int .i64 i ∧ i ≤ 30 ∧ i ≤ len0 ∧ Fx (fun k => k < Wa.heap.size ∨ k = tb) wr Wa.heap.size a ∧ Stay (fun k => k < Wa.heap.size) Wa wr ∧ ThAt wr tb th ∧ Chn a (natsOf dt) c th ∧ a.top ≤ 6 + i) (fun _ _ u12 _ _ => 30 - (intOf u12).toNat)
      case atStart => exact ⟨0, 4, fun _ => true, s3, rfl, rfl, rfl, Nat.zero_le _, Nat.zero_le _, HF4.out, HS4.out, HTH.out, HCH.out, HTP.out.2.2.2⟩
      case round =>
        obtain ⟨i, c, th, a, rfl, rfl, rfl, hi30, hil, hF, hS, hT, hC, htop⟩ := hrel
        have HFr := Lib.hid hF
        have HSr := Lib.hid hS
        have HTr := Lib.hid hT
        have HCr := Lib.hid hC
        have HTO := Lib.hid htop
        have plr := hF.lt
        have hALr := HAL.out.stay hS habl habl
        have habr : ab < wr.heap.size := Nat.lt_of_lt_of_le habl hS.size
        clear hF hS hT hC htop HF4 HS4 HTH HCH HTP
        by_cases hin : i < len0 ∧ i < 30
        · obtain ⟨hin, hi2⟩ := hin
          obtain ⟨b, off, hab0, _, hcell⟩ := (HW0.out.1.keep (HBa.out.trans (HSr.out.below (by have := HBa.out.size; omega) (fun k hk => by have := HBa.out.size; omega)))).at hin
          obtain ⟨K, hK1, hK2, hK3, -⟩ := modU (z0.getD i 0) 4 (by omega) (by omega)
          have hK : K < 4 := by omega
          have hKi : (K : Int) < 4 := hK1
          generalize z0.getD i 0 = zi at *
          subst hab0
          clear hK1
          have hAK := hALr.cell hK
          obtain ⟨a', ha', hC', htop'⟩ := HCr.out.ren hK
          have HAP : Hid (a.rename (strB (nmC c)).data.toList (strB (cn K)).data.toList = (0, a')) := Lib.hid (by rw [strB_list, strB_list]; exact ha')
          have HC' := Lib.hid hC'
          have HTO' := Lib.hid (show a'.top ≤ 6 + (i + 1) by have := HTO.out; omega)
          clear ha' hC' htop' hALr
          have HF := HFr
          have HS := Lib.hid (Stay.refl (fun k => k < Wa.heap.size ∨ k = tb) wr)
          have pl := plr
          have HC := Lib.hid (fxQ (fx_rename HF.out (strB (nmC c)) (strB (cn K)) (by have := HTO.out; omega)) HAP.out)
          go_wp2_with fail
          refine HC.out.mono ?_
          rintro e X5 ⟨rfl, hF, hS⟩
          replace HS := Lib.hid (HS.out.trans hS)
          replace HF := Lib.hid hF
          replace pl := hF.lt
          clear hF hS HC
          have hT5 := HTr.out.stay HS.out (.inr rfl)
          have HS5 := Lib.hid (HSr.out.trans (HS.out.mono (fun k hk => .inl hk)))
          have hA5 := (HAL.out.stay HS5.out habl habl).cell hK
          have z1 := hT5.fz K
          have v1 := hT5.cell hK
          have htl : tb < X5.heap.size := (Array.getElem?_eq_some_iff.1 hT5).1
          have hne : ab ≠ tb := by omega
          have t1 : Touch tb X5 (X5.setCell ⟨tb, K, none⟩ (.bool true)) := Touch.setCell (a := ⟨tb, K, none⟩) _
          by_cases hc4 : c = 4
          · subst hc4
            have hav : atV 4 = -1 := rfl
            rw [hav]
            have HE := Lib.hid (show Fx (fun k => k < Wa.heap.size ∨ k = tb) (X5.setCell ⟨tb, K, none⟩ (.bool true)) Wa.heap.size a' ∧ Stay (fun k => k < Wa.heap.size) Wa (X5.setCell ⟨tb, K, none⟩ (.bool true)) ∧ ThAt (X5.setCell ⟨tb, K, none⟩ (.bool true)) tb (thN th 4 K) from
              ⟨HF.out.set (.inr rfl), HS5.out.own t1 htw, by unfold thN; rw [if_neg (by omega)]; exact hT5.set hK true⟩)
            clear hT5 t1 HF HS HS5
            go_wp2
            go_roundw
            case rel => exact ⟨i + 1, K, thN th 4 K, a', by unfold nmC; rw [if_neg (by omega)], by unfold atV; rw [if_neg (by omega)], by go_num, by omega, by omega, HE.out.1, HE.out.2.1, HE.out.2.2, HC'.out, HTO'.out⟩
            case measure => simp [intOf]; omega
          · have hcl : c < 4 := by have := HCr.out.le; omega
            have hav : atV c = (c : Int) := if_neg hc4
            rw [hav]
            by_cases hcK : c = K
            · subst hcK
              have HE := Lib.hid (show Fx (fun k => k < Wa.heap.size ∨ k = tb) (X5.setCell ⟨tb, c, none⟩ (.bool true)) Wa.heap.size a' ∧ Stay (fun k => k < Wa.heap.size) Wa (X5.setCell ⟨tb, c, none⟩ (.bool true)) ∧ ThAt (X5.setCell ⟨tb, c, none⟩ (.bool true)) tb (thN th c c) from
                ⟨HF.out.set (.inr rfl), HS5.out.own t1 htw, by unfold thN; rw [if_neg (by omega)]; exact hT5.set hcl true⟩)
              clear hT5 t1 HF HS HS5
              go_wp2
              go_roundw
              case rel => exact ⟨i + 1, c, thN th c c, a', by unfold nmC; rw [if_neg (by omega)], by unfold atV; rw [if_neg (by omega)], by go_num, by omega, by omega, HE.out.1, HE.out.2.1, HE.out.2.2, HC'.out, HTO'.out⟩
              case measure => simp [intOf]; omega
            · have z0 := hT5.fz c
              have v0 := hT5.cell hcl
              have t0 : Touch tb X5 (X5.setCell ⟨tb, c, none⟩ (.bool false)) := Touch.setCell (a := ⟨tb, c, none⟩) _
              have t2 : Touch tb (X5.setCell ⟨tb, c, none⟩ (.bool false)) ((X5.setCell ⟨tb, c, none⟩ (.bool false)).setCell ⟨tb, K, none⟩ (.bool true)) := Touch.setCell (a := ⟨tb, K, none⟩) _
              have HE := Lib.hid (show Fx (fun k => k < Wa.heap.size ∨ k = tb) ((X5.setCell ⟨tb, c, none⟩ (.bool false)).setCell ⟨tb, K, none⟩ (.bool true)) Wa.heap.size a' ∧ Stay (fun k => k < Wa.heap.size) Wa ((X5.setCell ⟨tb, c, none⟩ (.bool false)).setCell ⟨tb, K, none⟩ (.bool true)) ∧ ThAt ((X5.setCell ⟨tb, c, none⟩ (.bool false)).setCell ⟨tb, K, none⟩ (.bool true)) tb (thN th c K) from
                ⟨(HF.out.set (.inr rfl)).set (.inr rfl), (HS5.out.own t0 htw).own t2 htw, by unfold thN; rw [if_pos ⟨hcl, hcK⟩]; exact (hT5.set hcl false).set hK true⟩)
              have hKc : K ≠ c := fun e => hcK e.symm
              clear hT5 t0 t1 t2 HF HS HS5
              go_wp2
              go_roundw
              case rel => exact ⟨i + 1, K, thN th c K, a', by unfold nmC; rw [if_neg (by omega)], by unfold atV; rw [if_neg (by omega)], by go_num, by omega, by omega, HE.out.1, HE.out.2.1, HE.out.2.2, HC'.out, HTO'.out⟩
              case measure => simp [intOf]; omega
        · by_cases hin1 : i < len0
          · have hi2 : ¬ (i < 30) := by omega
            obtain ⟨a2, e1, hC1, ht1⟩ := HCr.out.end_ [7, 7, 7]
            have HE1 := Lib.hid e1
            have HC1 := Lib.hid hC1
            have HT1 := Lib.hid ht1
            have HF := HFr
            have HS := Lib.hid (Stay.refl (fun k => k < Wa.heap.size ∨ k = tb) wr)
            have pl := plr
            clear e1 hC1 ht1 hALr
            have HC := Lib.hid (fxQ (fx_syncDir HF.out) HE1.out)
            go_wp2_with fail
            refine HC.out.mono ?_
            rintro e Y1 ⟨rfl, hF, hS⟩
            replace HS := Lib.hid (HS.out.trans hS)
            replace HF := Lib.hid hF
            replace pl := hF.lt
            clear hF hS HC
            have HC := Lib.hid (fx_crash_in (cap := 3) (n := 3) HF.out (by have := HTO.out; have := HT1.out; omega) (bel1 Y1 _) (picks_build Y1 [7, 7, 7] (by decide)) rfl)
            go_wp2_with fail
            refine HC.out.mono ?_
            rintro e Y2 ⟨rfl, hF, hS⟩
            replace HS := Lib.hid (HS.out.trans hS)
            replace HF := Lib.hid hF
            replace pl := hF.lt
            clear hF hS HC
            have HTy := Lib.hid (HTr.out.stay HS.out (.inr rfl))
            have HSy := Lib.hid (HSr.out.trans (HS.out.mono (fun k hk => .inl hk)))
            go_wp2_with fail
            go_loopw [14, 15, 16, 17] (fun u14 _ _ _ wq => ∃ j : Nat, u14 = .int .i64 j ∧ j ≤ 4 ∧ Fx (fun k => k < Wa.heap.size ∨ k = tb) wq Wa.heap.size (a2.crash [7, 7, 7]) ∧ Stay (fun k => k < Wa.heap.size) Wa wq ∧ ThAt wq tb th) (fun u14 _ _ _ _ => 4 - (intOf u14).toNat)
            case atStart => exact ⟨0, rfl, Nat.zero_le _, HF.out, HSy.out, HTy.out⟩
            case round =>
              obtain ⟨j, rfl, hj4, hFq, hSq, hTq⟩ := hrel
              have HFq := Lib.hid hFq
              have HSq := Lib.hid hSq
              have HTq := Lib.hid hTq
              have plq := hFq.lt
              clear HF HS HSy HTy pl
              by_cases hj : j < 4
              · have hAq := (HAL.out.stay hSq habl habl).cell hj
                have hr := HC1.out.read HDL.out hj
                have habq := Nat.lt_of_lt_of_le habl hSq.size
                cases hth : th j with
                | true =>
                  have hr1 := hr.1 hth
                  by_cases hcj : c = j
                  · rw [if_pos hcj] at hr1
                    have hq1 : ((j : Int) == atV c) = true := by unfold atV; rw [if_neg (by omega)]; simp; omega
                    clear hcj
                    have HR := Lib.hid (fxRd (l' := (natsOf dt)) (E' := 0) (fx_read HFq.out (strB (cn j)) 0 1000) (by rw [strB_list]; exact hr1.2) (by rw [strB_list]; exact hr1.1))
                    clear hr hr1 hFq hSq hTq
                    go_wp2_with fail
                    refine HR.out.mono ?_
                    rintro e Q1 ⟨ad, cap, he, hby, hnone, hcap, hnew, hbel, hF⟩
                    have hln : ((natsOf dt)).length = dt.size := by rw [natsOf_length]
                    rw [hln] at he
                    subst he
                    have hcv := conv_bytes hby (by exact natsOf_byte _) hnone cap _ hln
                    rw [show strOf ((natsOf dt)) = dt from strOf_natsOf dt] at hcv
                    have HT2 := Lib.hid (HTq.out.stay (Stay.of_below (G := fun _ => True) hbel) trivial)
                    have hc2 := HT2.out.cell hj
                    rw [hth] at hc2
                    have hA2 := (HAL.out.stay (HSq.out.trans (Stay.of_below hbel)) habl habl).cell hj
                    have HE := Lib.hid (show Fx (fun k => k < Wa.heap.size ∨ k = tb) Q1 Wa.heap.size (a2.crash [7, 7, 7]) ∧ Stay (fun k => k < Wa.heap.size) Wa Q1 from ⟨hF.mono (fun k hk => .inl hk), HSq.out.trans (Stay.of_below hbel)⟩)
                    clear hby hnone hcap hnew hbel hF HR hAq
                    go_wp2
                    go_roundw
                    case rel => exact ⟨j + 1, by go_num, by omega, HE.out.1, HE.out.2, HT2.out⟩
                    case measure => simp [intOf]; omega
                  · rw [if_neg hcj] at hr1
                    have hq1 : ((j : Int) == atV c) = false := by unfold atV; split <;> simp <;> omega
                    have hq2 : ¬ ((j : Int) = atV c) := by unfold atV; split <;> omega
                    have HR := Lib.hid (fxRd (l' := [97 + j]) (E' := 0) (fx_read HFq.out (strB (cn j)) 0 1000) (by rw [strB_list]; exact hr1.2) (by rw [strB_list]; exact hr1.1))
                    clear hr hr1 hFq hSq hTq
                    go_wp2_with fail
                    refine HR.out.mono ?_
                    rintro e Q1 ⟨ad, cap, he, hby, hnone, hcap, hnew, hbel, hF⟩
                    have hln : ([97 + j]).length = 1 := by rfl
                    rw [hln] at he
                    subst he
                    have hcv := conv_bytes hby (by intro x hx; simp at hx; omega) hnone cap _ hln
                    rw [show strOf ([97 + j]) = (strB (cn j)) from strOf_cn hj] at hcv
                    have HT2 := Lib.hid (HTq.out.stay (Stay.of_below (G := fun _ => True) hbel) trivial)
                    have hc2 := HT2.out.cell hj
                    rw [hth] at hc2
                    have hA2 := (HAL.out.stay (HSq.out.trans (Stay.of_below hbel)) habl habl).cell hj
                    have HE := Lib.hid (show Fx (fun k => k < Wa.heap.size ∨ k = tb) Q1 Wa.heap.size (a2.crash [7, 7, 7]) ∧ Stay (fun k => k < Wa.heap.size) Wa Q1 from ⟨hF.mono (fun k hk => .inl hk), HSq.out.trans (Stay.of_below hbel)⟩)
                    clear hby hnone hcap hnew hbel hF HR hAq
                    go_wp2
                    go_roundw
                    case rel => exact ⟨j + 1, by go_num, by omega, HE.out.1, HE.out.2, HT2.out⟩
                    case measure => simp [intOf]; omega
                | false =>
                  have hr1 := hr.2 hth
                  have hcj : c ≠ j := fun e => by
                    have := HCr.out.there (by omega)
                    rw [e, hth] at this; cases this
                  have hq1 : ((j : Int) == atV c) = false := by unfold atV; split <;> simp <;> omega
                  have hq2 : ¬ ((j : Int) = atV c) := by unfold atV; split <;> omega
                  have HR := Lib.hid (fxRd (l' := []) (E' := 7) (fx_read HFq.out (strB (cn j)) 0 1000) (by rw [strB_list]; exact hr1.2) (by rw [strB_list]; exact hr1.1))
                  clear hr hr1 hFq hSq hTq
                  go_wp2_with fail
                  refine HR.out.mono ?_
                  rintro e Q1 ⟨ad, cap, he, hby, hnone, hcap, hnew, hbel, hF⟩
                  have hln : ([] : List Nat).length = 0 := by rfl
                  rw [hln] at he
                  subst he
                  have hcv := conv_bytes hby (by intro x hx; cases hx) hnone cap _ hln
                  rw [show strOf ([]) = (strB []) from rfl] at hcv
                  have HT2 := Lib.hid (HTq.out.stay (Stay.of_below (G := fun _ => True) hbel) trivial)
                  have hc2 := HT2.out.cell hj
                  rw [hth] at hc2
                  have hA2 := (HAL.out.stay (HSq.out.trans (Stay.of_below hbel)) habl habl).cell hj
                  have HE := Lib.hid (show Fx (fun k => k < Wa.heap.size ∨ k = tb) Q1 Wa.heap.size (a2.crash [7, 7, 7]) ∧ Stay (fun k => k < Wa.heap.size) Wa Q1 from ⟨hF.mono (fun k hk => .inl hk), HSq.out.trans (Stay.of_below hbel)⟩)
                  clear hby hnone hcap hnew hbel hF HR hAq
                  go_wp2
                  go_roundw
                  case rel => exact ⟨j + 1, by go_num, by omega, HE.out.1, HE.out.2, HT2.out⟩
                  case measure => simp [intOf]; omega
              · obtain rfl : j = 4 := by omega
                have hit := HC1.out.it
                have HF := HFq
                by_cases hc4 : c = 4
                · rw [if_pos hc4] at hit
                  have hq1 : decide (atV c < 0) = true := by unfold atV; rw [if_pos hc4]; decide
                  have hq2 : atV c < 0 := by unfold atV; rw [if_pos hc4]; decide
                  obtain ⟨zz, hzz⟩ := fx_size_E HF.out nIt hit
                  have HZ := Lib.hid hzz
                  have HE := Lib.hid (HBa.out.trans (HSq.out.below (by have := HBa.out.size; omega) (fun k hk => by have := HBa.out.size; omega)))
                  clear hzz hFq hSq hTq
                  go_wp2_with fail
                  refine HZ.out.mono ?_
                  rintro e Q1 ⟨rfl, rfl⟩
                  go_wp2
                  go_ret
                  exact ⟨rfl, HE.out⟩
                · rw [if_neg hc4] at hit
                  have hq1 : decide (atV c < 0) = false := by unfold atV; rw [if_neg hc4]; simp
                  have hq2 : ¬ (atV c < 0) := by unfold atV; rw [if_neg hc4]; omega
                  obtain ⟨zz, hzz⟩ := fx_size_E HF.out nIt hit
                  have HZ := Lib.hid hzz
                  have HE := Lib.hid (HBa.out.trans (HSq.out.below (by have := HBa.out.size; omega) (fun k hk => by have := HBa.out.size; omega)))
                  clear hzz hFq hSq hTq
                  go_wp2_with fail
                  refine HZ.out.mono ?_
                  rintro e Q1 ⟨rfl, rfl⟩
                  go_wp2
                  go_ret
                  exact ⟨rfl, HE.out⟩
          · obtain ⟨a2, e1, hC1, ht1⟩ := HCr.out.end_ [7, 7, 7]
            have HE1 := Lib.hid e1
            have HC1 := Lib.hid hC1
            have HT1 := Lib.hid ht1
            have HF := HFr
            have HS := Lib.hid (Stay.refl (fun k => k < Wa.heap.size ∨ k = tb) wr)
            have pl := plr
            clear e1 hC1 ht1 hALr
            have HC := Lib.hid (fxQ (fx_syncDir HF.out) HE1.out)
            go_wp2_with fail
            refine HC.out.mono ?_
            rintro e Y1 ⟨rfl, hF, hS⟩
            replace HS := Lib.hid (HS.out.trans hS)
            replace HF := Lib.hid hF
            replace pl := hF.lt
            clear hF hS HC
            have HC := Lib.hid (fx_crash_in (cap := 3) (n := 3) HF.out (by have := HTO.out; have := HT1.out; omega) (bel1 Y1 _) (picks_build Y1 [7, 7, 7] (by decide)) rfl)
            go_wp2_with fail
            refine HC.out.mono ?_
            rintro e Y2 ⟨rfl, hF, hS⟩
            replace HS := Lib.hid (HS.out.trans hS)
            replace HF := Lib.hid hF
            replace pl := hF.lt
            clear hF hS HC
            have HTy := Lib.hid (HTr.out.stay HS.out (.inr rfl))
            have HSy := Lib.hid (HSr.out.trans (HS.out.mono (fun k hk => .inl hk)))
            go_wp2_with fail
            go_loopw [14, 15, 16, 17] (fun u14 _ _ _ wq => ∃ j : Nat, u14 = .int .i64 j ∧ j ≤ 4 ∧ Fx (fun k => k < Wa.heap.size ∨ k = tb) wq Wa.heap.size (a2.crash [7, 7, 7]) ∧ Stay (fun k => k < Wa.heap.size) Wa wq ∧ ThAt wq tb th) (fun u14 _ _ _ _ => 4 - (intOf u14).toNat)
            case atStart => exact ⟨0, rfl, Nat.zero_le _, HF.out, HSy.out, HTy.out⟩
            case round =>
              obtain ⟨j, rfl, hj4, hFq, hSq, hTq⟩ := hrel
              have HFq := Lib.hid hFq
              have HSq := Lib.hid hSq
              have HTq := Lib.hid hTq
              have plq := hFq.lt
              clear HF HS HSy HTy pl
              by_cases hj : j < 4
              · have hAq := (HAL.out.stay hSq habl habl).cell hj
                have hr := HC1.out.read HDL.out hj
                have habq := Nat.lt_of_lt_of_le habl hSq.size
                cases hth : th j with
                | true =>
                  have hr1 := hr.1 hth
                  by_cases hcj : c = j
                  · rw [if_pos hcj] at hr1
                    have hq1 : ((j : Int) == atV c) = true := by unfold atV; rw [if_neg (by omega)]; simp; omega
                    clear hcj
                    have HR := Lib.hid (fxRd (l' := (natsOf dt)) (E' := 0) (fx_read HFq.out (strB (cn j)) 0 1000) (by rw [strB_list]; exact hr1.2) (by rw [strB_list]; exact hr1.1))
                    clear hr hr1 hFq hSq hTq
                    go_wp2_with fail
                    refine HR.out.mono ?_
                    rintro e Q1 ⟨ad, cap, he, hby, hnone, hcap, hnew, hbel, hF⟩
                    have hln : ((natsOf dt)).length = dt.size := by rw [natsOf_length]
                    rw [hln] at he
                    subst he
                    have hcv := conv_bytes hby (by exact natsOf_byte _) hnone cap _ hln
                    rw [show strOf ((natsOf dt)) = dt from strOf_natsOf dt] at hcv
                    have HT2 := Lib.hid (HTq.out.stay (Stay.of_below (G := fun _ => True) hbel) trivial)
                    have hc2 := HT2.out.cell hj
                    rw [hth] at hc2
                    have hA2 := (HAL.out.stay (HSq.out.trans (Stay.of_below hbel)) habl habl).cell hj
                    have HE := Lib.hid (show Fx (fun k => k < Wa.heap.size ∨ k = tb) Q1 Wa.heap.size (a2.crash [7, 7, 7]) ∧ Stay (fun k => k < Wa.heap.size) Wa Q1 from ⟨hF.mono (fun k hk => .inl hk), HSq.out.trans (Stay.of_below hbel)⟩)
                    clear hby hnone hcap hnew hbel hF HR hAq
                    go_wp2
                    go_roundw
                    case rel => exact ⟨j + 1, by go_num, by omega, HE.out.1, HE.out.2, HT2.out⟩
                    case measure => simp [intOf]; omega
                  · rw [if_neg hcj] at hr1
                    have hq1 : ((j : Int) == atV c) = false := by unfold atV; split <;> simp <;> omega
                    have hq2 : ¬ ((j : Int) = atV c) := by unfold atV; split <;> omega
                    have HR := Lib.hid (fxRd (l' := [97 + j]) (E' := 0) (fx_read HFq.out (strB (cn j)) 0 1000) (by rw [strB_list]; exact hr1.2) (by rw [strB_list]; exact hr1.1))
                    clear hr hr1 hFq hSq hTq
                    go_wp2_with fail
                    refine HR.out.mono ?_
                    rintro e Q1 ⟨ad, cap, he, hby, hnone, hcap, hnew, hbel, hF⟩
                    have hln : ([97 + j]).length = 1 := by rfl
                    rw [hln] at he
                    subst he
                    have hcv := conv_bytes hby (by intro x hx; simp at hx; omega) hnone cap _ hln
                    rw [show strOf ([97 + j]) = (strB (cn j)) from strOf_cn hj] at hcv
                    have HT2 := Lib.hid (HTq.out.stay (Stay.of_below (G := fun _ => True) hbel) trivial)
                    have hc2 := HT2.out.cell hj
                    rw [hth] at hc2
                    have hA2 := (HAL.out.stay (HSq.out.trans (Stay.of_below hbel)) habl habl).cell hj
                    have HE := Lib.hid (show Fx (fun k => k < Wa.heap.size ∨ k = tb) Q1 Wa.heap.size (a2.crash [7, 7, 7]) ∧ Stay (fun k => k < Wa.heap.size) Wa Q1 from ⟨hF.mono (fun k hk => .inl hk), HSq.out.trans (Stay.of_below hbel)⟩)
                    clear hby hnone hcap hnew hbel hF HR hAq
                    go_wp2
                    go_roundw
                    case rel => exact ⟨j + 1, by go_num, by omega, HE.out.1, HE.out.2, HT2.out⟩
                    case measure => simp [intOf]; omega
                | false =>
                  have hr1 := hr.2 hth
                  have hcj : c ≠ j := fun e => by
                    have := HCr.out.there (by omega)
                    rw [e, hth] at this; cases this
                  have hq1 : ((j : Int) == atV c) = false := by unfold atV; split <;> simp <;> omega
                  have hq2 : ¬ ((j : Int) = atV c) := by unfold atV; split <;> omega
                  have HR := Lib.hid (fxRd (l' := []) (E' := 7) (fx_read HFq.out (strB (cn j)) 0 1000) (by rw [strB_list]; exact hr1.2) (by rw [strB_list]; exact hr1.1))
                  clear hr hr1 hFq hSq hTq
                  go_wp2_with fail
                  refine HR.out.mono ?_
                  rintro e Q1 ⟨ad, cap, he, hby, hnone, hcap, hnew, hbel, hF⟩
                  have hln : ([] : List Nat).length = 0 := by rfl
                  rw [hln] at he
                  subst he
                  have hcv := conv_bytes hby (by intro x hx; cases hx) hnone cap _ hln
                  rw [show strOf ([]) = (strB []) from rfl] at hcv
                  have HT2 := Lib.hid (HTq.out.stay (Stay.of_below (G := fun _ => True) hbel) trivial)
                  have hc2 := HT2.out.cell hj
                  rw [hth] at hc2
                  have hA2 := (HAL.out.stay (HSq.out.trans (Stay.of_below hbel)) habl habl).cell hj
                  have HE := Lib.hid (show Fx (fun k => k < Wa.heap.size ∨ k = tb) Q1 Wa.heap.size (a2.crash [7, 7, 7]) ∧ Stay (fun k => k < Wa.heap.size) Wa Q1 from ⟨hF.mono (fun k hk => .inl hk), HSq.out.trans (Stay.of_below hbel)⟩)
                  clear hby hnone hcap hnew hbel hF HR hAq
                  go_wp2
                  go_roundw
                  case rel => exact ⟨j + 1, by go_num, by omega, HE.out.1, HE.out.2, HT2.out⟩
                  case measure => simp [intOf]; omega
              · obtain rfl : j = 4 := by omega
                have hit := HC1.out.it
                have HF := HFq
                by_cases hc4 : c = 4
                · rw [if_pos hc4] at hit
                  have hq1 : decide (atV c < 0) = true := by unfold atV; rw [if_pos hc4]; decide
                  have hq2 : atV c < 0 := by unfold atV; rw [if_pos hc4]; decide
                  obtain ⟨zz, hzz⟩ := fx_size_E HF.out nIt hit
                  have HZ := Lib.hid hzz
                  have HE := Lib.hid (HBa.out.trans (HSq.out.below (by have := HBa.out.size; omega) (fun k hk => by have := HBa.out.size; omega)))
                  clear hzz hFq hSq hTq
                  go_wp2_with fail
                  refine HZ.out.mono ?_
                  rintro e Q1 ⟨rfl, rfl⟩
                  go_wp2
                  go_ret
                  exact ⟨rfl, HE.out⟩
                · rw [if_neg hc4] at hit
                  have hq1 : decide (atV c < 0) = false := by unfold atV; rw [if_neg hc4]; simp
                  have hq2 : ¬ (atV c < 0) := by unfold atV; rw [if_neg hc4]; omega
                  obtain ⟨zz, hzz⟩ := fx_size_E HF.out nIt hit
                  have HZ := Lib.hid hzz
                  have HE := Lib.hid (HBa.out.trans (HSq.out.below (by have := HBa.out.size; omega) (fun k hk => by have := HBa.out.size; omega)))
                  clear hzz hFq hSq hTq
                  go_wp2_with fail
                  refine HZ.out.mono ?_
                  rintro e Q1 ⟨rfl, rfl⟩
                  go_wp2
                  go_ret
                  exact ⟨rfl, HE.out⟩
end fsChains
end Go.Proofs.Ytaadfoelaeliiaa
