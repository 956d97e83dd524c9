/-
  Crash of package fs.
-/
import Derived.Test.YtadnecgcoceklaaGreatDoorFsFsWI
namespace Go.Proofs.YtadnecgcoceklaaGreatDoor
open Go.RowKit Go.Maps

theorem cutF_ok {f : Fil} (p : Nat) (h : f.1.length ≤ 1048576 ∧ f.2 ≤ f.1.length ∧ ∀ x ∈ f.1, x < 256) : (cutF f p).1.length ≤ 1048576 ∧ (cutF f p).2 ≤ (cutF f p).1.length ∧ ∀ x ∈ (cutF f p).1, x < 256 := by
  obtain ⟨h1, h2, h3⟩ := h
  have hm : p % (f.1.length - f.2 + 1) ≤ f.1.length - f.2 := by have := Nat.mod_lt p (show 0 < f.1.length - f.2 + 1 by omega); omega
  have hl : (f.1.take (f.2 + p % (f.1.length - f.2 + 1))).length = f.2 + p % (f.1.length - f.2 + 1) := by rw [List.length_take]; omega
  unfold cutF
  dsimp only
  split
  · refine ⟨by rw [List.length_set, hl]; omega, by rw [List.length_set, hl]; exact Nat.le_refl _, fun x hx => ?_⟩
    rcases List.mem_or_eq_of_mem_set hx with hx | rfl
    · exact h3 x (List.mem_of_mem_take hx)
    · refine Nat.xor_lt_two_pow (n := 8) ?_ (by decide)
      rw [List.getD_eq_getElem?_getD]
      cases e : (f.1.take (f.2 + p % (f.1.length - f.2 + 1)))[f.2 + p % (f.1.length - f.2 + 1) - 1]? with
      | none => decide
      | some y => exact h3 y (List.mem_of_mem_take (List.mem_of_getElem? e))
  · exact ⟨by rw [hl]; omega, by rw [hl]; exact Nat.le_refl _, fun x hx => h3 x (List.mem_of_mem_take hx)⟩
theorem bytesBefore_lt : ∀ (x y : List UInt8), bytesBefore x y = true → x < y := by
  intro x
  induction x with
  | nil => intro y h; cases y with
    | nil => simp [bytesBefore] at h
    | cons b s => simp
  | cons a r ih => intro y h; cases y with
    | nil => simp [bytesBefore] at h
    | cons b s =>
      simp [bytesBefore] at h
      rw [List.cons_lt_cons_iff]
      rcases h with h | ⟨h1, h2⟩
      · exact .inl h
      · exact .inr ⟨h1, ih s h2⟩
theorem bytesBefore_ne {x y : List UInt8} (h : bytesBefore x y = true) : x ≠ y := fun e => by
  subst e; exact absurd (bytesBefore_lt _ _ h) (Std.lt_irrefl)
theorem look_at {d : Dir} (h : d.Pairwise fun p q => bytesBefore p.1 q.1 = true) {i : Nat} (hi : i < d.length) : Dir.look d (d[i]).1 = some (d[i]).2 := by
  induction d generalizing i with
  | nil => simp at hi
  | cons y r ih =>
    rw [List.pairwise_cons] at h
    cases i with
    | zero => simp [Dir.look]
    | succ i =>
      have hi' : i < r.length := by simpa using hi
      have hne : (y.1 == (r[i]).1) = false := by
        rw [beq_eq_false_iff_ne]; exact bytesBefore_ne (h.1 _ (List.getElem_mem hi'))
      have := ih h.2 hi'
      unfold Dir.look at this ⊢
      simp only [List.getElem_cons_succ, List.find?_cons, hne]
      exact this
theorem row_cellB {w : World} {B : Nat} {e : TypeId} {v : Value} {n : Nat} {xs : List Value} (h : w.ownsRow B e 1 v n xs) : ∃ ad cap, v = .slice ad n cap ∧ n ≤ cap ∧ ∀ i x, xs[i]? = some x → ∃ gb, ad = some ⟨gb, 0, none⟩ ∧ B ≤ gb ∧ gb < w.heap.size ∧ w.cell? ⟨gb, i, none⟩ = some x := by
  have hc := fun g hg => World.ownsRow.cells h (g := g) hg
  rcases h.2 with ⟨rfl, h0⟩ | ⟨g, cap, cur, rfl, hB, hg, h1, h2, h3, h4⟩
  · refine ⟨none, 0, by rw [h0], by omega, fun i x hx => ?_⟩
    have := h.1
    rw [h0] at this
    have : xs = [] := List.length_eq_zero_iff.1 (by omega)
    subst this; cases hx
  · refine ⟨some ⟨g, 0, none⟩, cap, rfl, h1, fun i x hx => ⟨g, rfl, hB, (Array.getElem?_eq_some_iff.1 hg).1, ?_⟩⟩
    have := hc g rfl i x hx
    rw [addr_add] at this; simpa using this
theorem drop_min (zs : List Int) (k : Nat) : zs.drop (min (k + 1) zs.length) = (zs.drop k).tail := by
  rw [List.tail_drop]
  by_cases h : k + 1 ≤ zs.length
  · rw [Nat.min_eq_left h]
  · rw [Nat.min_eq_right (by omega), List.drop_length, List.drop_eq_nil_of_le (by omega)]
/-- The picks of a crash, apart from the directory. -/
def Picks (w : World) (F : Nat → Prop) (ad : Option Addr) (zs : List Int) : Prop :=
  (zs = [] ∨ ∃ b off, ad = some ⟨b, off, none⟩ ∧ ∀ i (h : i < zs.length), w.cell? ⟨b, off + i, none⟩ = some (.int .i64 zs[i])) ∧
  (∀ b off, ad = some ⟨b, off, none⟩ → b < w.heap.size ∧ ¬ F b) ∧ zs.length < 4611686018427387904
theorem pk_lt (zs : List Int) : pk zs < 18446744073709551616 := by unfold pk; omega
def NamesAt (w : World) (F : Nat → Prop) (tb : Nat) (ad : Option Addr) (l : List Bs) : Prop := ∀ (i : Nat) x, l[i]? = some x → ∃ gb, ad = some ⟨gb, 0, none⟩ ∧ tb + 1 < gb ∧ gb < w.heap.size ∧ ¬ F gb ∧ w.cell? ⟨gb, i, none⟩ = some (.string (strB x))
theorem NamesAt.moves {w w' : World} {F F' : Nat → Prop} {tb : Nat} {ad : Option Addr} {l : List Bs} (h : NamesAt w F tb ad l) (hM : Moves F w F' w') : NamesAt w' F' tb ad l := fun i x hx => by
  obtain ⟨gb, h1, h2, h3, h4, h5⟩ := h i x hx
  refine ⟨gb, h1, h2, Nat.lt_of_lt_of_le h3 hM.size, fun hf => ?_, (World.cell?_of_block (a := ⟨gb, i, none⟩) (hM.block gb h3 h4)).trans h5⟩
  rcases hM.foot gb hf with h | h
  · exact h4 h
  · omega
theorem NamesAt.touch {w w' : World} {F : Nat → Prop} {tb : Nat} {ad : Option Addr} {l : List Bs} (h : NamesAt w F tb ad l) (hT : Touch (tb + 1) w w') : NamesAt w' F tb ad l := fun i x hx => by
  obtain ⟨gb, h1, h2, h3, h4, h5⟩ := h i x hx
  exact ⟨gb, h1, h2, by rw [hT.size]; exact h3, h4, (World.cell?_of_block (a := ⟨gb, i, none⟩) (hT.block gb (by omega))).trans h5⟩

set_option maxRecDepth 100000 in
set_option maxHeartbeats 1000000 in
theorem crash_any {w : World} {pb : Nat} {a : A} {F : Nat → Prop} (h : FsAt w pb a F) (ht : a.top < 1073741824) {ad : Option Addr} {cap : Nat} {zs : List Int} (hp : Picks w F ad zs) {n : Nat} (hn : zs.length = n) :
    Calls Tryz.prog 26 #[bp pb, .slice ad n cap] w fun e w' => e = .returned (.tuple #[]) ∧ ∃ F', FsAt w' pb (a.crash zs) F' ∧ Moves F w F' w' := by
  subst hn
  obtain ⟨ho, g, h⟩ := h
  have htk := taker_any (w := w) ad zs.length cap
  generalize hw1 : (w.alloc (.cells #[.slice ad zs.length cap] 44)).alloc (.cells #[.int .i64 0] 3) = w1 at *
  have hb1 : Below w.heap.size w w1 := by rw [← hw1]; exact ((Below.refl _ _).alloc (Nat.le_refl _) _).alloc (by simp) _
  have h1 := h.below hb1
  have hs1 : w1.heap.size = w.heap.size + 2 := by rw [← hw1]; simp
  have hT1 : Tk w1 w.heap.size ad cap zs 0 := by
    refine ⟨?_, ?_, ?_, Nat.zero_le _, hp.2.2⟩
    · rw [← hw1, Below.heap_alloc _ _ _ (by simp)]; exact heap_alloc_new w _
    · rw [← hw1]
      have := heap_alloc_new (w.alloc (.cells #[.slice ad zs.length cap] 44)) (.cells #[.int .i64 0] 3)
      rw [show (w.alloc (.cells #[.slice ad zs.length cap] 44)).heap.size = w.heap.size + 1 by simp] at this
      exact this
    · rcases hp.1 with h0 | ⟨b, off, he, hc⟩
      · exact .inl h0
      · exact .inr ⟨b, off, he, (hp.2.1 b off he).1, fun i hi => (hb1.cell (p := ⟨b, off + i, none⟩) (hp.2.1 b off he).1).trans (hc i hi)⟩
  have hA1 : Apart F w.heap.size ad := fun k hk => by
    have := h.fl k hk
    exact ⟨by omega, by omega, fun b off he e => (hp.2.1 b off he).2 (by rw [← e]; exact hk)⟩
  have hbl : ∀ b off, ad = some ⟨b, off, none⟩ → b < w.heap.size := fun b off he => (hp.2.1 b off he).1
  have HTK := Lib.hid htk
  have hlt := h.lt
  have hc1 := taker1_any hT1
  have HC1 := Lib.hid hc1
  have H1 := Lib.hid h1
  have HO := Lib.hid ho
  have HA1 := Lib.hid hA1
  have HBL := Lib.hid hbl
  have HB1 := Lib.hid hb1
  have HTOP := Lib.hid ht
  have HS1 := Lib.hid hs1
  clear hw1 htk h1 ho hA1 hbl hb1 ht hp hT1 hc1 h hs1
  go_enter Tryz.func26, Tryz.ntmps26
  go_wp2_with fail
  refine HTK.out.mono ?_
  rintro e W ⟨rfl, rfl⟩
  go_wp2_with fail
  refine HC1.out.mono ?_
  rintro e W1 ⟨rfl, hT2, ht2⟩
  have hG1 : FsG W1 g pb a F := H1.out.keep (fun k hk => ht2.block k (HA1.out k hk).2.1) (by rw [ht2.size]; exact Nat.le_refl _)
  have hM1 : Moves F w F W1 := by
    have m0 : Moves F w F W := ⟨HB1.out.os, HB1.out.tape, HB1.out.output, HB1.out.size, fun k hk _ => HB1.out.block k hk, fun k hk => .inl hk⟩
    have hs := HS1.out
    exact ⟨ht2.os.trans m0.os, ht2.tape.trans m0.tape, ht2.output.trans m0.output, by rw [ht2.size]; exact m0.size, fun k hk hf => (ht2.block k (by omega)).trans (m0.block k hk hf), fun k hk => .inl hk⟩
  have hcn := cutNames_any hG1 HO.out HTOP.out (pk zs) (pk_lt zs)
  have HCN := Lib.hid hcn
  have HT2 := Lib.hid hT2
  have HM1 := Lib.hid hM1
  clear hG1 hM1 hcn hT2 ht2 HTK HC1 H1
  go_wp2_with fail
  refine HCN.out.mono ?_
  rintro e W2 ⟨rfl, g2, F2, hG2, hM2⟩
  have hOb := HO.out.cutN (pk zs)
  have hlen2 : (a.cutN (pk zs)).now.length ≤ 1073741824 := by
    have := lastK_len a (pk zs % (a.wait.length + 1))
    have h2 := HTOP.out
    unfold A.top at h2
    have h3 := Nat.mod_lt (pk zs) (show 0 < a.wait.length + 1 by omega)
    show (lastK a (pk zs % (a.wait.length + 1))).length ≤ _
    omega
  have hV : a.crash zs = { a.cutN (pk zs) with files := cutAll (a.cutN (pk zs)).now (a.cutN (pk zs)).files zs.tail, off := false, armed := false, left := 0 } := rfl
  have hri := rising_g hG2 hlen2
  have c1 := hG2.c1
  have hl2 := hG2.lt
  have hT3 := HT2.out.moves hM2 HA1.out
  have hA3 : Apart F2 w.heap.size ad := Apart.moves HT2.out HBL.out hM2 HA1.out
  generalize a.cutN (pk zs) = b at *
  have HRI := Lib.hid hri
  have HG2 := Lib.hid hG2
  have HM2 := Lib.hid (HM1.out.trans hM2)
  have HT3 := Lib.hid hT3
  have HA3 := Lib.hid hA3
  have HOb := Lib.hid hOb
  have HV := Lib.hid hV
  clear hG2 hM2 hri hT3 hA3 hOb hV HCN HM1 HT2 HA1
  go_wp2_with fail
  refine HRI.out.mono ?_
  rintro e W3 ⟨v, rfl, hrow, hbel⟩
  obtain ⟨adN, capN, rfl, hcapN, hcells⟩ := row_cellB hrow
  have hG3 := HG2.out.below hbel
  have hT3 : Tk W3 w.heap.size ad cap zs (min (0 + 1) zs.length) := HT3.out.keep (fun j hj _ => hbel.block j hj)
  have hM3 : Moves F w F2 W3 := HM2.out.trans ⟨hbel.os, hbel.tape, hbel.output, hbel.size, fun k hk _ => hbel.block k hk, fun k hk => .inl hk⟩
  have hN3 : NamesAt W3 F2 w.heap.size adN (b.now.map (·.1)) := fun i x hx => by
    obtain ⟨gb, h1, h2, h3, h4⟩ := hcells i (.string (strB x)) (by rw [List.getElem?_map, hx]; rfl)
    have h5 := HT3.out.lt
    exact ⟨gb, h1, by omega, h3, fun hf => by have := HG2.out.fl gb hf; omega, h4⟩
  rw [List.length_map] at hcapN ⊢
  have HG3 := Lib.hid hG3
  have HT3' := Lib.hid hT3
  have HM3 := Lib.hid hM3
  have HN3 := Lib.hid hN3
  obtain ⟨n, hn⟩ : ∃ n, b.now.length = n := ⟨_, rfl⟩
  rw [hn] at hcapN hlen2 ⊢
  have HN := Lib.hid hn
  clear hG3 hT3 hM3 hN3 hrow hbel hcells HG2 HT3 HM2 HRI hn
  go_wp2_with fail
  go_loopw [6, 7, 22] (fun _ _ u wr => ∃ (i k : Nat) (g' : Gh) (F' : Nat → Prop) (fs : List Fil), u = .int .i64 i ∧ i ≤ n ∧ FsG wr g' pb { b with files := fs } F' ∧ ({ b with files := fs } : A).Ok ∧ Tk wr w.heap.size ad cap zs k ∧ Apart F' w.heap.size ad ∧ NamesAt wr F' w.heap.size adN (b.now.map (·.1)) ∧ Moves F w F' wr ∧ cutAll (b.now.drop i) fs (zs.drop k) = cutAll b.now b.files zs.tail) (fun _ _ u _ => n - (intOf u).toNat)
  case atStart => exact ⟨0, _, g2, F2, b.files, rfl, Nat.zero_le _, HG3.out, HOb.out, HT3'.out, HA3.out, HN3.out, HM3.out, by rw [drop_min, List.drop_zero, List.drop_zero]⟩
  case round =>
    obtain ⟨i, k, g', F', fs, rfl, hi, hG, hOk, hT, hA, hN, hM, hcut⟩ := hrel
    clear HG3 HT3' HM3 HN3 HA3
    by_cases hin : i < n
    · have hib : i < b.now.length := by rw [HN.out]; exact hin
      obtain ⟨gb, hgb, h2, h3, h4, hcell⟩ := hN i (b.now[i]).1 (by simp [hib])
      subst hgb
      have hnow := hOk.now b.now[i] (List.getElem_mem hib)
      cases hnm : g'.nm with
      | none =>
        have := (hG.hD.none_ hnm).1
        change b.now = [] at this
        rw [this] at hib; simp at hib
      | some bN =>
        have hD := (hG.hD.n bN hnm).1
        have hlk := hD.look1 (strB (b.now[i]).1) (by rw [strB_size]; unfold maxLen; omega)
        have hla : Dir.look b.now (b.now[i]).1 = some (b.now[i]).2 := look_at hD.rises hib
        rw [strB_list] at hlk
        change _ = Result.ok (ptrOf g'.blk (Dir.look b.now (b.now[i]).1)) _ at hlk
        rw [hla] at hlk
        change _ = Result.ok (bp (g'.blk (b.now[i]).2)) _ at hlk
        have hdrop : b.now.drop i = b.now[i] :: b.now.drop (i + 1) := List.drop_eq_getElem_cons hib
        rw [hdrop] at hcut
        generalize b.now[i] = pr at *
        obtain ⟨nm, ix⟩ := pr
        dsimp only at hlk hla hcell hnow hcut
        have hix : ix < fs.length := hnow.2
        have hc1 := hG.c1
        rw [hnm] at hc1
        have f0 := hG.f0 (i := ix) hix
        have f1 := hG.f1 (i := ix) hix
        change _ = some (Value.int .i64 ((fs.getD ix ([], 0)).2 : Int)) at f1
        obtain ⟨adB, capB, hbv⟩ := row_form (hG.hF.r ix hix).1
        change _ = Value.slice adB (fs.getD ix ([], 0)).1.length capB at hbv
        rw [hbv] at f0
        have hpl := hG.lt
        by_cases hlt2 : (fs.getD ix ([], 0)).2 < (fs.getD ix ([], 0)).1.length
        · rw [cutAll, if_pos hlt2] at hcut
          obtain ⟨L, hL⟩ : ∃ L, (fs.getD ix ([], 0)).1.length = L := ⟨_, rfl⟩
          obtain ⟨q, hq⟩ : ∃ q, (fs.getD ix ([], 0)).2 = q := ⟨_, rfl⟩
          rw [hL] at f0 hlt2
          rw [hq] at f1 hlt2
          have htk := fun m => taker1_any (hT.keep (w' := wr.drewN m) (fun _ _ _ => rfl))
          have HTK := Lib.hid htk
          have HG := Lib.hid hG
          have HOk := Lib.hid hOk
          have HA := Lib.hid hA
          have HNm := Lib.hid hN
          have HM := Lib.hid hM
          have HCUT := Lib.hid hcut
          have HLK := Lib.hid hla
          clear hG hOk hT hA hN hM hcut hla hD hnow htk hbv hL hq hdrop hnm
          go_wp2_with fail
          go_quiet (fail)
          go_wp2_with fail
          refine (HTK.out _).mono ?_
          rintro e W4 ⟨rfl, hT4, ht4⟩
          have ht5 : Touch (w.heap.size + 1) wr W4 := (Touch.drewN _ wr _).trans ht4
          have hG4 := HG.out.keep (w' := W4) (fun j hj => ht5.block j (HA.out j hj).2.1) (by rw [ht5.size]; exact Nat.le_refl _)
          have hN4 := HNm.out.touch ht5
          have hcc := cut_any hG4 HOk.out (ix := ix) hix (pk (zs.drop k)) (pk_lt _)
          have HCC := Lib.hid hcc
          have HM4 := Lib.hid (show Moves F w F' W4 from by
            have m := HM.out
            have hs := HS1.out
            have hs2 := HB1.out.size
            refine ⟨ht5.os.trans m.os, ht5.tape.trans m.tape, ht5.output.trans m.output, by rw [ht5.size]; exact m.size, fun j hj hf => (ht5.block j (by omega)).trans (m.block j hj hf), m.foot⟩)
          have HN4 := Lib.hid hN4
          have HT4 := Lib.hid hT4
          clear hT4 ht4 ht5 hG4 hN4 hcc HTK
          go_wp2_with fail
          refine HCC.out.mono ?_
          rintro e W5 ⟨rfl, v5, F5, hG5, hM5⟩
          have HE := Lib.hid (show FsG W5 { g' with bv := upd g'.bv ix v5 } pb { b with files := fs.set ix (cutF (fs.getD ix ([], 0)) (pk (zs.drop k))) } F5 ∧ ({ b with files := fs.set ix (cutF (fs.getD ix ([], 0)) (pk (zs.drop k))) } : A).Ok ∧ Tk W5 w.heap.size ad cap zs (min (k + 1) zs.length) ∧ Apart F5 w.heap.size ad ∧ NamesAt W5 F5 w.heap.size (some ⟨gb, 0, none⟩) (b.now.map (·.1)) ∧ Moves F w F5 W5 ∧ cutAll (b.now.drop (i + 1)) (fs.set ix (cutF (fs.getD ix ([], 0)) (pk (zs.drop k)))) (zs.drop (min (k + 1) zs.length)) = cutAll b.now b.files zs.tail from by
            have hok := cutF_ok (pk (zs.drop k)) (HOk.out.file ix)
            exact ⟨hG5, HOk.out.setFile (i := ix) hok.1 hok.2.1 hok.2.2, HT4.out.moves hM5 HA.out, Apart.moves HT4.out HBL.out hM5 HA.out, HN4.out.moves hM5, HM4.out.trans hM5, by rw [drop_min]; exact HCUT.out⟩)
          clear hG5 hM5
          go_wp2
          go_roundw
          case rel => exact ⟨i + 1, _, _, F5, _, by go_num, by omega, HE.out⟩
          case measure => simp [intOf]; omega
        · rw [cutAll, if_neg hlt2] at hcut
          obtain ⟨L, hL⟩ : ∃ L, (fs.getD ix ([], 0)).1.length = L := ⟨_, rfl⟩
          obtain ⟨q, hq⟩ : ∃ q, (fs.getD ix ([], 0)).2 = q := ⟨_, rfl⟩
          rw [hL] at f0 hlt2
          rw [hq] at f1 hlt2
          have HE := fun m => Lib.hid (show FsG (wr.drewN m) g' pb { b with files := fs } F' ∧ ({ b with files := fs } : A).Ok ∧ Tk (wr.drewN m) w.heap.size ad cap zs k ∧ Apart F' w.heap.size ad ∧ NamesAt (wr.drewN m) F' w.heap.size (some ⟨gb, 0, none⟩) (b.now.map (·.1)) ∧ Moves F w F' (wr.drewN m) ∧ cutAll (b.now.drop (i + 1)) fs (zs.drop k) = cutAll b.now b.files zs.tail from
            ⟨hG.keep (fun _ _ => rfl) (Nat.le_refl _), hOk, hT.keep (fun _ _ _ => rfl), hA, hN.moves (Moves.drewN F' wr m), hM.trans (Moves.drewN _ _ _), hcut⟩)
          clear hG hOk hT hA hN hM hcut hla hD hnow hbv hL hq hdrop hnm
          go_wp2_with fail
          go_quiet (fail)
          go_wp2
          go_roundw
          case rel => exact ⟨i + 1, _, _, F', _, by go_num, by omega, (HE _).out⟩
          case measure => simp [intOf]; omega
    · obtain rfl : i = n := by omega
      rw [List.drop_eq_nil_of_le (by rw [HN.out]; exact Nat.le_refl _), cutAll] at hcut
      subst hcut
      have c4 := hG.c4
      have c5 := hG.c5
      have c6 := hG.c6
      have z4 := hG.fz 4
      have z5 := hG.fz 5
      have z6 := hG.fz 6
      have hpl := hG.lt
      have HE := Lib.hid (show ∃ F', FsAt (((wr.setCell ⟨pb, 4, none⟩ (.bool false)).setCell ⟨pb, 5, none⟩ (.bool false)).setCell ⟨pb, 6, none⟩ (.int .i64 0)) pb (a.crash zs) F' ∧ Moves F w F' (((wr.setCell ⟨pb, 4, none⟩ (.bool false)).setCell ⟨pb, 5, none⟩ (.bool false)).setCell ⟨pb, 6, none⟩ (.int .i64 0)) from by
        rw [HV.out]
        have s1 := hG.setP 4 (.bool false) (a' := { b with files := cutAll b.now b.files zs.tail, off := false }) rfl rfl rfl rfl rfl
        have s2 := s1.setP 5 (.bool false) (a' := { b with files := cutAll b.now b.files zs.tail, off := false, armed := false }) rfl rfl rfl rfl rfl
        have s3 := s2.setP 6 (.int .i64 0) (a' := { b with files := cutAll b.now b.files zs.tail, off := false, armed := false, left := 0 }) rfl rfl rfl rfl rfl
        exact ⟨F', ⟨⟨hOk.room, by show 0 ≤ _; omega, hOk.fil, hOk.now, hOk.last, hOk.wait⟩, g', s3⟩, ((hM.trans (Moves.setCell _ (a := ⟨pb, 4, none⟩) hG.fp _)).trans (Moves.setCell _ (a := ⟨pb, 5, none⟩) hG.fp _)).trans (Moves.setCell _ (a := ⟨pb, 6, none⟩) hG.fp _)⟩)
      clear hG hOk hT hA hN hM
      go_wp2
      go_end0
      exact ⟨rfl, HE.out⟩
end Go.Proofs.YtadnecgcoceklaaGreatDoor

