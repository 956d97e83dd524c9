/-
  RegionParts answers true, whatever it is asked, and turns nothing that was there: the walk.
-/
import Derived.Test.YtaaalfimlpeddaaRegParB
import Derived.Deep.RegionHeld3
namespace Go.Proofs.Ytaaalfimlpeddaa.regionParts
open Go.RowKit

theorem run_min2 {P : Program} {w : World} (ts : Array TypeId) (t : TypeId) (x y r : Int) (hr : r = min x y) :
    (Builtin.min_ ts t #[.int .i64 x, .int .i64 y]).run P w = .ok (.int .i64 r) w := by
  subst hr
  simp only [Builtin.min_, List.foldlM_cons, List.foldlM_nil, Sem.run_bind, Sem.run_pure, Builtin.min2, Result.andThen]
  repeat' split
  all_goals simp_all
  all_goals omega
theorem slc_to (s : ByteArray) (z : Int) (n : Nat) (hz : z = n) (hn : n ≤ s.size) (w : World) : (Instr.slice 9 (.string s) none (some (.int .i64 z)) none).run Try.prog w = .ok (.string (s.extract 0 n)) w := by
  subst hz
  rw [run_slice_string_to_if (P := Try.prog) w 9 s .i64 (n : Int) Try.underlying9, if_pos ⟨by omega, by omega⟩]
  simp
theorem slc_from (s : ByteArray) (z : Int) (n : Nat) (hz : z = n) (hn : n ≤ s.size) (w : World) : (Instr.slice 9 (.string s) (some (.int .i64 z)) none none).run Try.prog w = .ok (.string (s.extract n s.size)) w := by
  subst hz
  rw [run_slice_string_from_if (P := Try.prog) w 9 s .i64 (n : Int) Try.underlying9, if_pos ⟨by omega, by omega⟩]
  simp
theorem loop_eq (bs : ByteArray) (i : Nat) (r : List UInt8) : ByteArray.toList.loop bs i r = r.reverse ++ bs.data.toList.drop i := by
  unfold ByteArray.toList.loop
  split
  · rename_i h
    rw [loop_eq bs (i + 1)]
    have h2 : i < bs.data.toList.length := by simpa using h
    rw [List.drop_eq_getElem_cons h2]
    simp
    show bs.data[i]! = bs.data[i]
    have h3 : i < bs.data.size := h
    rw [getElem!_pos bs.data i h3]
  · rename_i h
    have : bs.data.toList.length ≤ i := by simpa using h
    rw [List.drop_eq_nil_of_le this]; simp
termination_by bs.size - i
theorem toList_eq (bs : ByteArray) : bs.toList = bs.data.toList := by
  unfold ByteArray.toList; rw [loop_eq]; simp
theorem toList_nil_iff (k : ByteArray) : k.toList = [] ↔ k.size = 0 := by
  rw [toList_eq]
  constructor
  · intro h
    have := congrArg List.length h
    simpa using this
  · intro h
    exact List.length_eq_zero_iff.1 (by simpa using h)
/-- The two parts in memory. -/
structure PQ (wr : World) (F : Nat → Prop) (q : Nat) (p0 p1 : ByteArray) : Prop where
  c0 : wr.cell? ⟨q, 0, none⟩ = some (.string p0)
  c1 : wr.cell? ⟨q, 1, none⟩ = some (.string p1)
  lt : q < wr.heap.size
  nf : ¬ F q
theorem PQ.grew {wr w' : World} {F : Nat → Prop} {q : Nat} {p0 p1 : ByteArray} (h : PQ wr F q p0 p1) (hg : Grew wr w') : PQ w' F q p0 p1 :=
  ⟨(hg.cell (p := ⟨q, 0, none⟩) h.lt).trans h.c0, (hg.cell (p := ⟨q, 1, none⟩) h.lt).trans h.c1, Nat.lt_of_lt_of_le h.lt hg.size, h.nf⟩
theorem PQ.moves {wr w' : World} {F : Nat → Prop} {q : Nat} {p0 p1 : ByteArray} (h : PQ wr F q p0 p1) (hM : Moves F wr F w') : PQ w' F q p0 p1 :=
  ⟨(World.cell?_of_block (w := wr) (a := ⟨q, 0, none⟩) (hM.block q h.lt h.nf)).trans h.c0, (World.cell?_of_block (w := wr) (a := ⟨q, 1, none⟩) (hM.block q h.lt h.nf)).trans h.c1, Nat.lt_of_lt_of_le h.lt hM.size, h.nf⟩
theorem PQ.new (wr : World) (F : Nat → Prop) (p0 p1 : ByteArray) (t : TypeId) (hF : ¬ F wr.heap.size) : PQ (wr.alloc (.cells #[.string p0, .string p1] t)) F wr.heap.size p0 p1 :=
  ⟨by rw [World.cell?_alloc_mark]; rfl, by rw [World.cell?_alloc_mark]; rfl, by simp, hF⟩
theorem cut_val (a : Int) (n : Nat) (hn : n ≤ 128) : ∃ c : Nat, c ≤ n ∧ wrap64 ((IntKind.u64.wrap a).tmod ((n : Int) + 1)) = (c : Int) := by
  have hu : 0 ≤ IntKind.u64.wrap a := by simp [IntKind.wrap, IntKind.bits, IntKind.signed]; omega
  refine ⟨((IntKind.u64.wrap a) % ((n : Int) + 1)).toNat, ?_, ?_⟩
  · have := Int.emod_lt_of_pos (IntKind.u64.wrap a) (show (0 : Int) < (n : Int) + 1 by omega)
    have := Int.emod_nonneg (IntKind.u64.wrap a) (show (n : Int) + 1 ≠ 0 by omega)
    omega
  · rw [Int.tmod_eq_emod_of_nonneg hu]
    have h1 := Int.emod_lt_of_pos (IntKind.u64.wrap a) (show (0 : Int) < (n : Int) + 1 by omega)
    have h2 := Int.emod_nonneg (IntKind.u64.wrap a) (show (n : Int) + 1 ≠ 0 by omega)
    generalize IntKind.u64.wrap a % ((n : Int) + 1) = r at *
    unfold wrap64; omega
def CaseOf (D P Q : List Nat) (c f s : Nat) : Prop := (f = 0 ∧ s = c ∧ P = D.take c ∧ Q = D.drop c) ∨ (f = c ∧ s = 0 ∧ P = D.drop c ∧ Q = D.take c)
theorem fresh_open {w w' : World} {v : Value} {bs : List Nat} (h : FreshRow 5 w v (u8s bs) w') : ∃ g cap, v = .slice (some ⟨g, 0, none⟩) bs.length cap ∧ bs.length ≤ cap ∧ ReadsB w' (.slice (some ⟨g, 0, none⟩) bs.length cap) bs ∧ Grew w w' := by
  have hr := reads_fresh h
  obtain ⟨g, cap, hv, _, _, hown, hg⟩ := h
  have hl : (u8s bs).length = bs.length := by simp [u8s]
  rw [hl] at hv hown
  subst hv
  refine ⟨g, cap, rfl, ?_, hr, hg⟩
  rcases hown.2 with ⟨e, _⟩ | ⟨_, _, _, e, _, _, h1, _⟩
  · cases e
  · cases e; exact h1
theorem slabs_open {w w' : World} {v : Value} {l : List Nat} (h : FreshOr 3 w v (i64s l) w') (h0 : l.getD 0 0 = 0) (h1 : 1 ≤ l.length) : ∃ g cap n, v = .slice (some ⟨g, 0, none⟩) n cap ∧ 1 ≤ n ∧ w'.cell? ⟨g, 0, none⟩ = some (.int .i64 0) ∧ Grew w w' := by
  rcases h with ⟨h, _, _⟩ | ⟨g, cap, hv, _, _, hown, hg⟩
  · have := congrArg List.length h; simp [i64s] at this; rw [this] at h1; simp at h1
  · refine ⟨g, cap, _, hv, by simp [i64s]; omega, ?_, hg⟩
    have hc := World.ownsRow.cells hown (g := g) (by rw [hv]; rfl) 0 (.int .i64 0) (by
      have e : l[0]? = some 0 := by
        rw [List.getElem?_eq_getElem (by omega)]
        rw [List.getD_eq_getElem?_getD, List.getElem?_eq_getElem (by omega)] at h0
        simpa using h0
      simp [i64s, e])
    have hadd : (⟨g, 0, none⟩ : Addr).add 0 = ⟨g, 0, none⟩ := by unfold Addr.add; split <;> simp_all
    rw [hadd] at hc; exact hc
theorem run_cut (w : World) (g len cap n : Nat) (hn : n ≤ cap) : (Instr.slice 49 (.slice (some ⟨g, 0, none⟩) len cap) (some (.int .i64 0)) (some (.int .i64 (n : Int))) none).run Try.prog w = .ok (.slice (some ⟨g, 0, none⟩) n cap) w := by
  have hel : Try.prog.elem 49 = 5 := by kernel_rfl
  rw [run_slice_lh (P := Try.prog) w 49 (some ⟨g, 0, none⟩) len cap (by rw [hel]; exact Try.underlying49) .i64 .i64 0 n (by omega) (by omega) (by omega), hel]
  simp [go_sem, sliced]
theorem ReadsB.cut {w : World} {g cap m n : Nat} {bs : List Nat} (h : ReadsB w (.slice (some ⟨g, 0, none⟩) m cap) bs) (hm : bs.length = m) (hn : n ≤ m) : ReadsB w (.slice (some ⟨g, 0, none⟩) n cap) (bs.take n) := by
  obtain ⟨sp, c, hv, hs⟩ := h
  cases hv
  have hl : (bs.take n).length = n := by rw [List.length_take]; omega
  refine ⟨some ⟨g, 0, none⟩, cap, by rw [hl], fun hp => ?_⟩
  obtain ⟨ad, had, hc⟩ := hs (by omega)
  refine ⟨ad, had, fun j u hu => hc j u ?_⟩
  simp only [u8s, List.getElem?_map, List.getElem?_take] at hu ⊢
  split at hu
  · exact hu
  · simp at hu
theorem bytes_take (S : Ps) (m n : Nat) (h : n ≤ m) : (S.bytesAt 0 m).take n = S.bytesAt 0 n := by
  unfold Ps.bytesAt
  rw [← List.map_take, List.take_range, Nat.min_eq_left h]
set_option maxRecDepth 100000 in
set_option maxHeartbeats 40000000 in
theorem walk (a0 : ByteArray) (a1 : Int) (a2 : Bool) (w0 : a0.size ≤ maxLen) (_w1 : (Lit.int .i64 a1).wf = true) (w : World) :
    Calls Try.prog 5 #[.string a0, .int .i64 a1, .bool a2] w fun e w' => e = .returned (.bool true) ∧ Below w.heap.size w w' := by
  unfold maxLen at w0
  obtain ⟨n, hnn⟩ : ∃ n, n = min a0.size 128 := ⟨_, rfl⟩
  have hmin : ∀ ts t wx, (Builtin.min_ ts t #[.int .i64 (a0.size : Int), .int .i64 128]).run Try.prog wx = .ok (.int .i64 (n : Int)) wx := fun ts t wx => run_min2 ts t _ _ _ (by omega)
  have hsl := slc_to a0 (n : Int) n rfl (by omega)
  have hds : (a0.extract 0 n).size = n := by simp; omega
  have hn2' : n ≤ 128 := by omega
  generalize a0.extract 0 n = d at *
  by_cases h0 : n = 0
  · have hd : d.toList = [] := (toList_nil_iff d).2 (by omega)
    clear hnn hds
    go_enter Try.func5, Try.ntmps5
    go_wp2_with fail
    refine (fertile_any _).mono ?_
    rintro e w1 ⟨rfl, hb1⟩
    have B1 := Lib.hid hb1
    clear hb1
    go_wp2
    go_ret
    exact ⟨rfl, B1.out⟩
  · have hn : 1 ≤ d.size := by omega
    have hn2 : d.size ≤ 128 := by omega
    have hd : ¬ d.toList = [] := fun h => h0 (by rw [← hds]; exact (toList_nil_iff d).1 h)
    have hd2 : (d.toList == []) = false := by rw [beq_eq_false_iff_ne]; exact hd
    obtain ⟨c, hc, hcv⟩ := cut_val a1 d.size hn2
    have hwu : IntKind.u64.wrap ((d.size : Int) + 1) = (d.size : Int) + 1 := by simp [IntKind.wrap, IntKind.bits, IntKind.signed]; omega
    have hz1 : ¬ ((d.size : Int) + 1 = 0) := by omega
    have s1 := slc_to d (c : Int) c rfl hc
    have s2 := slc_from d (c : Int) c rfl hc
    have HT := Lib.hid (take_nats d c)
    have HD := Lib.hid (drop_nats d c)
    have HL1 : Hid ((d.extract 0 c).size = c) := Lib.hid (by simp; omega)
    have HL2 : Hid ((d.extract c d.size).size = d.size - c) := Lib.hid (by simp)
    generalize d.extract 0 c = dt at *
    generalize d.extract c d.size = dr at *
    obtain ⟨hk1, hk2, hk3⟩ := koOf_ge d.size hn2
    clear hnn hds h0 hn2'
    go_enter Try.func5, Try.ntmps5
    go_wp2_with fail
    refine (fertile_any _).mono ?_
    rintro e w1 ⟨rfl, hb1⟩
    have B1 := Lib.hid hb1
    clear hb1
    have HN := Lib.hid (St.new w1 128 2 (by omega) (by omega) (by omega) (by omega) (by omega) (by omega))
    go_wp2_with fail
    refine HN.out.mono ?_
    rintro e w2 ⟨pb, bb, tb, F0, rfl, hS0, _⟩
    have hnx : (Ps.new 128 2 pb bb tb).next = some 0 := idleFrom_is (by omega) rfl (fun q hq => by omega)
    have HMK := Lib.hid (hS0.make (fun i _ => by simp [Ps.new]) hnx)
    clear hnx hS0 HN
    go_wp2_with fail
    refine HMK.out.mono ?_
    rintro e w3 ⟨rfl, hS1, _⟩
    have HA1 := Lib.hid (one_piece w3 pb bb tb d.size F0 hS1 hn hn2)
    clear hS1 HMK
    go_wp2_with fail
    refine HA1.out.mono ?_
    rintro e w4 ⟨rfl, S1, F1, hP1, hM1⟩
    have hA4 := HAt.new w4 0 1 0 d.size
    have hF4 := hP1.st.at_.outNew
    have HA2 := Lib.hid (two_pieces _ pb d.size (hP1.alloc (.cells #[.int .i64 0, .int .i64 1, .int .i64 0, .int .i64 (d.size : Int)] 41)) hn hn2)
    have HAA := Lib.hid (And.intro hA4 hF4)
    clear hP1 hM1 HA1 hA4 hF4
    go_wp2_with fail
    refine HA2.out.mono ?_
    rintro e w5 ⟨rfl, S2, F2, hP2, hM2⟩
    have hPS := hP2.pst (HAA.out.1.moves hM2 HAA.out.2) (hM2.out HAA.out.1.lt HAA.out.2)
    have HPS := Lib.hid hPS
    clear HA2 hP2 hM2 hPS HAA
    generalize koOf d.size = ko at *
    cases a2
    · go_wp2_with fail
      go_region
      go_wp2_with fail
      have hF5 : ¬ F2 (w5.heap.size + 1) := fun hf => by have := HPS.out.st.at_.fl _ hf; simp at this
      have Q0 := Lib.hid (PQ.new (w5.alloc (.cells #[.int .i64 0, .int .i64 1, .int .i64 (ko : Int), .int .i64 (d.size : Int)] 41)) F2 dt dr 9 (by simpa using hF5))
      have P0 := Lib.hid (HPS.out.grew (Grew.alloc _ (.cells #[.string dt, .string dr] 9)))
      rw [hcv]
      generalize ((w5.alloc (.cells #[.int .i64 0, .int .i64 1, .int .i64 (ko : Int), .int .i64 (d.size : Int)] 41)).alloc (.cells #[.string dt, .string dr] 9)) = wv at *
      rw [show (w5.alloc (.cells #[.int .i64 0, .int .i64 1, .int .i64 (ko : Int), .int .i64 (d.size : Int)] 41)).heap.size = w5.heap.size + 1 by simp] at Q0
      have P0d := Lib.hid (P0.out.grew ((Below.refl _ wv).drew))
      have Q0d := Lib.hid (Q0.out.grew ((Below.refl _ wv).drew))
      clear P0 Q0
      have HCASE : CaseOf (natsOf d) (natsOf dt) (natsOf dr) c 0 c := .inl ⟨rfl, rfl, HT.out, HD.out⟩
      have h1l : 0 + (natsOf dt).length ≤ d.size := by rw [natsOf_length, HL1.out]; omega
      have h2l : c + (natsOf dr).length ≤ d.size := by rw [natsOf_length, HL2.out]; omega
      generalize w5.heap.size + 1 = q at *
      generalize wv.drew = wd at *
      have h3l : (natsOf d).length ≤ d.size := by rw [natsOf_length]; exact Nat.le_refl _
      obtain ⟨v1, x1, r1, d1, g1⟩ := conv_new wd.drew dt
      have R1 := Lib.hid d1
      have P1a := Lib.hid ((P0d.out.grew ((Below.refl _ wd).drew)).grew g1)
      have Q1b := Lib.hid ((Q0d.out.grew ((Below.refl _ wd).drew)).grew g1)
      clear d1 g1
      refine wp_region_held_drew (S := fun w' => HAt w' w4.heap.size 0 1 0 d.size ∧ HAt w' w5.heap.size 0 1 ko d.size ∧ w'.cell? ⟨q, 0, none⟩ = some (.string dt) ∧ w'.cell? ⟨q, 1, none⟩ = some (.string dr)) (by kernel_rfl) ⟨(P0d.out.grew ((Below.refl _ wd).drew)).hA, (P0d.out.grew ((Below.refl _ wd).drew)).hK, (Q0d.out.grew ((Below.refl _ wd).drew)).c0, (Q0d.out.grew ((Below.refl _ wd).drew)).c1⟩ (fun hHeld => ?_)
      refine wpAnyH_take (i := 0) (v := ?_) rfl (by kernel_rfl) (by kernel_rfl) (by kernel_rfl) (fun _ _ _ h => h) (Or.inl ⟨by rfl, ?_⟩) hHeld ?_
      rotate_left
      · (intro wx hSw; obtain ⟨hSa, hSk, hs0, hs1⟩ := hSw; have e0 := hSa.c0; have e1 := hSa.c1; have e2 := hSa.c2; have e3 := hSa.c3; have k0 := hSk.c0; have k1 := hSk.c1; have k2 := hSk.c2; have k3 := hSk.c3; clear hSa hSk; first | (go_simp; done) | (go_simp; with_reducible rfl))
      simp only [Act.put, List.getElem_toArray, List.getElem_cons_zero, List.setIfInBounds_toArray, List.set_cons_zero, List.set_cons_succ]
      refine wpAnyH_take (i := 1) (v := ?_) rfl (by kernel_rfl) (by kernel_rfl) (by kernel_rfl) (fun _ _ _ h => h) (Or.inl ⟨by rfl, ?_⟩) hHeld ?_
      rotate_left
      · (intro wx hSw; obtain ⟨hSa, hSk, hs0, hs1⟩ := hSw; have e0 := hSa.c0; have e1 := hSa.c1; have e2 := hSa.c2; have e3 := hSa.c3; have k0 := hSk.c0; have k1 := hSk.c1; have k2 := hSk.c2; have k3 := hSk.c3; clear hSa hSk; first | (go_simp; done) | (go_simp; with_reducible rfl))
      simp only [Act.put, List.getElem_toArray, List.getElem_cons_zero, List.getElem_cons_succ, List.setIfInBounds_toArray, List.set_cons_zero, List.set_cons_succ]
      refine wpAnyH_take (i := 2) (v := ?_) rfl (by kernel_rfl) (by kernel_rfl) (by kernel_rfl) (fun _ _ _ h => h) (Or.inl ⟨by rfl, ?_⟩) hHeld ?_
      rotate_left
      · (intro wx hSw; obtain ⟨hSa, hSk, hs0, hs1⟩ := hSw; have e0 := hSa.c0; have e1 := hSa.c1; have e2 := hSa.c2; have e3 := hSa.c3; have k0 := hSk.c0; have k1 := hSk.c1; have k2 := hSk.c2; have k3 := hSk.c3; clear hSa hSk; first | (go_simp; done) | (go_simp; with_reducible rfl))
      simp only [Act.put, List.getElem_toArray, List.getElem_cons_zero, List.getElem_cons_succ, List.setIfInBounds_toArray, List.set_cons_zero, List.set_cons_succ]
      refine wpAnyH_take (i := 3) (v := ?_) rfl (by kernel_rfl) (by kernel_rfl) (by kernel_rfl) (fun _ _ _ h => h) (Or.inl ⟨by rfl, ?_⟩) hHeld ?_
      rotate_left
      · (intro wx hSw; obtain ⟨hSa, hSk, hs0, hs1⟩ := hSw; have e0 := hSa.c0; have e1 := hSa.c1; have e2 := hSa.c2; have e3 := hSa.c3; have k0 := hSk.c0; have k1 := hSk.c1; have k2 := hSk.c2; have k3 := hSk.c3; clear hSa hSk; first | (go_simp; done) | (go_simp; with_reducible rfl))
      simp only [Act.put, List.getElem_toArray, List.getElem_cons_zero, List.getElem_cons_succ, List.setIfInBounds_toArray, List.set_cons_zero, List.set_cons_succ]
      refine wpAnyH_take (i := 4) (v := ?_) rfl (by kernel_rfl) (by kernel_rfl) (by kernel_rfl) (fun _ _ _ h => h) (Or.inl ⟨by rfl, ?_⟩) hHeld ?_
      rotate_left
      · (intro wx hSw; obtain ⟨hSa, hSk, hs0, hs1⟩ := hSw; have e0 := hSa.c0; have e1 := hSa.c1; have e2 := hSa.c2; have e3 := hSa.c3; have k0 := hSk.c0; have k1 := hSk.c1; have k2 := hSk.c2; have k3 := hSk.c3; clear hSa hSk; first | (go_simp; done) | (go_simp; with_reducible rfl))
      simp only [Act.put, List.getElem_toArray, List.getElem_cons_zero, List.getElem_cons_succ, List.setIfInBounds_toArray, List.set_cons_zero, List.set_cons_succ]
      refine wpAnyH_take (i := 5) (v := ?_) rfl (by kernel_rfl) (by kernel_rfl) (by kernel_rfl) (fun _ _ _ h => h) (Or.inl ⟨by rfl, ?_⟩) hHeld ?_
      rotate_left
      · (intro wx hSw; obtain ⟨hSa, hSk, hs0, hs1⟩ := hSw; have e0 := hSa.c0; have e1 := hSa.c1; have e2 := hSa.c2; have e3 := hSa.c3; have k0 := hSk.c0; have k1 := hSk.c1; have k2 := hSk.c2; have k3 := hSk.c3; clear hSa hSk; first | (go_simp; done) | (go_simp; with_reducible rfl))
      simp only [Act.put, List.getElem_toArray, List.getElem_cons_zero, List.getElem_cons_succ, List.setIfInBounds_toArray, List.set_cons_zero, List.set_cons_succ]
      refine wpAnyH_ready (rs := [6]) (by kernel_rfl) (by simp) ?_
      refine AllReadyH.cons rfl (fun K hK => ?_) AllReadyH.nil
      go_simp
      refine hK.out _ _ ⟨P1a.out.hA, P1a.out.hK, Q1b.out.c0, Q1b.out.c1⟩ (fun hHeld => ?_)
      clear hK K
      try simp only [Act.put, List.setIfInBounds_toArray, List.set_cons_zero, List.set_cons_succ]
      refine wpAnyH_ready (rs := [7]) (by kernel_rfl) (by simp) ?_
      refine AllReadyH.cons rfl (fun K hK => ?_) AllReadyH.nil
      go_simp
      refine (P1a.out.store0 hn hn2 R1.out (natsOf_byte dt) h1l).mono ?_
      rintro e x2 ⟨rfl, hP1, hM1⟩
      have P1 := Lib.hid hP1
      have Q1 := Lib.hid (PQ.moves Q1b.out hM1)
      clear hP1 hM1
      try go_wp2_with fail
      refine hK.out _ _ ⟨P1.out.hA, P1.out.hK, Q1.out.c0, Q1.out.c1⟩ (fun hHeld => ?_)
      clear hK K
      try simp only [Act.put, List.setIfInBounds_toArray, List.set_cons_zero, List.set_cons_succ]
      obtain ⟨v2, y2, r2, d2, g2⟩ := conv_new x2 dr
      have R2 := Lib.hid d2
      have P2a := Lib.hid (P1.out.grew g2)
      have Q2b := Lib.hid (Q1.out.grew g2)
      clear d2 g2
      refine wpAnyH_take (i := 8) (v := ?_) rfl (by kernel_rfl) (by kernel_rfl) (by kernel_rfl) (fun _ _ _ h => h) (Or.inl ⟨by rfl, ?_⟩) hHeld ?_
      rotate_left
      · (intro wx hSw; obtain ⟨hSa, hSk, hs0, hs1⟩ := hSw; have e0 := hSa.c0; have e1 := hSa.c1; have e2 := hSa.c2; have e3 := hSa.c3; have k0 := hSk.c0; have k1 := hSk.c1; have k2 := hSk.c2; have k3 := hSk.c3; clear hSa hSk; first | (go_simp; done) | (go_simp; with_reducible rfl))
      simp only [Act.put, List.getElem_toArray, List.getElem_cons_zero, List.getElem_cons_succ, List.setIfInBounds_toArray, List.set_cons_zero, List.set_cons_succ]
      refine wpAnyH_take (i := 9) (v := ?_) rfl (by kernel_rfl) (by kernel_rfl) (by kernel_rfl) (fun _ _ _ h => h) (Or.inl ⟨by rfl, ?_⟩) hHeld ?_
      rotate_left
      · (intro wx hSw; obtain ⟨hSa, hSk, hs0, hs1⟩ := hSw; have e0 := hSa.c0; have e1 := hSa.c1; have e2 := hSa.c2; have e3 := hSa.c3; have k0 := hSk.c0; have k1 := hSk.c1; have k2 := hSk.c2; have k3 := hSk.c3; clear hSa hSk; first | (go_simp; done) | (go_simp; with_reducible rfl))
      simp only [Act.put, List.getElem_toArray, List.getElem_cons_zero, List.getElem_cons_succ, List.setIfInBounds_toArray, List.set_cons_zero, List.set_cons_succ]
      refine wpAnyH_take (i := 10) (v := ?_) rfl (by kernel_rfl) (by kernel_rfl) (by kernel_rfl) (fun _ _ _ h => h) (Or.inl ⟨by rfl, ?_⟩) hHeld ?_
      rotate_left
      · (intro wx hSw; obtain ⟨hSa, hSk, hs0, hs1⟩ := hSw; have e0 := hSa.c0; have e1 := hSa.c1; have e2 := hSa.c2; have e3 := hSa.c3; have k0 := hSk.c0; have k1 := hSk.c1; have k2 := hSk.c2; have k3 := hSk.c3; clear hSa hSk; first | (go_simp; done) | (go_simp; with_reducible rfl))
      simp only [Act.put, List.getElem_toArray, List.getElem_cons_zero, List.getElem_cons_succ, List.setIfInBounds_toArray, List.set_cons_zero, List.set_cons_succ]
      refine wpAnyH_take (i := 11) (v := ?_) rfl (by kernel_rfl) (by kernel_rfl) (by kernel_rfl) (fun _ _ _ h => h) (Or.inl ⟨by rfl, ?_⟩) hHeld ?_
      rotate_left
      · (intro wx hSw; obtain ⟨hSa, hSk, hs0, hs1⟩ := hSw; have e0 := hSa.c0; have e1 := hSa.c1; have e2 := hSa.c2; have e3 := hSa.c3; have k0 := hSk.c0; have k1 := hSk.c1; have k2 := hSk.c2; have k3 := hSk.c3; clear hSa hSk; first | (go_simp; done) | (go_simp; with_reducible rfl))
      simp only [Act.put, List.getElem_toArray, List.getElem_cons_zero, List.getElem_cons_succ, List.setIfInBounds_toArray, List.set_cons_zero, List.set_cons_succ]
      refine wpAnyH_take (i := 12) (v := ?_) rfl (by kernel_rfl) (by kernel_rfl) (by kernel_rfl) (fun _ _ _ h => h) (Or.inl ⟨by rfl, ?_⟩) hHeld ?_
      rotate_left
      · (intro wx hSw; obtain ⟨hSa, hSk, hs0, hs1⟩ := hSw; have e0 := hSa.c0; have e1 := hSa.c1; have e2 := hSa.c2; have e3 := hSa.c3; have k0 := hSk.c0; have k1 := hSk.c1; have k2 := hSk.c2; have k3 := hSk.c3; clear hSa hSk; first | (go_simp; done) | (go_simp; with_reducible rfl))
      simp only [Act.put, List.getElem_toArray, List.getElem_cons_zero, List.getElem_cons_succ, List.setIfInBounds_toArray, List.set_cons_zero, List.set_cons_succ]
      refine wpAnyH_take (i := 13) (v := ?_) rfl (by kernel_rfl) (by kernel_rfl) (by kernel_rfl) (fun _ _ _ h => h) (Or.inl ⟨by rfl, ?_⟩) hHeld ?_
      rotate_left
      · (intro wx hSw; obtain ⟨hSa, hSk, hs0, hs1⟩ := hSw; have e0 := hSa.c0; have e1 := hSa.c1; have e2 := hSa.c2; have e3 := hSa.c3; have k0 := hSk.c0; have k1 := hSk.c1; have k2 := hSk.c2; have k3 := hSk.c3; clear hSa hSk; first | (go_simp; done) | (go_simp; with_reducible rfl))
      simp only [Act.put, List.getElem_toArray, List.getElem_cons_zero, List.getElem_cons_succ, List.setIfInBounds_toArray, List.set_cons_zero, List.set_cons_succ]
      refine wpAnyH_take (i := 14) (v := ?_) rfl (by kernel_rfl) (by kernel_rfl) (by kernel_rfl) (fun _ _ _ h => h) (Or.inl ⟨by rfl, ?_⟩) hHeld ?_
      rotate_left
      · (intro wx hSw; obtain ⟨hSa, hSk, hs0, hs1⟩ := hSw; have e0 := hSa.c0; have e1 := hSa.c1; have e2 := hSa.c2; have e3 := hSa.c3; have k0 := hSk.c0; have k1 := hSk.c1; have k2 := hSk.c2; have k3 := hSk.c3; clear hSa hSk; first | (go_simp; done) | (go_simp; with_reducible rfl))
      simp only [Act.put, List.getElem_toArray, List.getElem_cons_zero, List.getElem_cons_succ, List.setIfInBounds_toArray, List.set_cons_zero, List.set_cons_succ]
      refine wpAnyH_take (i := 15) (v := ?_) rfl (by kernel_rfl) (by kernel_rfl) (by kernel_rfl) (fun _ _ _ h => h) (Or.inl ⟨by rfl, ?_⟩) hHeld ?_
      rotate_left
      · (intro wx hSw; obtain ⟨hSa, hSk, hs0, hs1⟩ := hSw; have e0 := hSa.c0; have e1 := hSa.c1; have e2 := hSa.c2; have e3 := hSa.c3; have k0 := hSk.c0; have k1 := hSk.c1; have k2 := hSk.c2; have k3 := hSk.c3; clear hSa hSk; first | (go_simp; done) | (go_simp; with_reducible rfl))
      simp only [Act.put, List.getElem_toArray, List.getElem_cons_zero, List.getElem_cons_succ, List.setIfInBounds_toArray, List.set_cons_zero, List.set_cons_succ]
      refine wpAnyH_ready (rs := [16]) (by kernel_rfl) (by simp) ?_
      refine AllReadyH.cons rfl (fun K hK => ?_) AllReadyH.nil
      go_simp
      refine hK.out _ _ ⟨P2a.out.hA, P2a.out.hK, Q2b.out.c0, Q2b.out.c1⟩ (fun hHeld => ?_)
      clear hK K
      try simp only [Act.put, List.setIfInBounds_toArray, List.set_cons_zero, List.set_cons_succ]
      refine wpAnyH_ready (rs := [17]) (by kernel_rfl) (by simp) ?_
      refine AllReadyH.cons rfl (fun K hK => ?_) AllReadyH.nil
      go_simp
      refine (P2a.out.store0 hn hn2 R2.out (natsOf_byte dr) h2l).mono ?_
      rintro e x3 ⟨rfl, hP2, hM2⟩
      have P2 := Lib.hid hP2
      have Q2 := Lib.hid (PQ.moves Q2b.out hM2)
      clear hP2 hM2
      try go_wp2_with fail
      refine hK.out _ _ ⟨P2.out.hA, P2.out.hK, Q2.out.c0, Q2.out.c1⟩ (fun hHeld => ?_)
      clear hK K
      try simp only [Act.put, List.setIfInBounds_toArray, List.set_cons_zero, List.set_cons_succ]
      obtain ⟨v3, y3, r3, d3, g3⟩ := conv_new x3 d
      have R3 := Lib.hid d3
      have P3a := Lib.hid (P2.out.grew g3)
      have Q3b := Lib.hid (Q2.out.grew g3)
      clear d3 g3
      refine wpAnyH_take (i := 18) (v := ?_) rfl (by kernel_rfl) (by kernel_rfl) (by kernel_rfl) (fun _ _ _ h => h) (Or.inl ⟨by rfl, ?_⟩) hHeld ?_
      rotate_left
      · (intro wx hSw; obtain ⟨hSa, hSk, hs0, hs1⟩ := hSw; have e0 := hSa.c0; have e1 := hSa.c1; have e2 := hSa.c2; have e3 := hSa.c3; have k0 := hSk.c0; have k1 := hSk.c1; have k2 := hSk.c2; have k3 := hSk.c3; clear hSa hSk; first | (go_simp; done) | (go_simp; with_reducible rfl))
      simp only [Act.put, List.getElem_toArray, List.getElem_cons_zero, List.getElem_cons_succ, List.setIfInBounds_toArray, List.set_cons_zero, List.set_cons_succ]
      refine wpAnyH_take (i := 19) (v := ?_) rfl (by kernel_rfl) (by kernel_rfl) (by kernel_rfl) (fun _ _ _ h => h) (Or.inl ⟨by rfl, ?_⟩) hHeld ?_
      rotate_left
      · (intro wx hSw; obtain ⟨hSa, hSk, hs0, hs1⟩ := hSw; have e0 := hSa.c0; have e1 := hSa.c1; have e2 := hSa.c2; have e3 := hSa.c3; have k0 := hSk.c0; have k1 := hSk.c1; have k2 := hSk.c2; have k3 := hSk.c3; clear hSa hSk; first | (go_simp; done) | (go_simp; with_reducible rfl))
      simp only [Act.put, List.getElem_toArray, List.getElem_cons_zero, List.getElem_cons_succ, List.setIfInBounds_toArray, List.set_cons_zero, List.set_cons_succ]
      refine wpAnyH_take (i := 20) (v := ?_) rfl (by kernel_rfl) (by kernel_rfl) (by kernel_rfl) (fun _ _ _ h => h) (Or.inl ⟨by rfl, ?_⟩) hHeld ?_
      rotate_left
      · (intro wx hSw; obtain ⟨hSa, hSk, hs0, hs1⟩ := hSw; have e0 := hSa.c0; have e1 := hSa.c1; have e2 := hSa.c2; have e3 := hSa.c3; have k0 := hSk.c0; have k1 := hSk.c1; have k2 := hSk.c2; have k3 := hSk.c3; clear hSa hSk; first | (go_simp; done) | (go_simp; with_reducible rfl))
      simp only [Act.put, List.getElem_toArray, List.getElem_cons_zero, List.getElem_cons_succ, List.setIfInBounds_toArray, List.set_cons_zero, List.set_cons_succ]
      refine wpAnyH_take (i := 21) (v := ?_) rfl (by kernel_rfl) (by kernel_rfl) (by kernel_rfl) (fun _ _ _ h => h) (Or.inl ⟨by rfl, ?_⟩) hHeld ?_
      rotate_left
      · (intro wx hSw; obtain ⟨hSa, hSk, hs0, hs1⟩ := hSw; have e0 := hSa.c0; have e1 := hSa.c1; have e2 := hSa.c2; have e3 := hSa.c3; have k0 := hSk.c0; have k1 := hSk.c1; have k2 := hSk.c2; have k3 := hSk.c3; clear hSa hSk; first | (go_simp; done) | (go_simp; with_reducible rfl))
      simp only [Act.put, List.getElem_toArray, List.getElem_cons_zero, List.getElem_cons_succ, List.setIfInBounds_toArray, List.set_cons_zero, List.set_cons_succ]
      refine wpAnyH_take (i := 22) (v := ?_) rfl (by kernel_rfl) (by kernel_rfl) (by kernel_rfl) (fun _ _ _ h => h) (Or.inl ⟨by rfl, ?_⟩) hHeld ?_
      rotate_left
      · (intro wx hSw; obtain ⟨hSa, hSk, hs0, hs1⟩ := hSw; have e0 := hSa.c0; have e1 := hSa.c1; have e2 := hSa.c2; have e3 := hSa.c3; have k0 := hSk.c0; have k1 := hSk.c1; have k2 := hSk.c2; have k3 := hSk.c3; clear hSa hSk; first | (go_simp; done) | (go_simp; with_reducible rfl))
      simp only [Act.put, List.getElem_toArray, List.getElem_cons_zero, List.getElem_cons_succ, List.setIfInBounds_toArray, List.set_cons_zero, List.set_cons_succ]
      refine wpAnyH_take (i := 23) (v := ?_) rfl (by kernel_rfl) (by kernel_rfl) (by kernel_rfl) (fun _ _ _ h => h) (Or.inl ⟨by rfl, ?_⟩) hHeld ?_
      rotate_left
      · (intro wx hSw; obtain ⟨hSa, hSk, hs0, hs1⟩ := hSw; have e0 := hSa.c0; have e1 := hSa.c1; have e2 := hSa.c2; have e3 := hSa.c3; have k0 := hSk.c0; have k1 := hSk.c1; have k2 := hSk.c2; have k3 := hSk.c3; clear hSa hSk; first | (go_simp; done) | (go_simp; with_reducible rfl))
      simp only [Act.put, List.getElem_toArray, List.getElem_cons_zero, List.getElem_cons_succ, List.setIfInBounds_toArray, List.set_cons_zero, List.set_cons_succ]
      refine wpAnyH_ready (rs := [24]) (by kernel_rfl) (by simp) ?_
      refine AllReadyH.cons rfl (fun K hK => ?_) AllReadyH.nil
      go_simp
      refine hK.out _ _ ⟨P3a.out.hA, P3a.out.hK, Q3b.out.c0, Q3b.out.c1⟩ (fun hHeld => ?_)
      clear hK K
      try simp only [Act.put, List.setIfInBounds_toArray, List.set_cons_zero, List.set_cons_succ]
      refine wpAnyH_ready (rs := [25]) (by kernel_rfl) (by simp) ?_
      refine AllReadyH.cons rfl (fun K hK => ?_) AllReadyH.nil
      go_simp
      refine (P3a.out.storeK hn hk2 R3.out (natsOf_byte d) h3l).mono ?_
      rintro e x4 ⟨rfl, hP3, hM3⟩
      have P3 := Lib.hid hP3
      have Q3 := Lib.hid (PQ.moves Q3b.out hM3)
      clear hP3 hM3
      try go_wp2_with fail
      refine hK.out _ _ ⟨P3.out.hA, P3.out.hK, Q3.out.c0, Q3.out.c1⟩ (fun hHeld => ?_)
      clear hK K
      try simp only [Act.put, List.setIfInBounds_toArray, List.set_cons_zero, List.set_cons_succ]
      refine wpAnyH_take (i := 26) (v := ?_) rfl (by kernel_rfl) (by kernel_rfl) (by kernel_rfl) (fun _ _ _ h => h) (Or.inl ⟨by rfl, ?_⟩) hHeld ?_
      rotate_left
      · (intro wx hSw; obtain ⟨hSa, hSk, hs0, hs1⟩ := hSw; have e0 := hSa.c0; have e1 := hSa.c1; have e2 := hSa.c2; have e3 := hSa.c3; have k0 := hSk.c0; have k1 := hSk.c1; have k2 := hSk.c2; have k3 := hSk.c3; clear hSa hSk; first | (go_simp; done) | (go_simp; with_reducible rfl))
      simp only [Act.put, List.getElem_toArray, List.getElem_cons_zero, List.getElem_cons_succ, List.setIfInBounds_toArray, List.set_cons_zero, List.set_cons_succ]
      refine wpAnyH_take (i := 27) (v := ?_) rfl (by kernel_rfl) (by kernel_rfl) (by kernel_rfl) (fun _ _ _ h => h) (Or.inl ⟨by rfl, ?_⟩) hHeld ?_
      rotate_left
      · (intro wx hSw; obtain ⟨hSa, hSk, hs0, hs1⟩ := hSw; have e0 := hSa.c0; have e1 := hSa.c1; have e2 := hSa.c2; have e3 := hSa.c3; have k0 := hSk.c0; have k1 := hSk.c1; have k2 := hSk.c2; have k3 := hSk.c3; clear hSa hSk; first | (go_simp; done) | (go_simp; with_reducible rfl))
      simp only [Act.put, List.getElem_toArray, List.getElem_cons_zero, List.getElem_cons_succ, List.setIfInBounds_toArray, List.set_cons_zero, List.set_cons_succ]
      refine wpAnyH_done (by kernel_rfl) ?_ _
      have hbt := fun k => bytes_three S2.bt (natsOf d) d.size c ko 0 c (natsOf dt) (natsOf dr) (natsOf_length d) hc hk1 HCASE k
      have HB0 : Hid ((((S2.stored 0 (natsOf dt)).stored c (natsOf dr)).stored ko (natsOf d)).bytesAt 0 d.size = natsOf d) := Lib.hid (by
        have := bytesAt_is (((S2.stored 0 (natsOf dt)).stored c (natsOf dr)).stored ko (natsOf d)) (natsOf d) 0 (fun k hk => by
          rw [natsOf_length] at hk
          rw [Nat.zero_add]; exact (hbt k).1 hk)
        rwa [natsOf_length] at this)
      have HBK : Hid ((((S2.stored 0 (natsOf dt)).stored c (natsOf dr)).stored ko (natsOf d)).bytesAt ko d.size = natsOf d) := Lib.hid (by
        have := bytesAt_is (((S2.stored 0 (natsOf dt)).stored c (natsOf dr)).stored ko (natsOf d)) (natsOf d) ko (fun k hk => by
          rw [natsOf_length] at hk
          have := (hbt (ko + k)).2 (by omega) (by omega)
          rwa [show ko + k - ko = k by omega] at this)
        rwa [natsOf_length] at this)
      clear hbt HCASE h1l h2l h3l
      generalize ((S2.stored 0 (natsOf dt)).stored c (natsOf dr)).stored ko (natsOf d) = S3 at *
      have BX : Hid (Grew w x4) := Lib.hid (B1.out.then P3.out.st.below)
      have e0 := P3.out.hA.c0
      have e1 := P3.out.hA.c1
      have e2 := P3.out.hA.c2
      have e3 := P3.out.hA.c3
      have HLD : Hid (Calls Try.prog 20 #[.pointer (some ⟨pb, 0, none⟩), Hv 0 1 0 d.size] x4 fun e w' => ∃ v, e = .returned (.tuple #[v, .int .i64 0]) ∧ FreshRow 5 x4 v (u8s (natsOf d)) w') := Lib.hid (by
        have := P3.out.load0 hn hn2
        rwa [HB0.out] at this)
      clear P1 Q1 P2 Q2 P1a Q1b P2a Q2b P3a Q3b Q3 R1 R2 R3 r1 r2 r3 hHeld P0d Q0d
      go_wp2_with fail
      refine HLD.out.mono ?_
      rintro e x5 ⟨va, rfl, fa⟩
      obtain ⟨ga, ca, rfl, -, rda, gra⟩ := fresh_open fa
      have P4 := Lib.hid (P3.out.grew gra)
      have RA := Lib.hid rda
      have BX5 := Lib.hid (BX.out.then gra)
      have e0 := P4.out.hK.c0
      have e1 := P4.out.hK.c1
      have e2 := P4.out.hK.c2
      have e3 := P4.out.hK.c3
      have HLK : Hid (Calls Try.prog 20 #[.pointer (some ⟨pb, 0, none⟩), Hv 0 1 ko d.size] x5 fun e w' => ∃ v, e = .returned (.tuple #[v, .int .i64 0]) ∧ FreshRow 5 x5 v (u8s (natsOf d)) w') := Lib.hid (by
        have := P4.out.loadK hn hk2
        rwa [HBK.out] at this)
      clear fa rda gra HLD P3 BX
      go_wp2_with fail
      refine HLK.out.mono ?_
      rintro e x6 ⟨vb, rfl, fb⟩
      obtain ⟨gb, cb, rfl, -, rdb, grb⟩ := fresh_open fb
      have P5 := Lib.hid (P4.out.grew grb)
      have RA6 := Lib.hid (RA.out.grew grb)
      have RB := Lib.hid rdb
      have BX6 := Lib.hid (BX5.out.then grb)
      have HSL : Hid (Calls Try.prog 25 #[.pointer (some ⟨pb, 0, none⟩), .int .i64 0] x6 fun e w' => ∃ v, e = .returned (.tuple #[v, .int .i64 0]) ∧ FreshOr 3 x6 v (i64s (S3.sl 0)) w') := Lib.hid (by
        have := slabs_ok P5.out.st.at_ P5.out.st.ok (i := 0) (by omega) P5.out.lv
        rwa [P5.out.pb] at this)
      clear fb rdb grb HLK P4 BX5 RA e0 e1 e2 e3
      go_wp2_with fail
      refine HSL.out.mono ?_
      rintro e x7 ⟨vs, rfl, fs⟩
      obtain ⟨gs, cs, ls, rfl, hls, cell0, grs⟩ := slabs_open fs P5.out.s0 P5.out.sn
      have P6 := Lib.hid (P5.out.grew grs)
      have BX7 := Lib.hid (BX6.out.then grs)
      have hda : (convert 49 9 (.slice (some ⟨ga, 0, none⟩) (natsOf d).length ca)).run Try.prog x7 = .ok (.string d) x7 := by
        have := conv_reads (RA6.out.grew grs) (natsOf_byte d) (by rw [natsOf_length]; exact hn)
        rwa [text_nats] at this
      have hdb : (convert 49 9 (.slice (some ⟨gb, 0, none⟩) (natsOf d).length cb)).run Try.prog x7 = .ok (.string d) x7 := by
        have := conv_reads (RB.out.grew grs) (natsOf_byte d) (by rw [natsOf_length]; exact hn)
        rwa [text_nats] at this
      have hdd : (d.toList != d.toList) = false := by simp
      have hde : (d.toList == d.toList) = true := by simp
      have e2 := P6.out.hA.c2
      have HRW : Hid (Calls Try.prog 28 #[.pointer (some ⟨pb, 0, none⟩), .int .i64 0] x7 fun e w' => ∃ v, e = .returned (.tuple #[v, .int .i64 0]) ∧ FreshRow 5 x7 v (u8s (S3.bytesAt 0 128)) w') := Lib.hid (by
        have := raw_ok P6.out.st.at_ P6.out.st.ok (j := 0) (by rw [P6.out.nn]; omega)
        rwa [P6.out.pb, P6.out.sz, Nat.zero_mul] at this)
      clear fs grs HSL P5 RA6 RB BX6
      generalize (natsOf d).length = nl at *
      go_wp2_with fail
      refine HRW.out.mono ?_
      rintro e x8 ⟨vr, rfl, fr⟩
      obtain ⟨gr, cr, rfl, hcr, rdr, grr⟩ := fresh_open fr
      have e2 := (P6.out.grew grr).hA.c2
      have e3 := (P6.out.grew grr).hA.c3
      have hl128 : (S3.bytesAt 0 128).length = 128 := by simp [Ps.bytesAt]
      rw [hl128] at hcr rdr ⊢
      have hct := run_cut x8 gr 128 cr d.size (by omega)
      have hdr : (convert 49 9 (.slice (some ⟨gr, 0, none⟩) d.size cr)).run Try.prog x8 = .ok (.string d) x8 := by
        have h1 := ReadsB.cut rdr hl128 hn2
        rw [bytes_take S3 128 d.size hn2, HB0.out] at h1
        have := conv_reads h1 (natsOf_byte d) (by rw [natsOf_length]; exact hn)
        rwa [text_nats] at this
      have BX8 := Lib.hid (BX7.out.then grr)
      clear fr rdr grr HRW P6 hl128 BX7 hda hdb
      go_wp2
      go_ret
      exact ⟨rfl, BX8.out⟩
    · go_wp2_with fail
      go_region
      go_wp2_with fail
      go_region
      go_wp2_with fail
      have hF5 : ¬ F2 (w5.heap.size + 1 + 1) := fun hf => by have := HPS.out.st.at_.fl _ hf; simp at this; omega
      have Q0 := Lib.hid (PQ.new ((w5.alloc (.cells #[.int .i64 0, .int .i64 1, .int .i64 (ko : Int), .int .i64 (d.size : Int)] 41)).alloc (.cells #[.string dt, .string dr] 9)) F2 dr dt 9 (by simpa using hF5))
      have P0 := Lib.hid ((HPS.out.grew (Grew.alloc _ (.cells #[.string dt, .string dr] 9))).grew (Grew.alloc _ (.cells #[.string dr, .string dt] 9)))
      rw [hcv]
      generalize (((w5.alloc (.cells #[.int .i64 0, .int .i64 1, .int .i64 (ko : Int), .int .i64 (d.size : Int)] 41)).alloc (.cells #[.string dt, .string dr] 9)).alloc (.cells #[.string dr, .string dt] 9)) = wv at *
      rw [show ((w5.alloc (.cells #[.int .i64 0, .int .i64 1, .int .i64 (ko : Int), .int .i64 (d.size : Int)] 41)).alloc (.cells #[.string dt, .string dr] 9)).heap.size = w5.heap.size + 1 + 1 by simp] at Q0
      have P0d := Lib.hid ((P0.out.grew ((Below.refl _ wv).drew)).grew ((Below.refl _ wv.drew).drew))
      have Q0d := Lib.hid ((Q0.out.grew ((Below.refl _ wv).drew)).grew ((Below.refl _ wv.drew).drew))
      clear P0 Q0
      have HCASE : CaseOf (natsOf d) (natsOf dr) (natsOf dt) c c 0 := .inr ⟨rfl, rfl, HD.out, HT.out⟩
      have h1l : c + (natsOf dr).length ≤ d.size := by rw [natsOf_length, HL2.out]; omega
      have h2l : 0 + (natsOf dt).length ≤ d.size := by rw [natsOf_length, HL1.out]; omega
      generalize w5.heap.size + 1 + 1 = q at *
      generalize wv.drew.drew = wd at *
      have h3l : (natsOf d).length ≤ d.size := by rw [natsOf_length]; exact Nat.le_refl _
      obtain ⟨v1, x1, r1, d1, g1⟩ := conv_new wd.drew dr
      have R1 := Lib.hid d1
      have P1a := Lib.hid ((P0d.out.grew ((Below.refl _ wd).drew)).grew g1)
      have Q1b := Lib.hid ((Q0d.out.grew ((Below.refl _ wd).drew)).grew g1)
      clear d1 g1
      refine wp_region_held_drew (S := fun w' => HAt w' w4.heap.size 0 1 0 d.size ∧ HAt w' w5.heap.size 0 1 ko d.size ∧ w'.cell? ⟨q, 0, none⟩ = some (.string dr) ∧ w'.cell? ⟨q, 1, none⟩ = some (.string dt)) (by kernel_rfl) ⟨(P0d.out.grew ((Below.refl _ wd).drew)).hA, (P0d.out.grew ((Below.refl _ wd).drew)).hK, (Q0d.out.grew ((Below.refl _ wd).drew)).c0, (Q0d.out.grew ((Below.refl _ wd).drew)).c1⟩ (fun hHeld => ?_)
      refine wpAnyH_take (i := 0) (v := ?_) rfl (by kernel_rfl) (by kernel_rfl) (by kernel_rfl) (fun _ _ _ h => h) (Or.inl ⟨by rfl, ?_⟩) hHeld ?_
      rotate_left
      · (intro wx hSw; obtain ⟨hSa, hSk, hs0, hs1⟩ := hSw; have e0 := hSa.c0; have e1 := hSa.c1; have e2 := hSa.c2; have e3 := hSa.c3; have k0 := hSk.c0; have k1 := hSk.c1; have k2 := hSk.c2; have k3 := hSk.c3; clear hSa hSk; first | (go_simp; done) | (go_simp; with_reducible rfl))
      simp only [Act.put, List.getElem_toArray, List.getElem_cons_zero, List.setIfInBounds_toArray, List.set_cons_zero, List.set_cons_succ]
      refine wpAnyH_take (i := 1) (v := ?_) rfl (by kernel_rfl) (by kernel_rfl) (by kernel_rfl) (fun _ _ _ h => h) (Or.inl ⟨by rfl, ?_⟩) hHeld ?_
      rotate_left
      · (intro wx hSw; obtain ⟨hSa, hSk, hs0, hs1⟩ := hSw; have e0 := hSa.c0; have e1 := hSa.c1; have e2 := hSa.c2; have e3 := hSa.c3; have k0 := hSk.c0; have k1 := hSk.c1; have k2 := hSk.c2; have k3 := hSk.c3; clear hSa hSk; first | (go_simp; done) | (go_simp; with_reducible rfl))
      simp only [Act.put, List.getElem_toArray, List.getElem_cons_zero, List.getElem_cons_succ, List.setIfInBounds_toArray, List.set_cons_zero, List.set_cons_succ]
      refine wpAnyH_take (i := 2) (v := ?_) rfl (by kernel_rfl) (by kernel_rfl) (by kernel_rfl) (fun _ _ _ h => h) (Or.inl ⟨by rfl, ?_⟩) hHeld ?_
      rotate_left
      · (intro wx hSw; obtain ⟨hSa, hSk, hs0, hs1⟩ := hSw; have e0 := hSa.c0; have e1 := hSa.c1; have e2 := hSa.c2; have e3 := hSa.c3; have k0 := hSk.c0; have k1 := hSk.c1; have k2 := hSk.c2; have k3 := hSk.c3; clear hSa hSk; first | (go_simp; done) | (go_simp; with_reducible rfl))
      simp only [Act.put, List.getElem_toArray, List.getElem_cons_zero, List.getElem_cons_succ, List.setIfInBounds_toArray, List.set_cons_zero, List.set_cons_succ]
      refine wpAnyH_take (i := 3) (v := ?_) rfl (by kernel_rfl) (by kernel_rfl) (by kernel_rfl) (fun _ _ _ h => h) (Or.inl ⟨by rfl, ?_⟩) hHeld ?_
      rotate_left
      · (intro wx hSw; obtain ⟨hSa, hSk, hs0, hs1⟩ := hSw; have e0 := hSa.c0; have e1 := hSa.c1; have e2 := hSa.c2; have e3 := hSa.c3; have k0 := hSk.c0; have k1 := hSk.c1; have k2 := hSk.c2; have k3 := hSk.c3; clear hSa hSk; first | (go_simp; done) | (go_simp; with_reducible rfl))
      simp only [Act.put, List.getElem_toArray, List.getElem_cons_zero, List.getElem_cons_succ, List.setIfInBounds_toArray, List.set_cons_zero, List.set_cons_succ]
      refine wpAnyH_take (i := 4) (v := ?_) rfl (by kernel_rfl) (by kernel_rfl) (by kernel_rfl) (fun _ _ _ h => h) (Or.inl ⟨by rfl, ?_⟩) hHeld ?_
      rotate_left
      · (intro wx hSw; obtain ⟨hSa, hSk, hs0, hs1⟩ := hSw; have e0 := hSa.c0; have e1 := hSa.c1; have e2 := hSa.c2; have e3 := hSa.c3; have k0 := hSk.c0; have k1 := hSk.c1; have k2 := hSk.c2; have k3 := hSk.c3; clear hSa hSk; first | (go_simp; done) | (go_simp; with_reducible rfl))
      simp only [Act.put, List.getElem_toArray, List.getElem_cons_zero, List.getElem_cons_succ, List.setIfInBounds_toArray, List.set_cons_zero, List.set_cons_succ]
      refine wpAnyH_take (i := 5) (v := ?_) rfl (by kernel_rfl) (by kernel_rfl) (by kernel_rfl) (fun _ _ _ h => h) (Or.inl ⟨by rfl, ?_⟩) hHeld ?_
      rotate_left
      · (intro wx hSw; obtain ⟨hSa, hSk, hs0, hs1⟩ := hSw; have e0 := hSa.c0; have e1 := hSa.c1; have e2 := hSa.c2; have e3 := hSa.c3; have k0 := hSk.c0; have k1 := hSk.c1; have k2 := hSk.c2; have k3 := hSk.c3; clear hSa hSk; first | (go_simp; done) | (go_simp; with_reducible rfl))
      simp only [Act.put, List.getElem_toArray, List.getElem_cons_zero, List.getElem_cons_succ, List.setIfInBounds_toArray, List.set_cons_zero, List.set_cons_succ]
      refine wpAnyH_ready (rs := [6]) (by kernel_rfl) (by simp) ?_
      refine AllReadyH.cons rfl (fun K hK => ?_) AllReadyH.nil
      go_simp
      refine hK.out _ _ ⟨P1a.out.hA, P1a.out.hK, Q1b.out.c0, Q1b.out.c1⟩ (fun hHeld => ?_)
      clear hK K
      try simp only [Act.put, List.setIfInBounds_toArray, List.set_cons_zero, List.set_cons_succ]
      refine wpAnyH_ready (rs := [7]) (by kernel_rfl) (by simp) ?_
      refine AllReadyH.cons rfl (fun K hK => ?_) AllReadyH.nil
      go_simp
      refine (P1a.out.store0 hn hn2 R1.out (natsOf_byte dr) h1l).mono ?_
      rintro e x2 ⟨rfl, hP1, hM1⟩
      have P1 := Lib.hid hP1
      have Q1 := Lib.hid (PQ.moves Q1b.out hM1)
      clear hP1 hM1
      try go_wp2_with fail
      refine hK.out _ _ ⟨P1.out.hA, P1.out.hK, Q1.out.c0, Q1.out.c1⟩ (fun hHeld => ?_)
      clear hK K
      try simp only [Act.put, List.setIfInBounds_toArray, List.set_cons_zero, List.set_cons_succ]
      obtain ⟨v2, y2, r2, d2, g2⟩ := conv_new x2 dt
      have R2 := Lib.hid d2
      have P2a := Lib.hid (P1.out.grew g2)
      have Q2b := Lib.hid (Q1.out.grew g2)
      clear d2 g2
      refine wpAnyH_take (i := 8) (v := ?_) rfl (by kernel_rfl) (by kernel_rfl) (by kernel_rfl) (fun _ _ _ h => h) (Or.inl ⟨by rfl, ?_⟩) hHeld ?_
      rotate_left
      · (intro wx hSw; obtain ⟨hSa, hSk, hs0, hs1⟩ := hSw; have e0 := hSa.c0; have e1 := hSa.c1; have e2 := hSa.c2; have e3 := hSa.c3; have k0 := hSk.c0; have k1 := hSk.c1; have k2 := hSk.c2; have k3 := hSk.c3; clear hSa hSk; first | (go_simp; done) | (go_simp; with_reducible rfl))
      simp only [Act.put, List.getElem_toArray, List.getElem_cons_zero, List.getElem_cons_succ, List.setIfInBounds_toArray, List.set_cons_zero, List.set_cons_succ]
      refine wpAnyH_take (i := 9) (v := ?_) rfl (by kernel_rfl) (by kernel_rfl) (by kernel_rfl) (fun _ _ _ h => h) (Or.inl ⟨by rfl, ?_⟩) hHeld ?_
      rotate_left
      · (intro wx hSw; obtain ⟨hSa, hSk, hs0, hs1⟩ := hSw; have e0 := hSa.c0; have e1 := hSa.c1; have e2 := hSa.c2; have e3 := hSa.c3; have k0 := hSk.c0; have k1 := hSk.c1; have k2 := hSk.c2; have k3 := hSk.c3; clear hSa hSk; first | (go_simp; done) | (go_simp; with_reducible rfl))
      simp only [Act.put, List.getElem_toArray, List.getElem_cons_zero, List.getElem_cons_succ, List.setIfInBounds_toArray, List.set_cons_zero, List.set_cons_succ]
      refine wpAnyH_take (i := 10) (v := ?_) rfl (by kernel_rfl) (by kernel_rfl) (by kernel_rfl) (fun _ _ _ h => h) (Or.inl ⟨by rfl, ?_⟩) hHeld ?_
      rotate_left
      · (intro wx hSw; obtain ⟨hSa, hSk, hs0, hs1⟩ := hSw; have e0 := hSa.c0; have e1 := hSa.c1; have e2 := hSa.c2; have e3 := hSa.c3; have k0 := hSk.c0; have k1 := hSk.c1; have k2 := hSk.c2; have k3 := hSk.c3; clear hSa hSk; first | (go_simp; done) | (go_simp; with_reducible rfl))
      simp only [Act.put, List.getElem_toArray, List.getElem_cons_zero, List.getElem_cons_succ, List.setIfInBounds_toArray, List.set_cons_zero, List.set_cons_succ]
      refine wpAnyH_take (i := 11) (v := ?_) rfl (by kernel_rfl) (by kernel_rfl) (by kernel_rfl) (fun _ _ _ h => h) (Or.inl ⟨by rfl, ?_⟩) hHeld ?_
      rotate_left
      · (intro wx hSw; obtain ⟨hSa, hSk, hs0, hs1⟩ := hSw; have e0 := hSa.c0; have e1 := hSa.c1; have e2 := hSa.c2; have e3 := hSa.c3; have k0 := hSk.c0; have k1 := hSk.c1; have k2 := hSk.c2; have k3 := hSk.c3; clear hSa hSk; first | (go_simp; done) | (go_simp; with_reducible rfl))
      simp only [Act.put, List.getElem_toArray, List.getElem_cons_zero, List.getElem_cons_succ, List.setIfInBounds_toArray, List.set_cons_zero, List.set_cons_succ]
      refine wpAnyH_take (i := 12) (v := ?_) rfl (by kernel_rfl) (by kernel_rfl) (by kernel_rfl) (fun _ _ _ h => h) (Or.inl ⟨by rfl, ?_⟩) hHeld ?_
      rotate_left
      · (intro wx hSw; obtain ⟨hSa, hSk, hs0, hs1⟩ := hSw; have e0 := hSa.c0; have e1 := hSa.c1; have e2 := hSa.c2; have e3 := hSa.c3; have k0 := hSk.c0; have k1 := hSk.c1; have k2 := hSk.c2; have k3 := hSk.c3; clear hSa hSk; first | (go_simp; done) | (go_simp; with_reducible rfl))
      simp only [Act.put, List.getElem_toArray, List.getElem_cons_zero, List.getElem_cons_succ, List.setIfInBounds_toArray, List.set_cons_zero, List.set_cons_succ]
      refine wpAnyH_take (i := 13) (v := ?_) rfl (by kernel_rfl) (by kernel_rfl) (by kernel_rfl) (fun _ _ _ h => h) (Or.inl ⟨by rfl, ?_⟩) hHeld ?_
      rotate_left
      · (intro wx hSw; obtain ⟨hSa, hSk, hs0, hs1⟩ := hSw; have e0 := hSa.c0; have e1 := hSa.c1; have e2 := hSa.c2; have e3 := hSa.c3; have k0 := hSk.c0; have k1 := hSk.c1; have k2 := hSk.c2; have k3 := hSk.c3; clear hSa hSk; first | (go_simp; done) | (go_simp; with_reducible rfl))
      simp only [Act.put, List.getElem_toArray, List.getElem_cons_zero, List.getElem_cons_succ, List.setIfInBounds_toArray, List.set_cons_zero, List.set_cons_succ]
      refine wpAnyH_take (i := 14) (v := ?_) rfl (by kernel_rfl) (by kernel_rfl) (by kernel_rfl) (fun _ _ _ h => h) (Or.inl ⟨by rfl, ?_⟩) hHeld ?_
      rotate_left
      · (intro wx hSw; obtain ⟨hSa, hSk, hs0, hs1⟩ := hSw; have e0 := hSa.c0; have e1 := hSa.c1; have e2 := hSa.c2; have e3 := hSa.c3; have k0 := hSk.c0; have k1 := hSk.c1; have k2 := hSk.c2; have k3 := hSk.c3; clear hSa hSk; first | (go_simp; done) | (go_simp; with_reducible rfl))
      simp only [Act.put, List.getElem_toArray, List.getElem_cons_zero, List.getElem_cons_succ, List.setIfInBounds_toArray, List.set_cons_zero, List.set_cons_succ]
      refine wpAnyH_take (i := 15) (v := ?_) rfl (by kernel_rfl) (by kernel_rfl) (by kernel_rfl) (fun _ _ _ h => h) (Or.inl ⟨by rfl, ?_⟩) hHeld ?_
      rotate_left
      · (intro wx hSw; obtain ⟨hSa, hSk, hs0, hs1⟩ := hSw; have e0 := hSa.c0; have e1 := hSa.c1; have e2 := hSa.c2; have e3 := hSa.c3; have k0 := hSk.c0; have k1 := hSk.c1; have k2 := hSk.c2; have k3 := hSk.c3; clear hSa hSk; first | (go_simp; done) | (go_simp; with_reducible rfl))
      simp only [Act.put, List.getElem_toArray, List.getElem_cons_zero, List.getElem_cons_succ, List.setIfInBounds_toArray, List.set_cons_zero, List.set_cons_succ]
      refine wpAnyH_ready (rs := [16]) (by kernel_rfl) (by simp) ?_
      refine AllReadyH.cons rfl (fun K hK => ?_) AllReadyH.nil
      go_simp
      refine hK.out _ _ ⟨P2a.out.hA, P2a.out.hK, Q2b.out.c0, Q2b.out.c1⟩ (fun hHeld => ?_)
      clear hK K
      try simp only [Act.put, List.setIfInBounds_toArray, List.set_cons_zero, List.set_cons_succ]
      refine wpAnyH_ready (rs := [17]) (by kernel_rfl) (by simp) ?_
      refine AllReadyH.cons rfl (fun K hK => ?_) AllReadyH.nil
      go_simp
      refine (P2a.out.store0 hn hn2 R2.out (natsOf_byte dt) h2l).mono ?_
      rintro e x3 ⟨rfl, hP2, hM2⟩
      have P2 := Lib.hid hP2
      have Q2 := Lib.hid (PQ.moves Q2b.out hM2)
      clear hP2 hM2
      try go_wp2_with fail
      refine hK.out _ _ ⟨P2.out.hA, P2.out.hK, Q2.out.c0, Q2.out.c1⟩ (fun hHeld => ?_)
      clear hK K
      try simp only [Act.put, List.setIfInBounds_toArray, List.set_cons_zero, List.set_cons_succ]
      obtain ⟨v3, y3, r3, d3, g3⟩ := conv_new x3 d
      have R3 := Lib.hid d3
      have P3a := Lib.hid (P2.out.grew g3)
      have Q3b := Lib.hid (Q2.out.grew g3)
      clear d3 g3
      refine wpAnyH_take (i := 18) (v := ?_) rfl (by kernel_rfl) (by kernel_rfl) (by kernel_rfl) (fun _ _ _ h => h) (Or.inl ⟨by rfl, ?_⟩) hHeld ?_
      rotate_left
      · (intro wx hSw; obtain ⟨hSa, hSk, hs0, hs1⟩ := hSw; have e0 := hSa.c0; have e1 := hSa.c1; have e2 := hSa.c2; have e3 := hSa.c3; have k0 := hSk.c0; have k1 := hSk.c1; have k2 := hSk.c2; have k3 := hSk.c3; clear hSa hSk; first | (go_simp; done) | (go_simp; with_reducible rfl))
      simp only [Act.put, List.getElem_toArray, List.getElem_cons_zero, List.getElem_cons_succ, List.setIfInBounds_toArray, List.set_cons_zero, List.set_cons_succ]
      refine wpAnyH_take (i := 19) (v := ?_) rfl (by kernel_rfl) (by kernel_rfl) (by kernel_rfl) (fun _ _ _ h => h) (Or.inl ⟨by rfl, ?_⟩) hHeld ?_
      rotate_left
      · (intro wx hSw; obtain ⟨hSa, hSk, hs0, hs1⟩ := hSw; have e0 := hSa.c0; have e1 := hSa.c1; have e2 := hSa.c2; have e3 := hSa.c3; have k0 := hSk.c0; have k1 := hSk.c1; have k2 := hSk.c2; have k3 := hSk.c3; clear hSa hSk; first | (go_simp; done) | (go_simp; with_reducible rfl))
      simp only [Act.put, List.getElem_toArray, List.getElem_cons_zero, List.getElem_cons_succ, List.setIfInBounds_toArray, List.set_cons_zero, List.set_cons_succ]
      refine wpAnyH_take (i := 20) (v := ?_) rfl (by kernel_rfl) (by kernel_rfl) (by kernel_rfl) (fun _ _ _ h => h) (Or.inl ⟨by rfl, ?_⟩) hHeld ?_
      rotate_left
      · (intro wx hSw; obtain ⟨hSa, hSk, hs0, hs1⟩ := hSw; have e0 := hSa.c0; have e1 := hSa.c1; have e2 := hSa.c2; have e3 := hSa.c3; have k0 := hSk.c0; have k1 := hSk.c1; have k2 := hSk.c2; have k3 := hSk.c3; clear hSa hSk; first | (go_simp; done) | (go_simp; with_reducible rfl))
      simp only [Act.put, List.getElem_toArray, List.getElem_cons_zero, List.getElem_cons_succ, List.setIfInBounds_toArray, List.set_cons_zero, List.set_cons_succ]
      refine wpAnyH_take (i := 21) (v := ?_) rfl (by kernel_rfl) (by kernel_rfl) (by kernel_rfl) (fun _ _ _ h => h) (Or.inl ⟨by rfl, ?_⟩) hHeld ?_
      rotate_left
      · (intro wx hSw; obtain ⟨hSa, hSk, hs0, hs1⟩ := hSw; have e0 := hSa.c0; have e1 := hSa.c1; have e2 := hSa.c2; have e3 := hSa.c3; have k0 := hSk.c0; have k1 := hSk.c1; have k2 := hSk.c2; have k3 := hSk.c3; clear hSa hSk; first | (go_simp; done) | (go_simp; with_reducible rfl))
      simp only [Act.put, List.getElem_toArray, List.getElem_cons_zero, List.getElem_cons_succ, List.setIfInBounds_toArray, List.set_cons_zero, List.set_cons_succ]
      refine wpAnyH_take (i := 22) (v := ?_) rfl (by kernel_rfl) (by kernel_rfl) (by kernel_rfl) (fun _ _ _ h => h) (Or.inl ⟨by rfl, ?_⟩) hHeld ?_
      rotate_left
      · (intro wx hSw; obtain ⟨hSa, hSk, hs0, hs1⟩ := hSw; have e0 := hSa.c0; have e1 := hSa.c1; have e2 := hSa.c2; have e3 := hSa.c3; have k0 := hSk.c0; have k1 := hSk.c1; have k2 := hSk.c2; have k3 := hSk.c3; clear hSa hSk; first | (go_simp; done) | (go_simp; with_reducible rfl))
      simp only [Act.put, List.getElem_toArray, List.getElem_cons_zero, List.getElem_cons_succ, List.setIfInBounds_toArray, List.set_cons_zero, List.set_cons_succ]
      refine wpAnyH_take (i := 23) (v := ?_) rfl (by kernel_rfl) (by kernel_rfl) (by kernel_rfl) (fun _ _ _ h => h) (Or.inl ⟨by rfl, ?_⟩) hHeld ?_
      rotate_left
      · (intro wx hSw; obtain ⟨hSa, hSk, hs0, hs1⟩ := hSw; have e0 := hSa.c0; have e1 := hSa.c1; have e2 := hSa.c2; have e3 := hSa.c3; have k0 := hSk.c0; have k1 := hSk.c1; have k2 := hSk.c2; have k3 := hSk.c3; clear hSa hSk; first | (go_simp; done) | (go_simp; with_reducible rfl))
      simp only [Act.put, List.getElem_toArray, List.getElem_cons_zero, List.getElem_cons_succ, List.setIfInBounds_toArray, List.set_cons_zero, List.set_cons_succ]
      refine wpAnyH_ready (rs := [24]) (by kernel_rfl) (by simp) ?_
      refine AllReadyH.cons rfl (fun K hK => ?_) AllReadyH.nil
      go_simp
      refine hK.out _ _ ⟨P3a.out.hA, P3a.out.hK, Q3b.out.c0, Q3b.out.c1⟩ (fun hHeld => ?_)
      clear hK K
      try simp only [Act.put, List.setIfInBounds_toArray, List.set_cons_zero, List.set_cons_succ]
      refine wpAnyH_ready (rs := [25]) (by kernel_rfl) (by simp) ?_
      refine AllReadyH.cons rfl (fun K hK => ?_) AllReadyH.nil
      go_simp
      refine (P3a.out.storeK hn hk2 R3.out (natsOf_byte d) h3l).mono ?_
      rintro e x4 ⟨rfl, hP3, hM3⟩
      have P3 := Lib.hid hP3
      have Q3 := Lib.hid (PQ.moves Q3b.out hM3)
      clear hP3 hM3
      try go_wp2_with fail
      refine hK.out _ _ ⟨P3.out.hA, P3.out.hK, Q3.out.c0, Q3.out.c1⟩ (fun hHeld => ?_)
      clear hK K
      try simp only [Act.put, List.setIfInBounds_toArray, List.set_cons_zero, List.set_cons_succ]
      refine wpAnyH_take (i := 26) (v := ?_) rfl (by kernel_rfl) (by kernel_rfl) (by kernel_rfl) (fun _ _ _ h => h) (Or.inl ⟨by rfl, ?_⟩) hHeld ?_
      rotate_left
      · (intro wx hSw; obtain ⟨hSa, hSk, hs0, hs1⟩ := hSw; have e0 := hSa.c0; have e1 := hSa.c1; have e2 := hSa.c2; have e3 := hSa.c3; have k0 := hSk.c0; have k1 := hSk.c1; have k2 := hSk.c2; have k3 := hSk.c3; clear hSa hSk; first | (go_simp; done) | (go_simp; with_reducible rfl))
      simp only [Act.put, List.getElem_toArray, List.getElem_cons_zero, List.getElem_cons_succ, List.setIfInBounds_toArray, List.set_cons_zero, List.set_cons_succ]
      refine wpAnyH_take (i := 27) (v := ?_) rfl (by kernel_rfl) (by kernel_rfl) (by kernel_rfl) (fun _ _ _ h => h) (Or.inl ⟨by rfl, ?_⟩) hHeld ?_
      rotate_left
      · (intro wx hSw; obtain ⟨hSa, hSk, hs0, hs1⟩ := hSw; have e0 := hSa.c0; have e1 := hSa.c1; have e2 := hSa.c2; have e3 := hSa.c3; have k0 := hSk.c0; have k1 := hSk.c1; have k2 := hSk.c2; have k3 := hSk.c3; clear hSa hSk; first | (go_simp; done) | (go_simp; with_reducible rfl))
      simp only [Act.put, List.getElem_toArray, List.getElem_cons_zero, List.getElem_cons_succ, List.setIfInBounds_toArray, List.set_cons_zero, List.set_cons_succ]
      refine wpAnyH_done (by kernel_rfl) ?_ _
      have hbt := fun k => bytes_three S2.bt (natsOf d) d.size c ko c 0 (natsOf dr) (natsOf dt) (natsOf_length d) hc hk1 HCASE k
      have HB0 : Hid ((((S2.stored c (natsOf dr)).stored 0 (natsOf dt)).stored ko (natsOf d)).bytesAt 0 d.size = natsOf d) := Lib.hid (by
        have := bytesAt_is (((S2.stored c (natsOf dr)).stored 0 (natsOf dt)).stored ko (natsOf d)) (natsOf d) 0 (fun k hk => by
          rw [natsOf_length] at hk
          rw [Nat.zero_add]; exact (hbt k).1 hk)
        rwa [natsOf_length] at this)
      have HBK : Hid ((((S2.stored c (natsOf dr)).stored 0 (natsOf dt)).stored ko (natsOf d)).bytesAt ko d.size = natsOf d) := Lib.hid (by
        have := bytesAt_is (((S2.stored c (natsOf dr)).stored 0 (natsOf dt)).stored ko (natsOf d)) (natsOf d) ko (fun k hk => by
          rw [natsOf_length] at hk
          have := (hbt (ko + k)).2 (by omega) (by omega)
          rwa [show ko + k - ko = k by omega] at this)
        rwa [natsOf_length] at this)
      clear hbt HCASE h1l h2l h3l
      generalize ((S2.stored c (natsOf dr)).stored 0 (natsOf dt)).stored ko (natsOf d) = S3 at *
      have BX : Hid (Grew w x4) := Lib.hid (B1.out.then P3.out.st.below)
      have e0 := P3.out.hA.c0
      have e1 := P3.out.hA.c1
      have e2 := P3.out.hA.c2
      have e3 := P3.out.hA.c3
      have HLD : Hid (Calls Try.prog 20 #[.pointer (some ⟨pb, 0, none⟩), Hv 0 1 0 d.size] x4 fun e w' => ∃ v, e = .returned (.tuple #[v, .int .i64 0]) ∧ FreshRow 5 x4 v (u8s (natsOf d)) w') := Lib.hid (by
        have := P3.out.load0 hn hn2
        rwa [HB0.out] at this)
      clear P1 Q1 P2 Q2 P1a Q1b P2a Q2b P3a Q3b Q3 R1 R2 R3 r1 r2 r3 hHeld P0d Q0d
      go_wp2_with fail
      refine HLD.out.mono ?_
      rintro e x5 ⟨va, rfl, fa⟩
      obtain ⟨ga, ca, rfl, -, rda, gra⟩ := fresh_open fa
      have P4 := Lib.hid (P3.out.grew gra)
      have RA := Lib.hid rda
      have BX5 := Lib.hid (BX.out.then gra)
      have e0 := P4.out.hK.c0
      have e1 := P4.out.hK.c1
      have e2 := P4.out.hK.c2
      have e3 := P4.out.hK.c3
      have HLK : Hid (Calls Try.prog 20 #[.pointer (some ⟨pb, 0, none⟩), Hv 0 1 ko d.size] x5 fun e w' => ∃ v, e = .returned (.tuple #[v, .int .i64 0]) ∧ FreshRow 5 x5 v (u8s (natsOf d)) w') := Lib.hid (by
        have := P4.out.loadK hn hk2
        rwa [HBK.out] at this)
      clear fa rda gra HLD P3 BX
      go_wp2_with fail
      refine HLK.out.mono ?_
      rintro e x6 ⟨vb, rfl, fb⟩
      obtain ⟨gb, cb, rfl, -, rdb, grb⟩ := fresh_open fb
      have P5 := Lib.hid (P4.out.grew grb)
      have RA6 := Lib.hid (RA.out.grew grb)
      have RB := Lib.hid rdb
      have BX6 := Lib.hid (BX5.out.then grb)
      have HSL : Hid (Calls Try.prog 25 #[.pointer (some ⟨pb, 0, none⟩), .int .i64 0] x6 fun e w' => ∃ v, e = .returned (.tuple #[v, .int .i64 0]) ∧ FreshOr 3 x6 v (i64s (S3.sl 0)) w') := Lib.hid (by
        have := slabs_ok P5.out.st.at_ P5.out.st.ok (i := 0) (by omega) P5.out.lv
        rwa [P5.out.pb] at this)
      clear fb rdb grb HLK P4 BX5 RA e0 e1 e2 e3
      go_wp2_with fail
      refine HSL.out.mono ?_
      rintro e x7 ⟨vs, rfl, fs⟩
      obtain ⟨gs, cs, ls, rfl, hls, cell0, grs⟩ := slabs_open fs P5.out.s0 P5.out.sn
      have P6 := Lib.hid (P5.out.grew grs)
      have BX7 := Lib.hid (BX6.out.then grs)
      have hda : (convert 49 9 (.slice (some ⟨ga, 0, none⟩) (natsOf d).length ca)).run Try.prog x7 = .ok (.string d) x7 := by
        have := conv_reads (RA6.out.grew grs) (natsOf_byte d) (by rw [natsOf_length]; exact hn)
        rwa [text_nats] at this
      have hdb : (convert 49 9 (.slice (some ⟨gb, 0, none⟩) (natsOf d).length cb)).run Try.prog x7 = .ok (.string d) x7 := by
        have := conv_reads (RB.out.grew grs) (natsOf_byte d) (by rw [natsOf_length]; exact hn)
        rwa [text_nats] at this
      have hdd : (d.toList != d.toList) = false := by simp
      have hde : (d.toList == d.toList) = true := by simp
      have e2 := P6.out.hA.c2
      have HRW : Hid (Calls Try.prog 28 #[.pointer (some ⟨pb, 0, none⟩), .int .i64 0] x7 fun e w' => ∃ v, e = .returned (.tuple #[v, .int .i64 0]) ∧ FreshRow 5 x7 v (u8s (S3.bytesAt 0 128)) w') := Lib.hid (by
        have := raw_ok P6.out.st.at_ P6.out.st.ok (j := 0) (by rw [P6.out.nn]; omega)
        rwa [P6.out.pb, P6.out.sz, Nat.zero_mul] at this)
      clear fs grs HSL P5 RA6 RB BX6
      generalize (natsOf d).length = nl at *
      go_wp2_with fail
      refine HRW.out.mono ?_
      rintro e x8 ⟨vr, rfl, fr⟩
      obtain ⟨gr, cr, rfl, hcr, rdr, grr⟩ := fresh_open fr
      have e2 := (P6.out.grew grr).hA.c2
      have e3 := (P6.out.grew grr).hA.c3
      have hl128 : (S3.bytesAt 0 128).length = 128 := by simp [Ps.bytesAt]
      rw [hl128] at hcr rdr ⊢
      have hct := run_cut x8 gr 128 cr d.size (by omega)
      have hdr : (convert 49 9 (.slice (some ⟨gr, 0, none⟩) d.size cr)).run Try.prog x8 = .ok (.string d) x8 := by
        have h1 := ReadsB.cut rdr hl128 hn2
        rw [bytes_take S3 128 d.size hn2, HB0.out] at h1
        have := conv_reads h1 (natsOf_byte d) (by rw [natsOf_length]; exact hn)
        rwa [text_nats] at this
      have BX8 := Lib.hid (BX7.out.then grr)
      clear fr rdr grr HRW P6 hl128 BX7 hda hdb
      go_wp2
      go_ret
      exact ⟨rfl, BX8.out⟩
end Go.Proofs.Ytaaalfimlpeddaa.regionParts
