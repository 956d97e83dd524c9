/-
  The law IkeyTwins, walked.
-/
import Derived.Test.YtaeilfpaaogllaaIkOrd
namespace Go.Proofs.Ytaeilfpaaogllaa
open Go.RowKit

theorem open_twin {H : Type} {enc : TypeId × Value → H} {W : World} {r : Reach} {b0 base : Nat} {sp : Nat → Bool} {held : Bool} {v : Value} {dt : DataW H} {ps : List MemPlace} (hval : Value.okWide Try.prog W r b0 42 v) (hd : DataW.Trod enc Try.prog W base sp held 42 v dt ps) :
    ∃ k m s d, v = .agg #[.string k, .string m, .int .i64 s, .int .i64 d] ∧ k.size ≤ maxLen ∧ m.size ≤ maxLen ∧ (Lit.int .i64 s).wf = true ∧ (Lit.int .i64 d).wf = true := by
  have hc : Try.prog.cellsOf 42 = 4 := by kernel_rfl
  simp only [Value.okWide, Try.underlying42] at hval
  obtain ⟨cs, rfl, hsz, _⟩ := hval
  obtain ⟨fuel, hf⟩ := hd
  obtain ⟨xs, k, _, _, hlen, hxl, hf2⟩ := DataW.trod_struct Try.underlying42 hf
  rw [hc] at hlen
  obtain ⟨l⟩ := cs
  simp only [Value.cells] at hlen hf2
  match l, hlen with
  | [v0, v1, v2, v3], _ =>
    match xs, hxl with
    | [y0, y1, y2, y3], _ =>
      have e3 : Try.prog.cellsOf 3 = 1 := by kernel_rfl
      have e9 : Try.prog.cellsOf 9 = 1 := by kernel_rfl
      have g0 := hf2 0 _ rfl
      have g1 := hf2 1 _ rfl
      have g2 := hf2 2 _ rfl
      have g3 := hf2 3 _ rfl
      simp [e9] at g0 g1
      simp [e3] at g2 g3
      obtain ⟨q0, p0, _, r0⟩ := DataW.trod_string Try.underlying9 g0
      obtain ⟨q1, p1, _, r1⟩ := DataW.trod_string Try.underlying9 g1
      obtain ⟨q2, p2, _, r2⟩ := DataW.trod_int Try.underlying3 g2
      obtain ⟨q3, p3, _, r3⟩ := DataW.trod_int Try.underlying3 g3
      simp at p0 p1 p2 p3
      subst p0 p1 p2 p3
      exact ⟨_, _, _, _, rfl, r0, r1, r2, r3⟩
theorem mod56 (x : Int) : ∃ k : Nat, k < 72057594037927936 ∧ IntKind.i64.wrap ((IntKind.u64.wrap x).tmod 72057594037927936) = (k : Int) := by
  have h1 : 0 ≤ IntKind.u64.wrap x := by simp [IntKind.wrap, IntKind.bits, IntKind.signed]; omega
  rw [Int.tmod_eq_emod_of_nonneg h1]
  refine ⟨((IntKind.u64.wrap x) % 72057594037927936).toNat, by omega, ?_⟩
  rw [IntKind.wrap_i64]; omega
theorem natsOf_app (a b : ByteArray) : natsOf (a ++ b) = natsOf a ++ natsOf b := by
  apply strOf_inj (natsOf_byte _) (fun x hx => (List.mem_append.1 hx).elim (natsOf_byte _ x) (natsOf_byte _ x))
  rw [← strOf_app, strOf_natsOf, strOf_natsOf, strOf_natsOf]
theorem sort_any' (k : ByteArray) (s d : Int) (h : okV k s d) (w : World) : Calls Try.prog 18 #[.agg #[.string k, .int .i64 s, .int .i64 d]] w (FreshE w (sortL k s d) 0) := by
  have := sortable_any k s d w
  rw [chk_yes h, show sortR k s d = sortL k s d from if_pos h] at this
  exact this
theorem less_any' (k : ByteArray) (s d : Int) (k' : ByteArray) (s' d' : Int) (b : Bool) (hb : lessB k s d k' s' d' = b) (w : World) :
    Calls Try.prog 21 #[.agg #[.string k, .int .i64 s, .int .i64 d], .agg #[.string k', .int .i64 s', .int .i64 d']] w fun e w' => e = .returned (.bool b) ∧ Below w.heap.size w w' := by
  subst hb; exact less_any k s d k' s' d' w
namespace ikeyTwins
set_option maxRecDepth 100000 in
set_option maxHeartbeats 800000 in
theorem walk (k m : ByteArray) (s d : Int) (w : World) (_f0 : k.size ≤ maxLen ∧ m.size ≤ maxLen ∧ (Lit.int .i64 s).wf = true ∧ (Lit.int .i64 d).wf = true) :
    Calls Try.prog 9 #[.agg #[.string k, .string m, .int .i64 s, .int .i64 d]] w fun e w' => e = .returned (.bool true) ∧ Below w.heap.size w w' := by
  obtain ⟨n1, hn1, en1⟩ := mod56 s
  obtain ⟨n2, hn2, en2⟩ := mod56 d
  go_enter Try.func9, Try.ntmps9
  go_wp2_with fail
  refine (keyed_any _).mono ?_
  rintro e wk ⟨rfl, hbk⟩
  have c0 := hbk.cell (p := ⟨w.heap.size, 0, none⟩) (by simp)
  have c1 := hbk.cell (p := ⟨w.heap.size, 1, none⟩) (by simp)
  have c2 := hbk.cell (p := ⟨w.heap.size, 2, none⟩) (by simp)
  have c3 := hbk.cell (p := ⟨w.heap.size, 3, none⟩) (by simp)
  rw [World.cell?_alloc_mark] at c0 c1 c2 c3
  replace c0 : wk.cell? ⟨w.heap.size, 0, none⟩ = some (.string k) := c0
  replace c1 : wk.cell? ⟨w.heap.size, 1, none⟩ = some (.string m) := c1
  replace c2 : wk.cell? ⟨w.heap.size, 2, none⟩ = some (.int .i64 s) := c2
  replace c3 : wk.cell? ⟨w.heap.size, 3, none⟩ = some (.int .i64 d) := c3
  have HBk : Hid (Below w.heap.size w wk) := Lib.hid ((bel1 _ _).trans (hbk.mono (by simp)))
  clear hbk
  go_wp2_with fail
  have hK1 : ({ data := #[107] } ++ k.extract 0 (min (k.size : Int) 30).toNat : ByteArray).size ≤ 31 ∧ 1 ≤ ({ data := #[107] } ++ k.extract 0 (min (k.size : Int) 30).toNat : ByteArray).size := by
    rw [ByteArray.size_append, ByteArray.size_extract]
    have : ({ data := #[107] } : ByteArray).size = 1 := rfl
    omega
  generalize ({ data := #[107] } ++ k.extract 0 (min (k.size : Int) 30).toNat : ByteArray) = K at *
  go_quiet (fail)
  obtain ⟨wd, hwd⟩ : ∃ wd, wd = wk.drewN nq := ⟨_, rfl⟩
  have hbd : Below wk.heap.size wk wd := hwd ▸ below_drewN _ _ _
  rw [← hwd]
  clear hwd c0 c2 c3
  have hlt0 : w.heap.size < wk.heap.size := World.block_lt_of_cell? wk _ c1
  have d1 := (hbd.cell (p := ⟨w.heap.size, 1, none⟩) hlt0).trans c1
  have HBd := Lib.hid (HBk.out.trans (hbd.mono HBk.out.size))
  have hlt1 : w.heap.size < wd.heap.size := World.block_lt_of_cell? wd _ d1
  clear hbd HBk c1 hlt0
  have hbA : Below wd.heap.size wd (((wd.alloc (.cells #[.string K, .int .i64 n1, .int .i64 1] 23)).alloc (.cells #[.string K, .int .i64 n2, .int .i64 1] 23)).alloc (.cells #[.string K, .int .i64 n1, .int .i64 0] 23)) := (bel2 _ _ _).alloc (by simp; omega) _
  have d1' := (hbA.cell (p := ⟨w.heap.size, 1, none⟩) hlt1).trans d1
  go_wp2_with fail
  have hD1 : (K ++ m.extract 0 (min (m.size : Int) 30).toNat).size ≤ 61 ∧ 1 ≤ (K ++ m.extract 0 (min (m.size : Int) 30).toNat).size := by
    rw [ByteArray.size_append, ByteArray.size_extract]; omega
  have hD2 : K ++ m.extract 0 (min (m.size : Int) 30).toNat = K ∨ (K ≠ K ++ m.extract 0 (min (m.size : Int) 30).toNat ∧ Op.bytesLess K.toList (K ++ m.extract 0 (min (m.size : Int) 30).toNat).toList = true) := by
    rw [less_lex, natsOf_app]
    cases hx : natsOf (m.extract 0 (min (m.size : Int) 30).toNat) with
    | nil =>
      left; apply natsOf_inj; rw [natsOf_app, hx, List.append_nil]
    | cons c t =>
      right
      refine ⟨fun e => ?_, ?_⟩
      · have := congrArg natsOf e
        rw [natsOf_app, hx] at this
        simpa using congrArg List.length this
      · have := lexN_app (natsOf K) [] (c :: t)
        rw [List.append_nil] at this
        rw [this]; rfl
  generalize (K ++ m.extract 0 (min (m.size : Int) 30).toNat) = D at *
  obtain ⟨WA, hWA⟩ : ∃ WA, WA = (((wd.alloc (.cells #[.string K, .int .i64 n1, .int .i64 1] 23)).alloc (.cells #[.string K, .int .i64 n2, .int .i64 1] 23)).alloc (.cells #[.string K, .int .i64 n1, .int .i64 0] 23)).alloc (.cells #[.string D, .int .i64 n2, .int .i64 1] 23) := ⟨_, rfl⟩
  rw [← hWA]
  have VA : Hid (VerAt WA wd.heap.size K n1 1) := Lib.hid (by
    rw [hWA]; exact (((verAt_new wd K n1 1 23).keep (bel1 _ _)).keep (bel1 _ _)).keep (bel1 _ _))
  have VB : Hid (VerAt WA (wd.heap.size + 1) K n2 1) := Lib.hid (by
    have e : (wd.alloc (.cells #[.string K, .int .i64 n1, .int .i64 1] 23)).heap.size = wd.heap.size + 1 := by simp
    rw [hWA, ← e]; exact ((verAt_new _ K n2 1 23).keep (bel1 _ _)).keep (bel1 _ _))
  have VC : Hid (VerAt WA (wd.heap.size + 1 + 1) K n1 0) := Lib.hid (by
    have e : ((wd.alloc (.cells #[.string K, .int .i64 n1, .int .i64 1] 23)).alloc (.cells #[.string K, .int .i64 n2, .int .i64 1] 23)).heap.size = wd.heap.size + 1 + 1 := by simp
    rw [hWA, ← e]; exact (verAt_new _ K n1 0 23).keep (bel1 _ _))
  have VD : Hid (VerAt WA (wd.heap.size + 1 + 1 + 1) D n2 1) := Lib.hid (by
    have e : (((wd.alloc (.cells #[.string K, .int .i64 n1, .int .i64 1] 23)).alloc (.cells #[.string K, .int .i64 n2, .int .i64 1] 23)).alloc (.cells #[.string K, .int .i64 n1, .int .i64 0] 23)).heap.size = wd.heap.size + 1 + 1 + 1 := by simp
    rw [hWA, ← e]; exact verAt_new _ D n2 1 23)
  have HWB : Hid (Below w.heap.size w WA) := Lib.hid (by
    rw [hWA]; exact HBd.out.trans ((hbA.alloc (by simp; omega) _).mono HBd.out.size))
  have oa : okV K n1 1 := ⟨by omega, by omega, by omega, by omega, .inr rfl⟩
  have ob : okV K n2 1 := ⟨by omega, by omega, by omega, by omega, .inr rfl⟩
  have oc : okV K n1 0 := ⟨by omega, by omega, by omega, by omega, .inl rfl⟩
  have od : okV D n2 1 := ⟨by omega, by omega, by omega, by omega, .inr rfl⟩
  clear hWA hbA d1 d1' HBd hlt1
  refine (sort_any' K n1 1 oa _).mono ?_
  rintro e w1 hF1
  obtain ⟨a1, cp1, rfl, -, hb1, -, -, hcv1⟩ := hF1.conv (sortL_byte _ _ _)
  have VA1 := Lib.hid (VA.out.keep hb1)
  have VB1 := Lib.hid (VB.out.keep hb1)
  have VC1 := Lib.hid (VC.out.keep hb1)
  have VD1 := Lib.hid (VD.out.keep hb1)
  have HW1 := Lib.hid (HWB.out.trans (hb1.mono HWB.out.size))
  clear hF1 hb1 VA VB VC VD HWB
  obtain ⟨x0, x1, x2, -⟩ := VB1.out
  go_wp2_with fail
  refine (sort_any' K n2 1 ob _).mono ?_
  rintro e w2 hF2
  obtain ⟨a2, cp2, rfl, -, hb2, -, -, hcv2⟩ := hF2.conv (sortL_byte _ _ _)
  have VA2 := Lib.hid (VA1.out.keep hb2)
  have VB2 := Lib.hid (VB1.out.keep hb2)
  have VC2 := Lib.hid (VC1.out.keep hb2)
  have VD2 := Lib.hid (VD1.out.keep hb2)
  have HW2 := Lib.hid (HW1.out.trans (hb2.mono HW1.out.size))
  have C12 := Lib.hid (fun wx (hx : Below w2.heap.size w2 wx) => hcv1 wx (hb2.trans (hx.mono hb2.size)))
  clear hF2 hb2 VA1 VB1 VC1 VD1 HW1 x0 x1 x2 hcv1
  obtain ⟨x0, x1, x2, -⟩ := VC2.out
  go_wp2_with fail
  refine (sort_any' K n1 0 oc _).mono ?_
  rintro e w3 hF3
  obtain ⟨a3, cp3, rfl, -, hb3, -, -, hcv3⟩ := hF3.conv (sortL_byte _ _ _)
  have VA3 := Lib.hid (VA2.out.keep hb3)
  have VB3 := Lib.hid (VB2.out.keep hb3)
  have VC3 := Lib.hid (VC2.out.keep hb3)
  have VD3 := Lib.hid (VD2.out.keep hb3)
  have HW3 := Lib.hid (HW2.out.trans (hb3.mono HW2.out.size))
  have C13 := Lib.hid (fun wx (hx : Below w3.heap.size w3 wx) => C12.out wx (hb3.trans (hx.mono hb3.size)))
  have C23 := Lib.hid (fun wx (hx : Below w3.heap.size w3 wx) => hcv2 wx (hb3.trans (hx.mono hb3.size)))
  clear hF3 hb3 VA2 VB2 VC2 VD2 HW2 x0 x1 x2 hcv2 C12
  obtain ⟨x0, x1, x2, -⟩ := VD3.out
  go_wp2_with fail
  refine (sort_any' D n2 1 od _).mono ?_
  rintro e w4 hF4
  obtain ⟨a4, cp4, rfl, -, hb4, -, -, hcv4⟩ := hF4.conv (sortL_byte _ _ _)
  have VA4 := Lib.hid (VA3.out.keep hb4)
  have VB4 := Lib.hid (VB3.out.keep hb4)
  have VC4 := Lib.hid (VC3.out.keep hb4)
  have VD4 := Lib.hid (VD3.out.keep hb4)
  have HW4 := Lib.hid (HW3.out.trans (hb4.mono HW3.out.size))
  have C1 := Lib.hid (fun wx (hx : Below w4.heap.size w4 wx) => C13.out wx (hb4.trans (hx.mono hb4.size)))
  have C2 := Lib.hid (fun wx (hx : Below w4.heap.size w4 wx) => C23.out wx (hb4.trans (hx.mono hb4.size)))
  have C3 := Lib.hid (fun wx (hx : Below w4.heap.size w4 wx) => hcv3 wx (hb4.trans (hx.mono hb4.size)))
  have C4 := Lib.hid hcv4
  clear hF4 hb4 VA3 VB3 VC3 VD3 HW3 x0 x1 x2 hcv3 hcv4 C13 C23
  have lab : lessB K n1 1 K n2 1 = decide ((n2 : Int) < n1) := by
    unfold lessB; rw [if_pos rfl]
    by_cases e : (n1 : Int) = n2
    · rw [if_pos e, e]; simp
    · rw [if_neg e]
  have lac : lessB K n1 1 K n1 0 = true := by unfold lessB; simp
  have bab : Op.bytesLess (strOf (sortL K n1 1)).toList (strOf (sortL K n2 1)).toList = decide ((n2 : Int) < n1) := by
    rw [less_strOf (sortL_byte _ _ _) (sortL_byte _ _ _), lex_sort oa ob, lab]
  have bac : Op.bytesLess (strOf (sortL K n1 1)).toList (strOf (sortL K n1 0)).toList = true := by
    rw [less_strOf (sortL_byte _ _ _) (sortL_byte _ _ _), lex_sort oa oc, lac]
  have hDc : D = K ∨ (Hid (¬ D.toList = K.toList) ∧ lessB K n1 1 D n2 1 = true ∧ lessB K n1 0 D n2 1 = true ∧ lessB D n2 1 K n1 1 = false ∧ Op.bytesLess (strOf (sortL K n1 1)).toList (strOf (sortL D n2 1)).toList = true ∧ Op.bytesLess (strOf (sortL K n1 0)).toList (strOf (sortL D n2 1)).toList = true) := by
    rcases hD2 with h | ⟨h1, h2⟩
    · exact .inl h
    · right
      have l1 : lessB K n1 1 D n2 1 = true := by unfold lessB; rw [if_neg h1]; exact h2
      have l2 : lessB K n1 0 D n2 1 = true := by unfold lessB; rw [if_neg h1]; exact h2
      refine ⟨Lib.hid (fun e => h1 (toList_inj' e).symm), l1, l2, ?_, ?_, ?_⟩
      · rw [← lex_sort od oa, lexN_asym (sortL K n1 1) (sortL D n2 1) (fun e => h1 ((sort_inj oa od).1 e).1), lex_sort oa od, l1]; rfl
      · rw [less_strOf (sortL_byte _ _ _) (sortL_byte _ _ _), lex_sort oa od, l1]
      · rw [less_strOf (sortL_byte _ _ _) (sortL_byte _ _ _), lex_sort oc od, l2]
  clear hD2 oa ob oc od
  generalize (sortL K n1 1).length = m1 at *
  generalize (sortL K n2 1).length = m2 at *
  generalize (sortL K n1 0).length = m3 at *
  generalize (sortL D n2 1).length = m4 at *
  generalize strOf (sortL K n1 1) = S1 at *
  generalize strOf (sortL K n2 1) = S2 at *
  generalize strOf (sortL K n1 0) = S3 at *
  generalize strOf (sortL D n2 1) = S4 at *
  have HAB : Hid (∀ wx, Calls Try.prog 21 #[.agg #[.string K, .int .i64 n1, .int .i64 1], .agg #[.string K, .int .i64 n2, .int .i64 1]] wx fun e w' => e = .returned (.bool (decide ((n2 : Int) < n1))) ∧ Below wx.heap.size wx w') := Lib.hid (less_any' K n1 1 K n2 1 _ lab)
  have HAC : Hid (∀ wx, Calls Try.prog 21 #[.agg #[.string K, .int .i64 n1, .int .i64 1], .agg #[.string K, .int .i64 n1, .int .i64 0]] wx fun e w' => e = .returned (.bool true) ∧ Below wx.heap.size wx w') := Lib.hid (less_any' K n1 1 K n1 0 _ lac)
  clear lab lac
  obtain ⟨x0, x1, x2, -⟩ := VA4.out
  obtain ⟨y0, y1, y2, -⟩ := VB4.out
  by_cases h12 : n2 < n1
  case pos =>
    have q12 : decide ((n2 : Int) < n1) = true := by simp; omega
    rw [q12] at HAB bab
    go_wp2_with fail
    refine (HAB.out _).mono ?_
    rintro e w5 ⟨rfl, hb5⟩
    have VA5 := Lib.hid (VA4.out.keep hb5)
    have VC5 := Lib.hid (VC4.out.keep hb5)
    have VD5 := Lib.hid (VD4.out.keep hb5)
    have HW5 := Lib.hid (HW4.out.trans (hb5.mono HW4.out.size))
    have C51 := Lib.hid (fun wx (hx : Below w5.heap.size w5 wx) => C1.out wx (hb5.trans (hx.mono hb5.size)))
    have C53 := Lib.hid (fun wx (hx : Below w5.heap.size w5 wx) => C3.out wx (hb5.trans (hx.mono hb5.size)))
    have C54 := Lib.hid (fun wx (hx : Below w5.heap.size w5 wx) => C4.out wx (hb5.trans (hx.mono hb5.size)))
    have i1 := C1.out w5 hb5
    have i2 := C2.out w5 hb5
    clear hb5 x0 x1 x2 y0 y1 y2 VA4 VB4 VC4 VD4 HW4 C1 C2 C3 C4
    obtain ⟨x0, x1, x2, -⟩ := VA5.out
    obtain ⟨y0, y1, y2, -⟩ := VC5.out
    go_wp2_with fail
    refine (HAC.out _).mono ?_
    rintro e w6 ⟨rfl, hb6⟩
    have VA6 := Lib.hid (VA5.out.keep hb6)
    have VC6 := Lib.hid (VC5.out.keep hb6)
    have VD6 := Lib.hid (VD5.out.keep hb6)
    have HW6 := Lib.hid (HW5.out.trans (hb6.mono HW5.out.size))
    have C61 := Lib.hid (fun wx (hx : Below w6.heap.size w6 wx) => C51.out wx (hb6.trans (hx.mono hb6.size)))
    have C63 := Lib.hid (fun wx (hx : Below w6.heap.size w6 wx) => C53.out wx (hb6.trans (hx.mono hb6.size)))
    have C64 := Lib.hid (fun wx (hx : Below w6.heap.size w6 wx) => C54.out wx (hb6.trans (hx.mono hb6.size)))
    have j1 := C51.out w6 hb6
    have j3 := C53.out w6 hb6
    clear hb6 x0 x1 x2 y0 y1 y2 VA5 VC5 VD5 HW5 C51 C53 C54 i1 i2
    obtain ⟨x0, x1, x2, -⟩ := VA6.out
    obtain ⟨y0, y1, y2, -⟩ := VC6.out
    obtain ⟨z0, z1, z2, -⟩ := VD6.out
    rcases hDc with rfl | ⟨FN, l1, l2, l3, b1, b2⟩
    · go_wp2
      go_ret
      exact ⟨rfl, HW6.out⟩
    · have qk : (D.toList == K.toList) = false := by rw [beq_eq_false_iff_ne]; exact FN.out
      have HAD : Hid (∀ wx, Calls Try.prog 21 #[.agg #[.string K, .int .i64 n1, .int .i64 1], .agg #[.string D, .int .i64 n2, .int .i64 1]] wx fun e w' => e = .returned (.bool true) ∧ Below wx.heap.size wx w') := Lib.hid (less_any' K n1 1 D n2 1 _ l1)
      have HCD : Hid (∀ wx, Calls Try.prog 21 #[.agg #[.string K, .int .i64 n1, .int .i64 0], .agg #[.string D, .int .i64 n2, .int .i64 1]] wx fun e w' => e = .returned (.bool true) ∧ Below wx.heap.size wx w') := Lib.hid (less_any' K n1 0 D n2 1 _ l2)
      have HDA : Hid (∀ wx, Calls Try.prog 21 #[.agg #[.string D, .int .i64 n2, .int .i64 1], .agg #[.string K, .int .i64 n1, .int .i64 1]] wx fun e w' => e = .returned (.bool false) ∧ Below wx.heap.size wx w') := Lib.hid (less_any' D n2 1 K n1 1 _ l3)
      clear l1 l2 l3
      go_wp2_with fail
      refine (HAD.out _).mono ?_
      rintro e w7 ⟨rfl, hb7⟩
      have VA7 := Lib.hid (VA6.out.keep hb7)
      have VC7 := Lib.hid (VC6.out.keep hb7)
      have VD7 := Lib.hid (VD6.out.keep hb7)
      have HW7 := Lib.hid (HW6.out.trans (hb7.mono HW6.out.size))
      have C71 := Lib.hid (fun wx (hx : Below w7.heap.size w7 wx) => C61.out wx (hb7.trans (hx.mono hb7.size)))
      have C73 := Lib.hid (fun wx (hx : Below w7.heap.size w7 wx) => C63.out wx (hb7.trans (hx.mono hb7.size)))
      have C74 := Lib.hid (fun wx (hx : Below w7.heap.size w7 wx) => C64.out wx (hb7.trans (hx.mono hb7.size)))
      clear hb7 x0 x1 x2 y0 y1 y2 z0 z1 z2 VA6 VC6 VD6 HW6 C61 C63 C64 j1 j3
      obtain ⟨x0, x1, x2, -⟩ := VA7.out
      obtain ⟨y0, y1, y2, -⟩ := VC7.out
      obtain ⟨z0, z1, z2, -⟩ := VD7.out
      go_wp2_with fail
      refine (HCD.out _).mono ?_
      rintro e w8 ⟨rfl, hb8⟩
      have VA8 := Lib.hid (VA7.out.keep hb8)
      have VD8 := Lib.hid (VD7.out.keep hb8)
      have HW8 := Lib.hid (HW7.out.trans (hb8.mono HW7.out.size))
      have j1 := C71.out w8 hb8
      have j3 := C73.out w8 hb8
      have j4 := C74.out w8 hb8
      clear hb8 x0 x1 x2 y0 y1 y2 z0 z1 z2 VA7 VC7 VD7 HW7 C71 C73 C74
      obtain ⟨x0, x1, x2, -⟩ := VA8.out
      obtain ⟨z0, z1, z2, -⟩ := VD8.out
      go_wp2_with fail
      refine (HDA.out _).mono ?_
      rintro e w9 ⟨rfl, hb9⟩
      have HW9 := Lib.hid (HW8.out.trans (hb9.mono HW8.out.size))
      clear hb9
      go_wp2
      go_ret
      exact ⟨rfl, HW9.out⟩
  case neg =>
    have q12 : decide ((n2 : Int) < n1) = false := by simp; omega
    rw [q12] at HAB bab
    go_wp2_with fail
    refine (HAB.out _).mono ?_
    rintro e w5 ⟨rfl, hb5⟩
    have VA5 := Lib.hid (VA4.out.keep hb5)
    have VC5 := Lib.hid (VC4.out.keep hb5)
    have VD5 := Lib.hid (VD4.out.keep hb5)
    have HW5 := Lib.hid (HW4.out.trans (hb5.mono HW4.out.size))
    have C51 := Lib.hid (fun wx (hx : Below w5.heap.size w5 wx) => C1.out wx (hb5.trans (hx.mono hb5.size)))
    have C53 := Lib.hid (fun wx (hx : Below w5.heap.size w5 wx) => C3.out wx (hb5.trans (hx.mono hb5.size)))
    have C54 := Lib.hid (fun wx (hx : Below w5.heap.size w5 wx) => C4.out wx (hb5.trans (hx.mono hb5.size)))
    have i1 := C1.out w5 hb5
    have i2 := C2.out w5 hb5
    clear hb5 x0 x1 x2 y0 y1 y2 VA4 VB4 VC4 VD4 HW4 C1 C2 C3 C4
    obtain ⟨x0, x1, x2, -⟩ := VA5.out
    obtain ⟨y0, y1, y2, -⟩ := VC5.out
    go_wp2_with fail
    refine (HAC.out _).mono ?_
    rintro e w6 ⟨rfl, hb6⟩
    have VA6 := Lib.hid (VA5.out.keep hb6)
    have VC6 := Lib.hid (VC5.out.keep hb6)
    have VD6 := Lib.hid (VD5.out.keep hb6)
    have HW6 := Lib.hid (HW5.out.trans (hb6.mono HW5.out.size))
    have C61 := Lib.hid (fun wx (hx : Below w6.heap.size w6 wx) => C51.out wx (hb6.trans (hx.mono hb6.size)))
    have C63 := Lib.hid (fun wx (hx : Below w6.heap.size w6 wx) => C53.out wx (hb6.trans (hx.mono hb6.size)))
    have C64 := Lib.hid (fun wx (hx : Below w6.heap.size w6 wx) => C54.out wx (hb6.trans (hx.mono hb6.size)))
    have j1 := C51.out w6 hb6
    have j3 := C53.out w6 hb6
    clear hb6 x0 x1 x2 y0 y1 y2 VA5 VC5 VD5 HW5 C51 C53 C54 i1 i2
    obtain ⟨x0, x1, x2, -⟩ := VA6.out
    obtain ⟨y0, y1, y2, -⟩ := VC6.out
    obtain ⟨z0, z1, z2, -⟩ := VD6.out
    rcases hDc with rfl | ⟨FN, l1, l2, l3, b1, b2⟩
    · go_wp2
      go_ret
      exact ⟨rfl, HW6.out⟩
    · have qk : (D.toList == K.toList) = false := by rw [beq_eq_false_iff_ne]; exact FN.out
      have HAD : Hid (∀ wx, Calls Try.prog 21 #[.agg #[.string K, .int .i64 n1, .int .i64 1], .agg #[.string D, .int .i64 n2, .int .i64 1]] wx fun e w' => e = .returned (.bool true) ∧ Below wx.heap.size wx w') := Lib.hid (less_any' K n1 1 D n2 1 _ l1)
      have HCD : Hid (∀ wx, Calls Try.prog 21 #[.agg #[.string K, .int .i64 n1, .int .i64 0], .agg #[.string D, .int .i64 n2, .int .i64 1]] wx fun e w' => e = .returned (.bool true) ∧ Below wx.heap.size wx w') := Lib.hid (less_any' K n1 0 D n2 1 _ l2)
      have HDA : Hid (∀ wx, Calls Try.prog 21 #[.agg #[.string D, .int .i64 n2, .int .i64 1], .agg #[.string K, .int .i64 n1, .int .i64 1]] wx fun e w' => e = .returned (.bool false) ∧ Below wx.heap.size wx w') := Lib.hid (less_any' D n2 1 K n1 1 _ l3)
      clear l1 l2 l3
      go_wp2_with fail
      refine (HAD.out _).mono ?_
      rintro e w7 ⟨rfl, hb7⟩
      have VA7 := Lib.hid (VA6.out.keep hb7)
      have VC7 := Lib.hid (VC6.out.keep hb7)
      have VD7 := Lib.hid (VD6.out.keep hb7)
      have HW7 := Lib.hid (HW6.out.trans (hb7.mono HW6.out.size))
      have C71 := Lib.hid (fun wx (hx : Below w7.heap.size w7 wx) => C61.out wx (hb7.trans (hx.mono hb7.size)))
      have C73 := Lib.hid (fun wx (hx : Below w7.heap.size w7 wx) => C63.out wx (hb7.trans (hx.mono hb7.size)))
      have C74 := Lib.hid (fun wx (hx : Below w7.heap.size w7 wx) => C64.out wx (hb7.trans (hx.mono hb7.size)))
      clear hb7 x0 x1 x2 y0 y1 y2 z0 z1 z2 VA6 VC6 VD6 HW6 C61 C63 C64 j1 j3
      obtain ⟨x0, x1, x2, -⟩ := VA7.out
      obtain ⟨y0, y1, y2, -⟩ := VC7.out
      obtain ⟨z0, z1, z2, -⟩ := VD7.out
      go_wp2_with fail
      refine (HCD.out _).mono ?_
      rintro e w8 ⟨rfl, hb8⟩
      have VA8 := Lib.hid (VA7.out.keep hb8)
      have VD8 := Lib.hid (VD7.out.keep hb8)
      have HW8 := Lib.hid (HW7.out.trans (hb8.mono HW7.out.size))
      have j1 := C71.out w8 hb8
      have j3 := C73.out w8 hb8
      have j4 := C74.out w8 hb8
      clear hb8 x0 x1 x2 y0 y1 y2 z0 z1 z2 VA7 VC7 VD7 HW7 C71 C73 C74
      obtain ⟨x0, x1, x2, -⟩ := VA8.out
      obtain ⟨z0, z1, z2, -⟩ := VD8.out
      go_wp2_with fail
      refine (HDA.out _).mono ?_
      rintro e w9 ⟨rfl, hb9⟩
      have HW9 := Lib.hid (HW8.out.trans (hb9.mono HW8.out.size))
      clear hb9
      go_wp2
      go_ret
      exact ⟨rfl, HW9.out⟩
end ikeyTwins
end Go.Proofs.Ytaeilfpaaogllaa
