/-
  logged, walked.
-/
import Derived.Test.YtadnecgcoceklaaGreatDoorWalL1
namespace Go.Proofs.YtadnecgcoceklaaGreatDoor
open Go.RowKit Go.Maps

theorem fx_vg {W w : World} (hv : Vars W) (hb : Below W.heap.size W w) : VG (fun k => k < W.heap.size) w := ⟨W, hv, hb, fun _ hk => hk⟩
theorem newQ {G : Nat → Prop} {f : FuncId} {args : Array Value} {w W : World} {pb : Nat} {n l : Int} {r : Int × A} {a' : A} (h : Calls Tryz.prog f args W (NewAns G w pb n l r)) (h1 : r = (0, a')) :
    Calls Tryz.prog f args W fun e w' => ∃ lb, w.heap.size ≤ lb ∧ e = .returned (.tuple #[bp lb, .int .i64 0]) ∧ Lx G w' lb pb n.toNat l.toNat a' ∧ Stay G w w' := by
  subst h1
  refine h.mono ?_
  rintro e w' ⟨hS, ⟨h1, _⟩ | ⟨_, lb, h2, h3, h4⟩⟩
  · exact absurd rfl h1
  · exact ⟨lb, h2, h3, h4, hS⟩
theorem strs_of_own' {w : World} {B : Nat} {ad : Option Addr} {cap n : Nat} {l : List Rec} (h : w.ownsRow B 9 1 (.slice ad n cap) n (FR.strV (l.map strOf))) : StrsAt w ad (l.map strOf) := by
  have hc := fun g hg => World.ownsRow.cells h (g := g) hg
  rcases h.2 with ⟨he, h0⟩ | ⟨g, cap', cur, he, hB, hg, _⟩
  · left
    have hl := h.1
    rw [h0] at hl
    simp [FR.strV] at hl
    simp [hl]
  · cases he
    refine .inr ⟨g, 0, rfl, (Array.getElem?_eq_some_iff.1 hg).1, fun i hi => ?_⟩
    have := hc g rfl i (.string ((l.map strOf)[i])) (by
      unfold FR.strV
      rw [List.getElem?_map, List.getElem?_eq_getElem hi]; rfl)
    rw [addr_add] at this
    exact this
theorem own_new {w : World} {B n m cap : Nat} {t : TypeId} {ad : Option Addr} {xs : List Value} (h : w.ownsRow B t 1 (.slice ad n cap) m xs) : ∀ b off, ad = some ⟨b, off, none⟩ → B ≤ b ∧ b < w.heap.size := fun b off he => by
  rcases h.2 with ⟨he', h0⟩ | ⟨g, cap', cur, he', hB, hg, _⟩
  · cases he'; cases he
  · cases he'; cases he; exact ⟨hB, (Array.getElem?_eq_some_iff.1 hg).1⟩
theorem name17 : strB (wName 17) = ⟨#[48, 48, 48, 48, 49, 55, 46, 108, 111, 103]⟩ := by decide +kernel
theorem strOf120 : strOf [120] = ⟨#[120]⟩ := by decide +kernel
set_option maxRecDepth 100000 in
set_option maxHeartbeats 4000000 in
theorem logged_any (w : World) (hv : Vars w) : Calls Tryz.prog 9 #[] w fun e w' => e = .returned (.bool true) ∧ Below w.heap.size w w' := by
  obtain ⟨a1, a2, a3, a5, e1, e2, e3, e4, e5, e6, t1, t2, t3⟩ := logged_plain
  have HE1 := Lib.hid e1
  have HE2 := Lib.hid e2
  have HE3 := Lib.hid e3
  have HE45 := Lib.hid (And.intro e4 e5)
  have HE6 := Lib.hid e6
  have HT := Lib.hid (And.intro t1 (And.intro t2 t3))
  have HV := Lib.hid hv
  have kc := fun (w : World) (C : Array Value) (n c : Nat) => Lib.run_convert_bytes_const (P := Tryz.prog) w 47 5 C n c Tryz.underlying47 Tryz.underlying5
  have kmk : ∀ wx : World, (Instr.makeSlice 47 (.int .i64 200) (.int .i64 200)).run Tryz.prog wx = .ok (.slice (some ⟨wx.heap.size, 0, none⟩) 200 200) (wx.alloc (.cells (madeCells #[.int .u8 0] 200) 5)) := run_make_row 200 (by omega)
  have HN := Lib.hid (fx_new (G := fun k => k < w.heap.size) w 10000 (by omega) (fun k hk => hk))
  clear e1 e2 e3 e4 e5 e6 t1 t2 t3 hv
  go_enter Tryz.func9, Tryz.ntmps9
  go_wp2_with fail
  refine HN.out.mono ?_
  rintro e W1 ⟨rfl, h1, b1⟩
  have HNW := Lib.hid (newQ (New_any h1 (fx_vg HV.out b1) 1 100 ⟨by omega, by omega⟩ (by show (0 : Nat) + 1 < _; omega)) HE1.out)
  have HS := Lib.hid (show Stay (fun k => k < w.heap.size) w W1 from Stay.of_below b1)
  clear h1 b1 HN
  go_wp2_with fail
  refine HNW.out.mono ?_
  rintro e W2 ⟨lb, hlb, rfl, hl, hs⟩
  replace HS := Lib.hid (HS.out.trans hs)
  have HL : Hid (Lx (fun k => k < w.heap.size) W2 lb w.heap.size 1 100 a1) := Lib.hid hl
  have ll := hl.lt
  clear hl hs HNW hlb
  have HC := Lib.hid (lxQ (append_new HL.out (by omega) (by omega) (by rw [HT.out.1]; omega) (bel1 W2 (.cells (madeCells #[.int .u8 0] 200) 5)) (n := 200) (cap := 200) (FR.zs_made W2 200) ⟨Nat.le_refl _, by simp⟩ (FR.zs_len 200) (FR.zs_byte 200) (by omega) (by omega) false) HE2.out)
  go_wp2_with fail
  refine HC.out.mono ?_
  rintro e W3 ⟨rfl, hl, hs⟩
  replace HS := Lib.hid (HS.out.trans hs)
  replace HL := Lib.hid hl
  replace ll := hl.lt
  clear hl hs HC
  have HC := Lib.hid (lxQ (append_new HL.out (by omega) (by omega) (by rw [HT.out.2.1]; omega) (bel1 W3 (.cells (u8s [120]).toArray 5 (1, 2))) (n := 1) (cap := 1) (byt_build W3 [120] (1, 2)) ⟨Nat.le_refl _, by simp⟩ rfl (by decide) (by omega) (by omega) true) HE3.out)
  go_wp2_with fail
  refine HC.out.mono ?_
  rintro e W4 ⟨rfl, hl, hs⟩
  replace HS := Lib.hid (HS.out.trans hs)
  replace HL := Lib.hid hl
  replace ll := hl.lt
  clear hl hs HC
  have HNB := Lib.hid (Number_any HL.out)
  go_wp2_with fail
  refine HNB.out.mono ?_
  rintro e W5 ⟨rfl, rfl⟩
  clear HNB
  have HC := Lib.hid (lx_crash (zs := []) (ad := none) (cap := 0) HL.out (by rw [HT.out.2.2]; omega) ⟨.inl rfl, (fun _ _ h => by cases h), by decide⟩ rfl)
  go_wp2_with fail
  refine HC.out.mono ?_
  rintro e W5 ⟨rfl, hl, hs⟩
  replace HS := Lib.hid (HS.out.trans hs)
  replace HL := Lib.hid hl
  replace ll := hl.lt
  clear hl hs HC
  have htc : (a3.crash []).top < 536870912 := by have := crash_top a3 []; have := HT.out.2.2; omega
  have HRP := Lib.hid (Replay_any (HL.out.fx.mono (fun k hk => .inl hk)) HL.out.vg (by omega) 2 (by rw [HE45.out.2]; decide))
  rw [HE45.out.1, HE45.out.2] at HRP
  have HTC := Lib.hid htc
  clear htc
  go_wp2_with fail
  refine HRP.out.mono ?_
  rintro e W6 ⟨ad, cap, rfl, hrow, hb⟩
  have HDP := Lib.hid (Drop_any ((HL.out.fx.mono (G' := fun k => k < w.heap.size) (fun k hk => .inl hk)).grown hb) ((HL.out.vg.below hb).mono (fun k hk => .inl hk)) (by have := HTC.out; omega) 2)
  rw [HE6.out] at HDP
  have HST := Lib.hid (strs_of_own' hrow)
  have HNW := Lib.hid (own_new hrow)
  replace HS := Lib.hid (HS.out.trans (Stay.of_below hb))
  have HB6 := Lib.hid hb.size
  clear hrow hb HRP
  go_wp2_with fail
  refine HDP.out.mono ?_
  rintro e W7 ⟨rfl, hF, hs⟩
  dsimp only at hF ⊢
  have hst7 := hs.strs HST.out (fun b off he => .inr (HNW.out b off he))
  replace HS := Lib.hid (HS.out.trans (hs.mono fun k hk => .inl hk))
  have hst7' : StrsAt W7 ad [⟨#[120]⟩] := by rw [← strOf120]; exact hst7
  have HTX := Lib.hid (texts_any (ln := 1) (mn := 1) (c1 := cap) (c2 := 1) ((Stay.of_below (G := fun _ => True) (bel1 W7 (.cells #[.string ⟨#[120]⟩] 9))).strs hst7' (fun _ _ _ => trivial)) (strs_build W7 [⟨#[120]⟩]) rfl rfl (by decide))
  clear hst7 hst7' hF hs HDP HL ll
  go_wp2_with fail
  refine HTX.out.mono ?_
  rintro e W8 ⟨rfl, nq, rfl⟩
  have HS8 := Lib.hid ((HS.out.trans (Stay.alloc _ W7 (.cells #[.string ⟨#[120]⟩] 9))).trans (Stay.drewN _ _ nq))
  have HNA := Lib.hid (Name_any 17 ⟨by omega, by omega⟩ _ ((fx_vg HV.out (Below.refl _ _)).stay HS8.out).vars)
  rw [name17] at HNA
  go_wp2_with fail
  refine HNA.out.mono ?_
  rintro e W9 ⟨rfl, hb⟩
  have HB9 := Lib.hid (HS8.out.trans (Stay.of_below hb))
  clear hb HNA
  go_wp2
  go_ret
  exact ⟨rfl, HB9.out.below (Nat.le_refl _) fun k hk => hk⟩
end Go.Proofs.YtadnecgcoceklaaGreatDoor
