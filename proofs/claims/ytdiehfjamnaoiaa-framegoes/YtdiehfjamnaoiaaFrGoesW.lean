/-
  The law FrameGoes, walked.
-/
import Derived.Test.YtdiehfjamnaoiaaFrCutsW
namespace Go.Proofs.Ytdiehfjamnaoiaa
open Go.RowKit

/-- Texts (maybe none) appended to a row of texts of one's own; all blocks but the row's stay. -/
theorem appTs (B : Nat) (w : World) (v : Value) (ys zs : List ByteArray) (n m : Nat) (a : Option Addr) (cap : Nat) (hown : w.ownsRow B 9 1 v n (strV ys)) (hm : zs.length = m) (hy : Strs w a zs) (hnil : a = none → zs = [] ∧ cap = 0) (hB : B ≤ w.heap.size) (hl : n + m ≤ 1000000000) :
    ∃ v' w2, (Builtin.append_ #[31, 31] 31 #[v, .slice a m cap]).run Try.prog w = .ok v' w2 ∧ w2.ownsRow B 9 1 v' (n + m) (strV (ys ++ zs)) ∧ Below B w w2 ∧ ∀ q, q < w.heap.size → v.ownBlock ≠ some q → v'.ownBlock ≠ some q ∧ w2.heap[q]? = w.heap[q]? := by
  subst hm
  obtain ⟨i0, hi0, hz0, hz1, hz2⟩ := info_parts Try.info9
  cases a with
  | none =>
    obtain ⟨rfl, rfl⟩ := hnil rfl
    have hrun := run_append_owned_none (P := Try.prog) (w := w) B 31 31 9 i0 1 Try.underlying31 hi0 v n (strV ys) hown
    exact ⟨v, w, hrun, by rw [List.append_nil]; exact hown, Below.refl _ _, fun q _ h => ⟨h, rfl⟩⟩
  | some x =>
    have hc : ∀ j u, (strV zs)[j]? = some u → w.cell? (x.add j) = some u := by
      intro j u hu
      simp only [strV, List.getElem?_map, Option.map_eq_some_iff] at hu
      obtain ⟨y, hx, rfl⟩ := hu
      obtain ⟨hj, rfl⟩ := List.getElem?_eq_some_iff.1 hx
      rcases hy with h | ⟨b, off, e, _, hcl⟩
      · subst h; simp at hj
      · rw [Option.some.inj e, addr_add, hcl j hj]
    obtain ⟨v', w2, h1, h2, h3, _, h5⟩ := run_append_own_at (P := Try.prog) w B 31 31 9 i0 (.string ByteArray.empty) 1 16 Try.underlying31 hi0 hz0 hz1 hz2 rfl (by decide) v n (strV ys) hown x zs.length cap (strV zs) (by simp [strV]) hc (by intro u hu; simp only [strV, List.mem_map] at hu; obtain ⟨s, _, rfl⟩ := hu; rfl) (by unfold maxLen; omega) (by omega) (by omega)
    refine ⟨v', w2, h1, by unfold strV; rw [List.map_append]; exact h2, (Below.refl B w).grown h3 (by omega) (fun g hg => (hown.lt g hg).1), fun q hq hv => ⟨fun e => ?_, h3.block q hq (fun e => hv e.symm)⟩⟩
    rcases h5 with h5 | h5
    · exact hv (by rw [← h5]; exact e)
    · rw [h5] at e; have := Option.some.inj e; omega
/-- Records in bytes of one's own, and as texts. -/
structure Gone (B : Nat) (w : World) (gs : List (List Nat)) (vb vw : Value) : Prop where
  all : w.ownsRow B 5 1 vb (Frm.layL 0 gs).length (u8s (Frm.layL 0 gs))
  want : w.ownsRow B 9 1 vw gs.length (strV (gs.map strOf))
  ap : Apart vb vw
  byte : ∀ h ∈ gs, ∀ x ∈ h, x < 256
theorem Gone.keep {B : Nat} {w w' : World} {gs : List (List Nat)} {vb vw : Value} (h : Gone B w gs vb vw) (hb : Below w.heap.size w w') : Gone B w' gs vb vw :=
  ⟨own_keep h.all hb, own_keep h.want hb, h.ap, h.byte⟩
theorem Gone.more {B : Nat} {w : World} {gs : List (List Nat)} {vb vw : Value} (h : Gone B w gs vb vw) (hB : B ≤ w.heap.size) (hl : gs.length ≤ 10000) (r : List Nat) (hr : ∀ x ∈ r, x < 256) (hrl : r.length ≤ 800) (h5 : (Frm.layL 0 gs).length < 500000)
    (ab : Option Addr) (cb L : Nat) (hL : (Frm.frameL (Frm.layL 0 gs).length r).length = L) (hy : Byt w ab (Frm.frameL (Frm.layL 0 gs).length r)) (hno : ab = none → Frm.frameL (Frm.layL 0 gs).length r = []) :
    ∃ vb' vw' w1 w2, (Builtin.append_ #[22, 22] 22 #[vb, .slice ab L cb]).run Try.prog w = .ok vb' w1 ∧
      (∃ a' c', vb' = .slice a' ((Frm.layL 0 gs).length + L) c') ∧
      (Builtin.append_ #[31, 31] 31 #[vw, .slice (some ⟨w1.heap.size, 0, none⟩) 1 1]).run Try.prog (w1.alloc (.cells #[.string (strOf r)] 9)) = .ok vw' w2 ∧
      Gone B w2 (gs ++ [r]) vb' vw' ∧ Below B w w2 := by
  have hno' : ab ≠ none := fun e => by
    have h1 := hno e
    have h2 := Frm.frameL_pos (Frm.layL 0 gs).length r
    rw [h1] at h2; simp at h2
  have hfl := Frm.frameL_len (Frm.layL 0 gs).length r
  have eL : Frm.layL 0 (gs ++ [r]) = Frm.layL 0 gs ++ Frm.frameL (Frm.layL 0 gs).length r := by rw [Frm.layL_snoc, Nat.zero_add]
  have eLl : (Frm.layL 0 (gs ++ [r])).length = (Frm.layL 0 gs).length + L := by rw [eL, List.length_append, hL]
  obtain ⟨vb', w1, r1, o1, b1, k1⟩ := appU B w vb (Frm.layL 0 gs) (Frm.frameL (Frm.layL 0 gs).length r) (Frm.layL 0 gs).length ab cb h.all hy (fun e => absurd e hno') hB (by omega)
  rw [hL] at r1 o1
  have s1 := b1.size
  have W1 : w1.ownsRow B 9 1 vw gs.length (strV (gs.map strOf)) := own_stay h.want (fun q hq => (k1 q (own_ltE h.want hq) (h.ap.symm q hq)).2)
  have A1 : Apart vb' vw := Apart.symm (fun q hq => (k1 q (own_ltE h.want hq) (h.ap.symm q hq)).1)
  obtain ⟨vw', w2, r2, o2, b2, k2⟩ := appT B w1 vw (gs.map strOf) (strOf r) gs.length W1 (by omega) (by omega)
  have A2 := own_stay o1 (fun q hq => (k2 q (own_ltE o1 hq) (A1 q hq)).2)
  have AP2 : Apart vb' vw' := fun q hq => (k2 q (own_ltE o1 hq) (A1 q hq)).1
  obtain ⟨a', c', hv, _⟩ := byt_of_own o1
  refine ⟨vb', vw', w1, w2, r1, ⟨a', c', ?_⟩, r2, ⟨?_, ?_, AP2, ?_⟩, b1.trans b2⟩
  · rw [hv, List.length_append, hL]
  · rw [eLl, eL]; exact A2
  · rw [List.map_append, List.length_append]; exact o2
  · intro x hx
    rcases List.mem_append.1 hx with h1 | h1
    · exact h.byte x h1
    · simp at h1; subst h1; exact hr
namespace frameGoes
set_option maxRecDepth 100000 in
set_option maxHeartbeats 4000000 in
theorem walk (a0 : Option Addr) (len0 cap0 : Nat) (z0 : List ByteArray) (a1 : Int) (a2 : Option Addr) (len2 cap2 : Nat) (z2 : List ByteArray) (W : World) (w0 : IsStrs W a0 len0 cap0 z0) (_w1 : (Lit.int .i64 a1).wf = true) (w2 : IsStrs W a2 len2 cap2 z2) :
    Calls Try.prog 7 #[.slice a0 len0 cap0, .int .i64 a1, .slice a2 len2 cap2] W fun e w' => e = .returned (.bool true) ∧ Below W.heap.size W w' := by
  obtain ⟨hzl, hz, hzc, hzs⟩ := w0
  have HZ2 := Lib.hid w2
  have HL := Lib.hid (lay_any W a0 len0 cap0 z0 hz hzl hzs)
  clear hz hzs hzl w2
  go_enter Try.func7, Try.ntmps7
  go_wp2_with fail
  refine HL.out.mono ?_
  rintro e W1 ⟨hs, va, ve, vh, rfl, hle, hlaid, hb1⟩
  obtain ⟨aa, ca, rfl, hby, hno, hca⟩ := byt_of_own hlaid.all
  obtain ⟨ae, ce, rfl⟩ := own_slice hlaid.ends
  obtain ⟨ah, ch, rfl⟩ := own_slice hlaid.had
  have hsm := hlaid.small
  have hct := hlaid.count
  have HLB := Lib.hid (Frm.layL_byte 0 hs hlaid.byte)
  have HHB := Lib.hid hlaid.byte
  have HB1 := Lib.hid hb1
  have s1 := hb1.size
  have HF1 := Lib.hid (framed_any W1)
  obtain ⟨LL, hLL⟩ : ∃ LL, (Frm.layL 0 hs).length = LL := ⟨_, rfl⟩
  rw [hLL] at hsm hca ⊢
  have HLL := Lib.hid hLL
  have HBY := Lib.hid hby
  have HNC : Hid (aa = none → Frm.layL 0 hs = [] ∧ ca = 0) := Lib.hid (fun e => by
    subst e
    rcases hlaid.all.2 with ⟨h, h0⟩ | ⟨g, cap, cur, h, _⟩
    · injection h with _ _ h3
      exact ⟨List.length_eq_zero_iff.1 h0, h3⟩
    · cases h)
  clear hby hlaid hb1 hLL HL hno
  go_wp2_with fail
  refine HF1.out.mono ?_
  rintro e W2 ⟨rfl, hb2⟩
  have HB2 := Lib.hid (HB1.out.trans (hb2.mono s1))
  have s2 := HB2.out.size
  have HBY2 := Lib.hid (HBY.out.keep hb2)
  clear hb2 HF1 HB1 HBY
  obtain ⟨c, hc, hce⟩ := modM a1 (LL + 1) (by omega) (by omega)
  have hce' : wrap64 ((IntKind.u64.wrap a1).tmod ((LL : Int) + 1)) = (c : Int) := by simpa using hce
  have hz1 : ¬ ((LL : Int) + 1 = 0) := by omega
  have hcl : c ≤ LL := by omega
  have hrun := fun wx => run_part_to (w := wx) (a := aa) LL ca c (by omega)
  obtain ⟨D, hD⟩ : ∃ D, (Frm.layL 0 hs).take c = D := ⟨_, rfl⟩
  have hDl : D.length = c := by rw [← hD, List.length_take, HLL.out]; omega
  have hDb : ∀ x ∈ D, x < 256 := by rw [← hD]; exact fun x hx => HLB.out x (List.mem_of_mem_take hx)
  have hby2 : Byt W2 (part aa ca 0) D := by
    have h2 := HBY2.out.part ca 0 c (by rw [HLL.out]; exact hca) (Nat.zero_le _) (by rw [HLL.out]; exact hcl)
    rw [hD, List.drop_zero] at h2; exact h2
  have hsc := Scan_any W2 (part aa ca 0) ca D hby2 hDb (by rw [hDl]; omega) (by rw [hDl]; omega)
  have hst : Frm.scanR 0 D 0 [] false = (hs.take (Frm.whN 0 hs c), Frm.endN 0 hs (Frm.whN 0 hs c)) := by rw [← hD, Frm.scan_take, Nat.zero_add]
  rw [hst, hDl] at hsc
  obtain ⟨hw1, hw2, _⟩ := Frm.wh_spec 0 hs c
  have hlt := Frm.layL_take 0 hs (Frm.whN 0 hs c)
  obtain ⟨w, hw⟩ : ∃ w, Frm.whN 0 hs c = w := ⟨_, rfl⟩
  rw [hw] at hw1 hw2 hlt hsc
  obtain ⟨E, hE⟩ : ∃ E, Frm.endN 0 hs w = E := ⟨_, rfl⟩
  rw [hE] at hw2 hlt hsc
  have hEl : (Frm.layL 0 (hs.take w)).length = E := hE
  have hgw : (hs.take w).length = w := by rw [List.length_take]; omega
  obtain ⟨G, hG⟩ : ∃ G, hs.take w = G := ⟨_, rfl⟩
  have hGb : ∀ h ∈ G, ∀ x ∈ h, x < 256 := by rw [← hG]; exact fun h hh => HHB.out h (List.mem_of_mem_take hh)
  rw [hG] at hsc hlt hEl hgw
  have HSC := Lib.hid hsc
  have HLT := Lib.hid hlt
  have HEL := Lib.hid hEl
  have HGW := Lib.hid hgw
  have HGB := Lib.hid hGb
  have hwt : w ≤ 2000 := by omega
  have hrun2 := fun wx => run_part_to (w := wx) (a := aa) LL ca E (by omega)
  clear hce hD hDl hDb hby2 hsc hst hw1 hlt hw hE hEl hgw hG hGb HHB
  go_wp2_with fail
  refine HSC.out.mono ?_
  rintro e W3 ⟨v3, rfl, ho3, hb3⟩
  obtain ⟨al, cl, rfl, hll, hls, hcl3⟩ := strs_of_own ho3
  dsimp only
  rw [HGW.out]
  rw [HGW.out] at hcl3
  have s3 := hb3.size
  have HB3 := Lib.hid (HB2.out.trans (hb3.mono s2))
  have haln : al = none → G.map strOf = [] ∧ cl = 0 := fun e => by
    subst e
    rcases ho3.2 with ⟨h, h0⟩ | ⟨g, cap, cur, h, _⟩
    · injection h with _ _ h3
      have h0' : G.length = 0 := h0
      exact ⟨by rw [List.length_eq_zero_iff.1 h0']; rfl, h3⟩
    · cases h
  have hbyE : Byt (W3.alloc (.cells #[] 5)) (part aa ca 0) (Frm.layL 0 G) := by
    have h2 := ((HBY2.out.keep hb3).keep (below_alloc (Nat.le_refl _) (.cells #[] 5))).part ca 0 E (by rw [HLL.out]; exact hca) (Nat.zero_le _) (by rw [HLL.out]; omega)
    rw [List.drop_zero, ← HLT.out] at h2; exact h2
  obtain ⟨vb, W4, rb, ob, bb, -⟩ := appU W3.heap.size (W3.alloc (.cells #[] 5)) _ [] (Frm.layL 0 G) 0 (part aa ca 0) ca (own_new0 W3 W3.heap.size 5 (Nat.le_refl _)) hbyE (fun e => by
    obtain ⟨h1, h2⟩ := HNC.out (part_none e)
    exact ⟨by rw [HLT.out, h1, List.take_nil], h2⟩) (by simp) (by rw [HEL.out]; omega)
  rw [HEL.out, Nat.zero_add, List.nil_append] at ob
  rw [HEL.out] at rb
  have hb4 : Below W3.heap.size W3 W4 := (below_alloc (Nat.le_refl _) (.cells #[] 5)).trans bb
  have s4 := hb4.size
  obtain ⟨vw, W5, rw5, ow, bw, kw⟩ := appTs W3.heap.size (W4.alloc (.cells #[] 9)) _ [] (G.map strOf) 0 w al cl (own_new0 W4 W3.heap.size 9 s4) (by rw [List.length_map]; exact HGW.out) ((hls.keep hb4).keep (below_alloc (Nat.le_refl _) _)) haln (by simp; omega) (by omega)
  rw [Nat.zero_add, List.nil_append] at ow
  have hb5 : Below W3.heap.size W3 W5 := hb4.trans ((below_alloc s4 (.cells #[] 9)).trans bw)
  have ob4 := own_keep ob (below_alloc (Nat.le_refl _) (.cells #[] 9))
  have hkq : ∀ q, vb.ownBlock = some q → vw.ownBlock ≠ some q ∧ W5.heap[q]? = (W4.alloc (.cells #[] 9)).heap[q]? := fun q hq => by
    have hq4 : q < W4.heap.size := own_ltE ob hq
    exact kw q (by simp; omega) (fun e => by have : W4.heap.size = q := Option.some.inj e; omega)
  have hg5 : Gone W3.heap.size W5 G vb vw := ⟨by rw [HEL.out]; exact own_stay ob4 (fun q hq => (hkq q hq).2), by rw [HGW.out]; exact ow, fun q hq => (hkq q hq).1, HGB.out⟩
  have HG5 := Lib.hid hg5
  have HB5 := Lib.hid hb5
  obtain ⟨ab, cb, rfl⟩ := own_slice ob
  obtain ⟨aw, cw, rfl⟩ := own_slice ow
  have hEL := HEL.out
  have HW3 := Lib.hid HB3.out.size
  clear hbyE ob bb hb4 ow bw kw hb5 ob4 hkq hg5 hls haln hll ho3 hb3 HSC HBY2 HNC HLT HGB hcl3
  go_wp2_with (at_builtin; first | refine wpList_app_run rfl rfl rb rfl rfl ?_ | refine wpList_app_run rfl rfl rw5 rfl rfl ?_)
  go_loopw [12, 13, 14, 15, 16, 17] (fun u12 u13 u14 _ _ _ wr => ∃ (i : Nat) (gs : List (List Nat)) (ab : Option Addr) (cb : Nat), u14 = .int .i64 (i : Int) ∧ i ≤ 10 ∧ i ≤ len2 ∧ gs.length = w + i ∧ u12 = .slice ab (Frm.layL 0 gs).length cb ∧ Gone W3.heap.size wr gs u12 u13 ∧ (Frm.layL 0 gs).length ≤ 10000 + 2000 * i ∧ Below W3.heap.size W3 wr) (fun _ _ u14 _ _ _ _ => 10 - (intOf u14).toNat)
  case atStart => exact ⟨0, G, ab, cb, rfl, by omega, Nat.zero_le _, HGW.out, by rw [HEL.out], HG5.out, by rw [HEL.out]; omega, HB5.out⟩
  case round =>
    obtain ⟨i, gs, ag, cg, rfl, hi10, hi2, hgl, rfl, hgone, hsmi, hbel⟩ := hrel
    have hws := hbel.size
    have HGO := Lib.hid hgone
    have HBE := Lib.hid hbel
    have HGL := Lib.hid hgl
    obtain ⟨LI, hLI⟩ : ∃ LI, (Frm.layL 0 gs).length = LI := ⟨_, rfl⟩
    rw [hLI] at hsmi ⊢
    have HLI := Lib.hid hLI
    clear hgone hbel hLI hgl HG5 HB5 hEL rb rw5
    by_cases hgo : i < len2 ∧ i < 10
    · obtain ⟨g1, g2⟩ := hgo
      have hiz : i < z2.length := by rw [HZ2.out.1]; exact g1
      obtain ⟨zb, zo, rfl, hzl, hzc2⟩ := HZ2.out.2.1.at hiz
      obtain ⟨S0, hS0⟩ : ∃ S0, z2[i] = S0 := ⟨_, rfl⟩
      rw [hS0] at hzc2
      have hs0 : S0.size ≤ 9223372036854775807 := by rw [← hS0]; exact HZ2.out.2.2.2 _ (List.getElem_mem hiz)
      obtain ⟨k, hk⟩ : ∃ k, min S0.size 500 = k := ⟨_, rfl⟩
      have hm1 := fun ts t wx => run_min2 (P := Try.prog) (w := wx) ts t (S0.size : Int) 500 (k : Int) (by omega)
      have l1 : k ≤ S0.size := by omega
      have l2 : k ≤ 500 := by omega
      have hBW : Below W.heap.size W wr := HB3.out.trans (HBE.out.mono HW3.out)
      have HBW := Lib.hid hBW
      have hSI : wr.drew.cell? ⟨zb, zo + i, none⟩ = some (.string S0) := ((hBW.trans (below_drewN _ _ 1)).cell (p := ⟨zb, zo + i, none⟩) hzl).trans hzc2
      have HSI := Lib.hid hSI
      have hxs : (S0.extract 0 k).size = k := by rw [ByteArray.size_extract]; omega
      obtain ⟨cT, wT, rT, hcT, hbT, hBT⟩ := conv_new wr.drew (S0.extract 0 k) wr.heap.size rfl
      have hFr := Frame_any wT LI (by omega) (some ⟨wr.heap.size, 0, none⟩) cT (natsOf (S0.extract 0 k)) hbT (natsOf_byte _) (by rw [natsOf_length]; exact hcT) (fun h => by cases h) (by rw [natsOf_length]; omega)
      rw [natsOf_length] at hFr
      obtain ⟨X, hX⟩ : ∃ X, S0.extract 0 k = X := ⟨_, rfl⟩
      rw [hX] at hFr rT hbT hxs
      rw [hxs] at hFr rT
      have HFR := Lib.hid hFr
      have HBT : Hid (Below wr.heap.size wr wT) := Lib.hid ((below_drewN _ wr 1).trans hBT)
      have HX : Hid ((natsOf X).length = k ∧ strOf (natsOf X) = X) := Lib.hid ⟨by rw [natsOf_length]; exact hxs, strOf_natsOf X⟩
      clear hzc2 hFr hbT hBT hS0 hSI hk hcT hBW
      go_wp2_with fail
      refine wp_region_held_drew (S := fun w' => w'.cell? ⟨zb, zo + i, none⟩ = some (.string S0)) (by kernel_rfl) HSI.out (fun hHeld => ?_)
      refine wpAnyH_take (i := 0) (v := ?_) rfl (by kernel_rfl) (by kernel_rfl) (by kernel_rfl) (fun _ _ _ h => h) (Or.inl ⟨by rfl, ?_⟩) hHeld ?_
      rotate_left
      · (intro wx hSw; (try dsimp only at hSw); first | (go_simp; done) | (go_simp; with_reducible rfl))
      simp only [Act.put, List.getElem_toArray, List.getElem_cons_zero, List.setIfInBounds_toArray, List.set_cons_zero, List.set_cons_succ]
      refine wpAnyH_take (i := 1) (v := ?_) rfl (by kernel_rfl) (by kernel_rfl) (by kernel_rfl) (fun _ _ _ h => h) (Or.inl ⟨by rfl, ?_⟩) hHeld ?_
      rotate_left
      · (intro wx hSw; (try dsimp only at hSw); first | (go_simp; done) | (go_simp; with_reducible rfl))
      simp only [Act.put, List.getElem_toArray, List.getElem_cons_zero, List.getElem_cons_succ, List.setIfInBounds_toArray, List.set_cons_zero, List.set_cons_succ]
      refine wpAnyH_take (i := 2) (v := ?_) rfl (by kernel_rfl) (by kernel_rfl) (by kernel_rfl) (fun _ _ _ h => h) (Or.inl ⟨by rfl, ?_⟩) hHeld ?_
      rotate_left
      · (intro wx hSw; (try dsimp only at hSw); first | (go_simp; done) | (go_simp; with_reducible rfl))
      simp only [Act.put, List.getElem_toArray, List.getElem_cons_zero, List.getElem_cons_succ, List.setIfInBounds_toArray, List.set_cons_zero, List.set_cons_succ]
      refine wpAnyH_take (i := 3) (v := ?_) rfl (by kernel_rfl) (by kernel_rfl) (by kernel_rfl) (fun _ _ _ h => h) (Or.inl ⟨by rfl, ?_⟩) hHeld ?_
      rotate_left
      · (intro wx hSw; (try dsimp only at hSw); first | (go_simp; done) | (go_simp; with_reducible rfl))
      simp only [Act.put, List.getElem_toArray, List.getElem_cons_zero, List.getElem_cons_succ, List.setIfInBounds_toArray, List.set_cons_zero, List.set_cons_succ]
      refine wpAnyH_take (i := 4) (v := ?_) rfl (by kernel_rfl) (by kernel_rfl) (by kernel_rfl) (fun _ _ _ h => h) (Or.inl ⟨by rfl, ?_⟩) hHeld ?_
      rotate_left
      · (intro wx hSw; (try dsimp only at hSw); first | (go_simp; done) | (go_simp; with_reducible rfl))
      simp only [Act.put, List.getElem_toArray, List.getElem_cons_zero, List.getElem_cons_succ, List.setIfInBounds_toArray, List.set_cons_zero, List.set_cons_succ]
      refine wpAnyH_take (i := 5) (v := ?_) rfl (by kernel_rfl) (by kernel_rfl) (by kernel_rfl) (fun _ _ _ h => h) (Or.inl ⟨by rfl, ?_⟩) hHeld ?_
      rotate_left
      · (intro wx hSw; (try dsimp only at hSw); first | (go_simp; done) | (go_simp; with_reducible rfl))
      simp only [Act.put, List.getElem_toArray, List.getElem_cons_zero, List.getElem_cons_succ, List.setIfInBounds_toArray, List.set_cons_zero, List.set_cons_succ]
      refine wpAnyH_take (i := 6) (v := ?_) rfl (by kernel_rfl) (by kernel_rfl) (by kernel_rfl) (fun _ _ _ h => h) (Or.inl ⟨by rfl, ?_⟩) hHeld ?_
      rotate_left
      · (intro wx hSw; (try dsimp only at hSw); first | (go_simp; done) | (go_simp; with_reducible rfl))
      simp only [Act.put, List.getElem_toArray, List.getElem_cons_zero, List.getElem_cons_succ, List.setIfInBounds_toArray, List.set_cons_zero, List.set_cons_succ]
      refine wpAnyH_take (i := 7) (v := ?_) rfl (by kernel_rfl) (by kernel_rfl) (by kernel_rfl) (fun _ _ _ h => h) (Or.inl ⟨by rfl, ?_⟩) hHeld ?_
      rotate_left
      · (intro wx hSw; (try dsimp only at hSw); first | (go_simp; done) | (go_simp; with_reducible rfl))
      simp only [Act.put, List.getElem_toArray, List.getElem_cons_zero, List.getElem_cons_succ, List.setIfInBounds_toArray, List.set_cons_zero, List.set_cons_succ]
      refine wpAnyH_take (i := 8) (v := ?_) rfl (by kernel_rfl) (by kernel_rfl) (by kernel_rfl) (fun _ _ _ h => h) (Or.inl ⟨by rfl, ?_⟩) hHeld ?_
      rotate_left
      · (intro wx hSw; (try dsimp only at hSw); first | (go_simp; done) | (go_simp; with_reducible rfl))
      simp only [Act.put, List.getElem_toArray, List.getElem_cons_zero, List.getElem_cons_succ, List.setIfInBounds_toArray, List.set_cons_zero, List.set_cons_succ]
      refine wpAnyH_take (i := 9) (v := ?_) rfl (by kernel_rfl) (by kernel_rfl) (by kernel_rfl) (fun _ _ _ h => h) (Or.inl ⟨by rfl, ?_⟩) hHeld ?_
      rotate_left
      · (intro wx hSw; (try dsimp only at hSw); first | (go_simp; done) | (go_simp; with_reducible rfl))
      simp only [Act.put, List.getElem_toArray, List.getElem_cons_zero, List.getElem_cons_succ, List.setIfInBounds_toArray, List.set_cons_zero, List.set_cons_succ]
      refine wpAnyH_take (i := 10) (v := ?_) rfl (by kernel_rfl) (by kernel_rfl) (by kernel_rfl) (fun _ _ _ h => h) (Or.inl ⟨by rfl, ?_⟩) hHeld ?_
      rotate_left
      · (intro wx hSw; (try dsimp only at hSw); first | (go_simp; done) | (go_simp; with_reducible rfl))
      simp only [Act.put, List.getElem_toArray, List.getElem_cons_zero, List.getElem_cons_succ, List.setIfInBounds_toArray, List.set_cons_zero, List.set_cons_succ]
      refine wpAnyH_take (i := 11) (v := ?_) rfl (by kernel_rfl) (by kernel_rfl) (by kernel_rfl) (fun _ _ _ h => h) (Or.inl ⟨by rfl, ?_⟩) hHeld ?_
      rotate_left
      · (intro wx hSw; (try dsimp only at hSw); first | (go_simp; done) | (go_simp; with_reducible rfl))
      simp only [Act.put, List.getElem_toArray, List.getElem_cons_zero, List.getElem_cons_succ, List.setIfInBounds_toArray, List.set_cons_zero, List.set_cons_succ]
      refine wpAnyH_done (by kernel_rfl) ?_ _
      go_wp2_with fail
      refine HFR.out.mono ?_
      rintro e Wf ⟨vf, rfl, hof, hbf⟩
      obtain ⟨af, cf, rfl, hyf, hnof, hcf⟩ := byt_of_own hof
      have sT := HBT.out.size
      have hbf' : Below wr.heap.size wr Wf := HBT.out.trans (hbf.mono sT)
      obtain ⟨L, hL⟩ : ∃ L, (Frm.frameL LI (natsOf X)).length = L := ⟨_, rfl⟩
      have hfl := Frm.frameL_len LI (natsOf X)
      rw [hL, HX.out.1] at hfl
      have hmore := (HGO.out.keep hbf').more (by have := hbf'.size; omega) (by rw [HGL.out]; omega) (natsOf X) (natsOf_byte X) (by rw [HX.out.1]; omega) (by rw [HLI.out]; omega) af cf L (by rw [HLI.out]; exact hL) (by rw [HLI.out]; exact hyf) (by rw [HLI.out]; exact hnof)
      rw [HLI.out, HX.out.2] at hmore
      obtain ⟨vb', vw', w1, w2, r1, ⟨a', c', rfl⟩, r2, hgone', hb'⟩ := hmore
      have hl2 : (Frm.layL 0 (gs ++ [natsOf X])).length = LI + L := by rw [Frm.layL_snoc, Nat.zero_add, List.length_append, HLI.out, hL]
      have HL2 := Lib.hid hl2
      have HGN := Lib.hid hgone'
      have HBN := Lib.hid ((HBE.out.trans (hbf'.mono hws)).trans hb')
      have HH1 : Hid ((gs ++ [natsOf X]).length = w + (i + 1)) := Lib.hid (by rw [List.length_append, HGL.out]; rfl)
      have HFL := Lib.hid hfl
      rw [hL]
      clear hof hyf hnof hbf hbf' hgone' hb' hl2 hL HFR HX HGO HBT hcf hfl
      go_wp2_with (at_builtin; first | refine wpList_app_run rfl rfl r1 rfl rfl ?_ | refine wpList_app_run rfl rfl r2 rfl rfl ?_)
      go_roundw
      case rel => exact ⟨i + 1, gs ++ [natsOf X], a', c', by go_num, by omega, by omega, HH1.out, by rw [HL2.out], HGN.out, by rw [HL2.out]; have := HFL.out; omega, HBN.out⟩
      case measure => simp [intOf]; omega
    · have hsc : Calls Try.prog 16 #[.slice ag LI cg] wr (ScanV wr (gs, LI)) := by
        obtain ⟨a', c', e', hbl, _, hcl'⟩ := byt_of_own HGO.out.all
        injection e' with e1 _ e3
        have h := Scan_any wr a' c' (Frm.layL 0 gs) hbl (Frm.layL_byte 0 gs HGO.out.byte) hcl' (by rw [HLI.out]; omega)
        rw [scan_all, HLI.out] at h
        rw [e1, e3]; exact h
      have HSC := Lib.hid hsc
      obtain ⟨aw', cw', hvw, hwl, hws', hwc⟩ := strs_of_own HGO.out.want
      subst hvw
      have HWS := Lib.hid hws'
      have HWR := Lib.hid (show W.heap.size ≤ wr.heap.size by have := HW3.out; omega)
      obtain ⟨N, hN⟩ : ∃ N, gs.length = N := ⟨_, rfl⟩
      have hNw : N ≤ 3000 := by rw [← hN, HGL.out]; omega
      rw [hN]
      have HN := Lib.hid hN
      clear hsc hws' hwl hwc hN HGO HGL
      by_cases g1 : i < len2
      · have g2 : ¬ i < 10 := fun h => hgo ⟨g1, h⟩
        clear hgo
        go_wp2_with fail
        refine HSC.out.mono ?_
        rintro e X1 ⟨v7, rfl, ho7, hb7⟩
        obtain ⟨al7, cl7, rfl, hll7, hls7, hcl7⟩ := strs_of_own ho7
        have hX7 : Below W.heap.size W X1 := (HB3.out.trans (HBE.out.mono HW3.out)).trans (hb7.mono HWR.out)
        dsimp only
        rw [HN.out]
        have hT := Texts_any X1 al7 aw' N N cl7 cw' (gs.map strOf) (gs.map strOf) hls7 (HWS.out.keep hb7) (by rw [List.length_map]; exact HN.out) (by rw [List.length_map]; exact HN.out) (by omega) (by omega)
        rw [decide_eq_true rfl] at hT
        have HT := Lib.hid hT
        have HE := Lib.hid hX7
        have s7 := hX7.size
        clear hT hls7 hb7 ho7 hll7 hcl7 HSC hX7
        go_wp2_with fail
        refine HT.out.mono ?_
        rintro e X2 ⟨rfl, hb8⟩
        have HE8 := Lib.hid (HE.out.trans (hb8.mono s7))
        clear hb8
        by_cases hN0 : N = 0
        · have q1 : ((N : Int) == 0) = true := by simp [hN0]
          clear hN0
          go_wp2
          go_ret
          exact ⟨rfl, HE8.out⟩
        · have q1 : ((N : Int) == 0) = false := by simp [hN0]
          clear hN0
          go_wp2
          go_ret
          exact ⟨rfl, HE8.out⟩
      · clear hgo
        go_wp2_with fail
        refine HSC.out.mono ?_
        rintro e X1 ⟨v7, rfl, ho7, hb7⟩
        obtain ⟨al7, cl7, rfl, hll7, hls7, hcl7⟩ := strs_of_own ho7
        have hX7 : Below W.heap.size W X1 := (HB3.out.trans (HBE.out.mono HW3.out)).trans (hb7.mono HWR.out)
        dsimp only
        rw [HN.out]
        have hT := Texts_any X1 al7 aw' N N cl7 cw' (gs.map strOf) (gs.map strOf) hls7 (HWS.out.keep hb7) (by rw [List.length_map]; exact HN.out) (by rw [List.length_map]; exact HN.out) (by omega) (by omega)
        rw [decide_eq_true rfl] at hT
        have HT := Lib.hid hT
        have HE := Lib.hid hX7
        have s7 := hX7.size
        clear hT hls7 hb7 ho7 hll7 hcl7 HSC hX7
        go_wp2_with fail
        refine HT.out.mono ?_
        rintro e X2 ⟨rfl, hb8⟩
        have HE8 := Lib.hid (HE.out.trans (hb8.mono s7))
        clear hb8
        by_cases hN0 : N = 0
        · have q1 : ((N : Int) == 0) = true := by simp [hN0]
          clear hN0
          go_wp2
          go_ret
          exact ⟨rfl, HE8.out⟩
        · have q1 : ((N : Int) == 0) = false := by simp [hN0]
          clear hN0
          go_wp2
          go_ret
          exact ⟨rfl, HE8.out⟩
end frameGoes
end Go.Proofs.Ytdiehfjamnaoiaa
