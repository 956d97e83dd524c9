/-
  The law FrameCuts, walked.
-/
import Derived.Test.YtdiehfjamnaoiaaFrBackW
import Derived.Test.YtdiehfjamnaoiaaFrPure2
import Derived.Test.YtdiehfjamnaoiaaFrRoomsW
namespace Go.Proofs.Ytdiehfjamnaoiaa
open Go.RowKit

theorem own_new0 (w : World) (B : Nat) (e : TypeId) (hB : B ≤ w.heap.size) : (w.alloc (.cells #[] e)).ownsRow B e 1 (.slice (some ⟨w.heap.size, 0, none⟩) 0 0) 0 [] :=
  ⟨rfl, .inr ⟨w.heap.size, 0, #[], rfl, hB, heap_alloc_new w _, Nat.le_refl _, by unfold maxLen; omega, rfl, rfl⟩⟩
/-- A byte of a row of one's own is written. -/
theorem own_setB {w : World} {B g n cap : Nat} {l : List Nat} (h : w.ownsRow B 5 1 (.slice (some ⟨g, 0, none⟩) n cap) n (u8s l)) {i : Nat} (y : Nat) :
    (w.setCell ⟨g, i, none⟩ (.int .u8 (y : Int))).ownsRow B 5 1 (.slice (some ⟨g, 0, none⟩) n cap) n (u8s (l.set i y)) ∧ w.frozen? ⟨g, i, none⟩ = false := by
  have hl := own_len h
  rcases h.2 with ⟨h1, _⟩ | ⟨g', cap', cur, he, hB, hb, h1, h2, h3, h4⟩
  · cases h1
  · injection he with he1 he2 he3
    injection he1 with he1
    injection he1 with he1
    subst he1; subst he3
    refine ⟨⟨by simp [u8s, hl], .inr ⟨g, cap, _, rfl, hB, Go.Joins.block_setCell hb _, h1, h2, by simpa using h3, ?_⟩⟩, by simp [World.frozen?, hb]⟩
    simp only [Nat.mul_one] at h3 h4 ⊢
    have e : u8s (l.set i y) = (u8s l).set i (.int .u8 (y : Int)) := by unfold u8s; rw [List.map_set]
    rw [e, ← h4]
    rw [Array.toList_setIfInBounds, List.take_set]
theorem run_strs_to {w : World} {g : Nat} (len cap q : Nat) (hq : q ≤ cap) :
    (Instr.slice 31 (.slice (some ⟨g, 0, none⟩) len cap) none (some (.int .i64 (q : Int))) none).run Try.prog w = .ok (.slice (some ⟨g, 0, none⟩) q cap) w := by
  have hel : Try.prog.elem 31 = 9 := by kernel_rfl
  rw [run_slice_h (P := Try.prog) w 31 (some ⟨g, 0, none⟩) len cap (by rw [hel]; exact Try.underlying31) .i64 q (by omega) (by omega), hel]
  by_cases h : cap = 0
  · simp [go_sem, sliced, h]
  · simp [go_sem, sliced, h, Addr.add]
theorem Strs.take {w : World} {a : Option Addr} {ss : List ByteArray} (h : Strs w a ss) (k : Nat) : Strs w a (ss.take k) := by
  rcases h with h | ⟨b, off, h1, h2, h3⟩
  · left; rw [h, List.take_nil]
  · exact .inr ⟨b, off, h1, h2, fun i hi => by
      rw [List.length_take] at hi
      rw [List.getElem_take]; exact h3 i (by omega)⟩
theorem int_cell {w : World} {B g n cap : Nat} {l : List Nat} (h : w.ownsRow B 3 1 (.slice (some ⟨g, 0, none⟩) n cap) n (intV l)) {i : Nat} (hi : i < n) : w.cell? ⟨g, i, none⟩ = some (.int .i64 ((l.getD i 0 : Nat) : Int)) := by
  have hl : l.length = n := by have := h.1; simp [intV] at this; omega
  have := World.ownsRow.cells h (g := g) rfl i (.int .i64 ((l.getD i 0 : Nat) : Int)) (by
    have hg : l.getD i 0 = l[i]'(by omega) := by rw [List.getD_eq_getElem?_getD, List.getElem?_eq_getElem (show i < l.length by omega)]; rfl
    rw [hg]
    simp [intV, hl, hi])
  rw [addr_add, Nat.zero_add] at this; exact this
theorem byte_cell {w : World} {B g n cap : Nat} {l : List Nat} (h : w.ownsRow B 5 1 (.slice (some ⟨g, 0, none⟩) n cap) n (u8s l)) {i : Nat} (hi : i < n) : w.cell? ⟨g, i, none⟩ = some (.int .u8 ((l.getD i 0 : Nat) : Int)) := by
  have hl := own_len h
  have := World.ownsRow.cells h (g := g) rfl i (.int .u8 ((l.getD i 0 : Nat) : Int)) (by
    have hg : l.getD i 0 = l[i]'(by omega) := by rw [List.getD_eq_getElem?_getD, List.getElem?_eq_getElem (show i < l.length by omega)]; rfl
    rw [hg]
    simp [u8s, hl, hi])
  rw [addr_add, Nat.zero_add] at this; exact this
theorem endsL_get (hs : List (List Nat)) {k : Nat} (hk : k < hs.length) : (endsL hs).getD k 0 = Frm.endN 0 hs (k + 1) := by
  unfold endsL Frm.endN
  rw [List.getD_eq_getElem?_getD, List.getElem?_map, List.getElem?_range hk]; rfl
theorem wf_u8n {a : Int} (h : (Lit.int .u8 a).wf = true) : ∃ n : Nat, a = n ∧ n < 256 := by
  have := wf_u8 h; exact ⟨a.toNat, by omega, by omega⟩
theorem set_spoil (l : List Nat) (p y : Nat) (h : l.length = p + 1) : l.set p y = Frm.spoil l y := by
  obtain ⟨m, x, rfl⟩ : ∃ m x, l = m ++ [x] := by
    rcases List.eq_nil_or_concat l with h0 | ⟨m, x, h0⟩
    · rw [h0] at h; cases h
    · exact ⟨m, x, by rw [h0, List.concat_eq_append]⟩
  have hm : m.length = p := by simpa using h
  subst hm
  unfold Frm.spoil
  rw [List.dropLast_concat, List.set_append_right _ _ (Nat.le_refl _), Nat.sub_self]; rfl
theorem last_get (l : List Nat) (p : Nat) (h : l.length = p + 1) : l.getLast? = some (l.getD p 0) := by
  rw [List.getLast?_eq_getElem?, h, List.getD_eq_getElem?_getD, Nat.add_sub_cancel, List.getElem?_eq_getElem (by omega)]; rfl
namespace frameCuts
set_option maxRecDepth 100000 in
set_option maxHeartbeats 4000000 in
theorem walk (a0 : Option Addr) (len0 cap0 : Nat) (z0 : List ByteArray) (a1 a2 : Int) (W : World) (w0 : IsStrs W a0 len0 cap0 z0) (_w1 : (Lit.int .i64 a1).wf = true) (w2 : (Lit.int .u8 a2).wf = true) :
    Calls Try.prog 6 #[.slice a0 len0 cap0, .int .i64 a1, .int .u8 a2] W fun e w' => e = .returned (.bool true) ∧ Below W.heap.size W w' := by
  obtain ⟨hzl, hz, hzc, hzs⟩ := w0
  obtain ⟨sp, rfl, hsp⟩ := wf_u8n w2
  have HL := Lib.hid (lay_any W a0 len0 cap0 z0 hz hzl hzs)
  clear hz hzs hzl w2
  go_enter Try.func6, Try.ntmps6
  go_wp2_with fail
  refine HL.out.mono ?_
  rintro e W1 ⟨hs, va, ve, vh, rfl, hle, hlaid, hb1⟩
  obtain ⟨aa, ca, rfl, hby, hno, hca⟩ := byt_of_own hlaid.all
  have hsm := hlaid.small
  have hct := hlaid.count
  have HLD := Lib.hid hlaid
  have HB1 := Lib.hid hb1
  have s1 := hb1.size
  have HF1 := Lib.hid (framed_any W1)
  obtain ⟨LL, hLL⟩ : ∃ LL, (Frm.layL 0 hs).length = LL := ⟨_, rfl⟩
  rw [hLL] at hsm hca ⊢
  have HLL := Lib.hid hLL
  have HLB := Lib.hid (Frm.layL_byte 0 hs hlaid.byte)
  clear hby hlaid hb1 hLL HL
  go_wp2_with fail
  refine HF1.out.mono ?_
  rintro e W2 ⟨rfl, hb2⟩
  have HB2 := Lib.hid (HB1.out.trans (hb2.mono s1))
  have s2 := HB2.out.size
  have HLD2 := Lib.hid (HLD.out.keep hb2)
  clear hb2 HLD HF1 HB1
  by_cases h0 : LL = 0
  · have hq : ((LL : Int) == 0) = true := by simp [h0]
    have HF2 := Lib.hid (framed_any W2)
    clear h0
    go_wp2_with fail
    refine HF2.out.mono ?_
    rintro e W3 ⟨rfl, hb3⟩
    have HB3 := Lib.hid (HB2.out.trans (hb3.mono s2))
    clear hb3
    go_wp2
    go_ret
    exact ⟨rfl, HB3.out⟩
  · have hq : ((LL : Int) == 0) = false := by simp [h0]
    obtain ⟨c, hc, hce⟩ := modM a1 (LL + 1) (by omega) (by omega)
    have hce' : wrap64 ((IntKind.u64.wrap a1).tmod ((LL : Int) + 1)) = (c : Int) := by simpa using hce
    have hz1 : ¬ ((LL : Int) + 1 = 0) := by omega
    have hs0 : 0 < hs.length := by
      rcases Nat.eq_zero_or_pos hs.length with h | h
      · have e : hs = [] := List.length_eq_zero_iff.1 h
        have := HLL.out
        rw [e] at this
        exact absurd this.symm h0
      · exact h
    have hcl : c ≤ LL := by omega
    obtain ⟨ge, ce, hve, _, hge⟩ := HLD2.out.ends.form hs0
    obtain ⟨gh, ch, hvh, _, hgh⟩ := HLD2.out.had.form hs0
    subst hve
    subst hvh
    have hrun := fun wx => run_part_to (w := wx) (a := aa) LL ca c (by omega)
    have haa : aa ≠ none := fun e => by
      have := hno e
      have h2 := HLL.out
      rw [this] at h2; exact h0 h2.symm
    obtain ⟨D, hD⟩ : ∃ D, (Frm.layL 0 hs).take c = D := ⟨_, rfl⟩
    have hDl : D.length = c := by rw [← hD, List.length_take, HLL.out]; omega
    have hDb : ∀ x ∈ D, x < 256 := by rw [← hD]; exact fun x hx => HLB.out x (List.mem_of_mem_take hx)
    have hby2 : Byt (W2.alloc (.cells #[] 5)) (part aa ca 0) D := by
      obtain ⟨a', c', e, hb', _⟩ := byt_of_own HLD2.out.all
      injection e with e1 _ _
      subst e1
      have h2 := (hb'.keep (below_alloc (Nat.le_refl _) (.cells #[] 5))).part ca 0 c (by rw [HLL.out]; exact hca) (Nat.zero_le _) (by rw [HLL.out]; exact hcl)
      rw [hD, List.drop_zero] at h2; exact h2
    obtain ⟨vb, W3, rb, ob, bb, -⟩ := appU W2.heap.size (W2.alloc (.cells #[] 5)) _ [] D 0 (part aa ca 0) ca (own_new0 W2 W2.heap.size 5 (Nat.le_refl _)) hby2 (fun e => absurd e (part_some haa)) (by simp) (by rw [hDl]; omega)
    rw [hDl, Nat.zero_add, List.nil_append] at ob
    rw [hDl] at rb
    have hbW : Below W2.heap.size W2 W3 := (below_alloc (Nat.le_refl _) (.cells #[] 5)).trans bb
    have HB3 := Lib.hid (HB2.out.trans (hbW.mono s2))
    have s3 := hbW.size
    have HBX := Lib.hid hbW
    have HLD3 := Lib.hid (HLD2.out.keep hbW)
    have HOB := Lib.hid ob
    obtain ⟨ab, cb, hvb, hbb, _, hcb⟩ := byt_of_own ob
    rw [hDl] at hvb hcb
    subst hvb
    have hsc := Scan_any W3 ab cb D hbb hDb (by rw [hDl]; exact hcb) (by rw [hDl]; omega)
    have hst : Frm.scanR 0 D 0 [] false = (hs.take (Frm.whN 0 hs c), Frm.endN 0 hs (Frm.whN 0 hs c)) := by rw [← hD, Frm.scan_take, Nat.zero_add]
    rw [hst, hDl] at hsc
    have HSP := Lib.hid (Frm.wh_spec 0 hs c)
    have HPV := Lib.hid (fun h => Frm.wh_prev 0 hs c h)
    have HSS := Lib.hid (fun y h0 h1 h2 => Frm.scan_spoil_lay 0 hs c y HLD2.out.byte h0 (by rw [HLL.out]; exact hcl) h1 h2)
    rw [hD] at HSS
    have HDL := Lib.hid hDl
    have HDB := Lib.hid hDb
    obtain ⟨w, hw⟩ : ∃ w, Frm.whN 0 hs c = w := ⟨_, rfl⟩
    rw [hw] at HSP HPV hsc
    obtain ⟨E, hE⟩ : ∃ E, Frm.endN 0 hs w = E := ⟨_, rfl⟩
    rw [hE] at HSP HPV hsc
    have HEE := Lib.hid hE
    have HSC := Lib.hid hsc
    obtain ⟨m, hm⟩ : ∃ m, hs.length = m := ⟨_, rfl⟩
    have HM := Lib.hid hm
    have hwm : w ≤ m := by rw [← hm]; exact HSP.out.1
    have hEc : E ≤ c := HSP.out.2.1
    have hgeS : ge < W3.heap.size := by omega
    have hmc : m ≤ ch := by
      obtain ⟨a', c', e', hl', _, hc'⟩ := strs_of_own HLD3.out.had
      injection e' with _ _ e3
      rw [e3, ← hm]; exact hc'
    rw [hm] at hct hs0 ⊢
    clear hby2 ob bb hbW hD hDl hDb hw hm hce haa hno hge hgh hsc hst hE hbb hcb
    go_wp2_with (at_builtin; refine wpList_app_run rfl rfl rb rfl rfl ?_)
    go_loopw [11] (fun u wr => ∃ k : Nat, u = .int .i64 (k : Int) ∧ k ≤ w ∧ W3 = wr) (fun u _ => m - (intOf u).toNat)
    case atStart => exact ⟨0, rfl, Nat.zero_le _, rfl⟩
    case round =>
      obtain ⟨k, rfl, hk, rfl⟩ := hrel
      by_cases hkw : k < w
      · have hcell := int_cell HLD3.out.ends (i := k) (by rw [HM.out]; omega)
        rw [endsL_get hs (by rw [HM.out]; omega)] at hcell
        have hmono : Frm.endN 0 hs (k + 1) ≤ c := Nat.le_trans (Frm.endN_mono 0 hs (by omega) HSP.out.1) (by rw [HEE.out]; exact hEc)
        generalize Frm.endN 0 hs (k + 1) = en at *
        clear rb
        go_wp2
        go_roundw
        case rel => exact ⟨k + 1, by go_num, by omega, trivial⟩
        case measure => simp [intOf]; omega
      · obtain rfl : k = w := by omega
        clear hk hkw rb
        by_cases hlt : k < m
        · have hcell := int_cell HLD3.out.ends (i := k) (by rw [HM.out]; omega)
          rw [endsL_get hs (by rw [HM.out]; omega)] at hcell
          have hgt := HSP.out.2.2 (by rw [HM.out]; exact hlt)
          generalize Frm.endN 0 hs (k + 1) = en at *
          go_wp2_with fail
          clear hcell hgt
          refine HSC.out.mono ?_
          rintro e W4 ⟨v4, rfl, ho4, hb4⟩
          obtain ⟨al, cl, rfl, hll, hls, hcl4⟩ := strs_of_own ho4
          have HLS := Lib.hid hls
          have hX4 : Below W2.heap.size W2 W4 := HBX.out.trans (hb4.mono s3)
          have HX4 := Lib.hid hX4
          have HY4 := Lib.hid hb4
          have s4 := hX4.size
          have htk : (hs.take k).length = k := by rw [List.length_take, HM.out]; omega
          dsimp only
          rw [htk]
          have HLH : Hid (Strs W4 (some ⟨gh, 0, none⟩) ((hs.map strOf).take k)) := Lib.hid (by
            obtain ⟨a', c', e', _, hst, _⟩ := strs_of_own (HLD2.out.keep hX4).had
            injection e' with e1 _ _
            rw [e1]; exact hst.take k)
          have hT := Texts_any W4 al (some ⟨gh, 0, none⟩) k k cl ch ((hs.take k).map strOf) ((hs.map strOf).take k) HLS.out HLH.out (by rw [List.length_map]; exact htk) (by rw [List.length_take, List.length_map, HM.out]; omega) (by omega) (by omega)
          rw [decide_eq_true (by rw [List.map_take])] at hT
          have HT := Lib.hid hT
          have hcut := fun wx => run_strs_to (w := wx) (g := gh) m ch k (by omega)
          clear hT hls hb4 ho4 hll hX4 HSC htk hcl4
          by_cases hw0 : k = 0
          · subst hw0
            obtain rfl : E = 0 := by rw [← HEE.out]; rfl
            have hcut0 : ∀ wx : World, (Instr.slice 31 (.slice (some ⟨gh, 0, none⟩) m ch) none (some (.int .i64 0)) none).run Try.prog wx = .ok (.slice (some ⟨gh, 0, none⟩) 0 ch) wx := hcut
            go_wp2_with fail
            refine HT.out.mono ?_
            rintro e W5 ⟨rfl, hb5⟩
            have HX5 := Lib.hid (HX4.out.trans (hb5.mono s4))
            have HY5 := Lib.hid (HY4.out.trans (hb5.mono (by have := HY4.out.size; omega)))
            have s5 := HX5.out.size
            clear hb5 HT
            by_cases hc0 : c = 0
            · have q1 : ((c : Int) == 0) = true := by simp [hc0]
              have HE := Lib.hid (HB2.out.trans (HX5.out.mono s2))
              clear hc0
              go_wp2
              go_ret
              exact ⟨rfl, HE.out⟩
            · have q1 : ((c : Int) == 0) = false := by simp [hc0]
              by_cases hsp0 : sp = 0
              · have q2 : ((sp : Int) == 0) = true := by simp [hsp0]
                have HE := Lib.hid (HB2.out.trans (HX5.out.mono s2))
                clear hsp0
                go_wp2
                go_ret
                exact ⟨rfl, HE.out⟩
              · have q2 : ((sp : Int) == 0) = false := by simp [hsp0]
                obtain ⟨p, hp⟩ : ∃ p, c = p + 1 := ⟨c - 1, by omega⟩
                have hpI : (c : Int) - 1 = (p : Int) := by omega
                have hob5 := own_keep HOB.out HY5.out
                obtain ⟨gb, cb', hv', hgB, hgl⟩ := hob5.form (by omega)
                injection hv' with e1 _ e3
                subst e1
                subst e3
                have hcb5 := byte_cell hob5 (i := p) (by omega)
                have hx : D.getD p 0 < 256 := by
                  rw [List.getD_eq_getElem?_getD]
                  cases e : D[p]? with
                  | none => simp
                  | some x => simp; exact HDB.out x (List.mem_of_getElem? e)
                have hlast := last_get D p (by rw [HDL.out]; exact hp)
                obtain ⟨x, hxe⟩ : ∃ x, D.getD p 0 = x := ⟨_, rfl⟩
                rw [hxe] at hcb5 hx hlast
                have hxor := u8_xor_nat x sp hx hsp
                have hy : x ^^^ sp < 256 := Nat.xor_lt_two_pow (n := 8) hx hsp
                have hyx : x ^^^ sp ≠ x := fun e => hsp0 (by
                  have h1 := congrArg (x ^^^ ·) e
                  simpa [← Nat.xor_assoc] using h1)
                obtain ⟨y, hye⟩ : ∃ y, x ^^^ sp = y := ⟨_, rfl⟩
                rw [hye] at hxor hy hyx
                obtain ⟨hob6, hfz⟩ := own_setB hob5 (i := p) y
                rw [set_spoil D p y (by rw [HDL.out]; exact hp)] at hob6
                have hss := HSS.out y (by omega) hy (by rw [hlast]; exact fun e => hyx (Option.some.inj e).symm)
                have hX6 : Below W2.heap.size W2 (W5.setCell ⟨gb, p, none⟩ (.int .u8 (y : Int))) := HX5.out.setCell (p := ⟨gb, p, none⟩) hgB _
                have hpv := HPV.out (by omega)
                have hDn : D ≠ [] := fun e => by have := HDL.out; rw [e] at this; exact hc0 this.symm
                have hspl : (Frm.spoil D y).length = c := by rw [Frm.spoil_length y hDn, HDL.out]
                have hspb : ∀ z ∈ Frm.spoil D y, z < 256 := fun z hz => by
                  unfold Frm.spoil at hz
                  rcases List.mem_append.1 hz with h | h
                  · exact HDB.out z (List.dropLast_subset D h)
                  · simp at h; omega
                obtain ⟨W6, hW6⟩ : ∃ W6, W5.setCell ⟨gb, p, none⟩ (.int .u8 (y : Int)) = W6 := ⟨_, rfl⟩
                rw [hW6] at hob6 hX6
                have hsc6 : Calls Try.prog 16 #[.slice (some ⟨gb, 0, none⟩) c cb] W6 (ScanV W6 (Frm.scanR 0 (Frm.spoil D y) 0 [] false)) := by
                  obtain ⟨a', c', e', hb', _, hc'⟩ := byt_of_own hob6
                  injection e' with e1 e2 e3
                  have h := Scan_any W6 a' c' (Frm.spoil D y) hb' hspb hc' (by rw [hspl]; omega)
                  rw [hspl] at h
                  rw [e1, e3]; exact h
                obtain ⟨S, hS⟩ : ∃ S, Frm.scanR 0 (Frm.spoil D y) 0 [] false = S := ⟨_, rfl⟩
                rw [hS] at hss hsc6
                rw [hpv] at hss
                have HSC6 := Lib.hid hsc6
                have HX6 := Lib.hid hX6
                have HSS6 := Lib.hid hss
                have s6 := hX6.size
                clear hob5 hob6 hX6 hss hsc6 hspb hspl hDn hpv hlast hyx hx hxe hye hS HSS HPV HX4 HX5 HY4 HY5 HOB HBX HLS HLH hp hc0 hsp0
                have hk2 : S.1 = hs.take 0 := by
                  have := HSS6.out
                  rw [if_neg (by omega)] at this; exact this
                have HK2 := Lib.hid hk2
                clear hk2 HSS6
                go_wp2_with fail
                refine HSC6.out.mono ?_
                rintro e W7 ⟨v7, rfl, ho7, hb7⟩
                obtain ⟨al7, cl7, rfl, hll7, hls7, hcl7⟩ := strs_of_own ho7
                have hX7 : Below W2.heap.size W2 W7 := HX6.out.trans (hb7.mono s6)
                have hS1 : S.1.length = 0 := by rw [HK2.out, List.length_take, HM.out]; omega
                rw [hS1]
                have hst7 : Strs W7 (some ⟨gh, 0, none⟩) ((hs.map strOf).take (0)) := by
                  obtain ⟨a', c', e', _, hst, _⟩ := strs_of_own (HLD2.out.keep hX7).had
                  injection e' with e1 _ _
                  rw [e1]; exact hst.take _
                have hT := Texts_any W7 al7 (some ⟨gh, 0, none⟩) (0) (0) cl7 ch (S.1.map strOf) ((hs.map strOf).take (0)) hls7 hst7 (by rw [List.length_map]; exact hS1) (by rw [List.length_take, List.length_map, HM.out]; omega) (by omega) (by omega)
                rw [decide_eq_true (by rw [HK2.out, List.map_take])] at hT
                have HT7 := Lib.hid hT
                have HE := Lib.hid (HB2.out.trans (hX7.mono s2))
                have s7 := HE.out.size
                clear hT hst7 hS1 hX7 hls7 hb7 ho7 hll7 hcl7 HSC6
                go_wp2_with fail
                refine HT7.out.mono ?_
                rintro e W8 ⟨rfl, hb8⟩
                have HE8 := Lib.hid (HE.out.trans (hb8.mono s7))
                clear hb8
                go_wp2
                go_ret
                exact ⟨rfl, HE8.out⟩
          · obtain ⟨v, rfl⟩ : ∃ v, k = v + 1 := ⟨k - 1, by omega⟩
            clear hw0
            have hce4 := int_cell (HLD2.out.keep HX4.out).ends (i := v) (by rw [HM.out]; omega)
            rw [endsL_get hs (by rw [HM.out]; omega), HEE.out] at hce4
            go_wp2_with fail
            refine HT.out.mono ?_
            rintro e W5 ⟨rfl, hb5⟩
            have HX5 := Lib.hid (HX4.out.trans (hb5.mono s4))
            have HY5 := Lib.hid (HY4.out.trans (hb5.mono (by have := HY4.out.size; omega)))
            have s5 := HX5.out.size
            clear hb5 HT
            by_cases hc0 : c = 0
            · have q1 : ((c : Int) == 0) = true := by simp [hc0]
              have HE := Lib.hid (HB2.out.trans (HX5.out.mono s2))
              clear hc0
              go_wp2
              go_ret
              exact ⟨rfl, HE.out⟩
            · have q1 : ((c : Int) == 0) = false := by simp [hc0]
              by_cases hsp0 : sp = 0
              · have q2 : ((sp : Int) == 0) = true := by simp [hsp0]
                have HE := Lib.hid (HB2.out.trans (HX5.out.mono s2))
                clear hsp0
                go_wp2
                go_ret
                exact ⟨rfl, HE.out⟩
              · have q2 : ((sp : Int) == 0) = false := by simp [hsp0]
                obtain ⟨p, hp⟩ : ∃ p, c = p + 1 := ⟨c - 1, by omega⟩
                have hpI : (c : Int) - 1 = (p : Int) := by omega
                have hob5 := own_keep HOB.out HY5.out
                obtain ⟨gb, cb', hv', hgB, hgl⟩ := hob5.form (by omega)
                injection hv' with e1 _ e3
                subst e1
                subst e3
                have hcb5 := byte_cell hob5 (i := p) (by omega)
                have hx : D.getD p 0 < 256 := by
                  rw [List.getD_eq_getElem?_getD]
                  cases e : D[p]? with
                  | none => simp
                  | some x => simp; exact HDB.out x (List.mem_of_getElem? e)
                have hlast := last_get D p (by rw [HDL.out]; exact hp)
                obtain ⟨x, hxe⟩ : ∃ x, D.getD p 0 = x := ⟨_, rfl⟩
                rw [hxe] at hcb5 hx hlast
                have hxor := u8_xor_nat x sp hx hsp
                have hy : x ^^^ sp < 256 := Nat.xor_lt_two_pow (n := 8) hx hsp
                have hyx : x ^^^ sp ≠ x := fun e => hsp0 (by
                  have h1 := congrArg (x ^^^ ·) e
                  simpa [← Nat.xor_assoc] using h1)
                obtain ⟨y, hye⟩ : ∃ y, x ^^^ sp = y := ⟨_, rfl⟩
                rw [hye] at hxor hy hyx
                obtain ⟨hob6, hfz⟩ := own_setB hob5 (i := p) y
                rw [set_spoil D p y (by rw [HDL.out]; exact hp)] at hob6
                have hss := HSS.out y (by omega) hy (by rw [hlast]; exact fun e => hyx (Option.some.inj e).symm)
                have hX6 : Below W2.heap.size W2 (W5.setCell ⟨gb, p, none⟩ (.int .u8 (y : Int))) := HX5.out.setCell (p := ⟨gb, p, none⟩) hgB _
                have hpv := HPV.out (by omega)
                have hDn : D ≠ [] := fun e => by have := HDL.out; rw [e] at this; exact hc0 this.symm
                have hspl : (Frm.spoil D y).length = c := by rw [Frm.spoil_length y hDn, HDL.out]
                have hspb : ∀ z ∈ Frm.spoil D y, z < 256 := fun z hz => by
                  unfold Frm.spoil at hz
                  rcases List.mem_append.1 hz with h | h
                  · exact HDB.out z (List.dropLast_subset D h)
                  · simp at h; omega
                obtain ⟨W6, hW6⟩ : ∃ W6, W5.setCell ⟨gb, p, none⟩ (.int .u8 (y : Int)) = W6 := ⟨_, rfl⟩
                rw [hW6] at hob6 hX6
                have hsc6 : Calls Try.prog 16 #[.slice (some ⟨gb, 0, none⟩) c cb] W6 (ScanV W6 (Frm.scanR 0 (Frm.spoil D y) 0 [] false)) := by
                  obtain ⟨a', c', e', hb', _, hc'⟩ := byt_of_own hob6
                  injection e' with e1 e2 e3
                  have h := Scan_any W6 a' c' (Frm.spoil D y) hb' hspb hc' (by rw [hspl]; omega)
                  rw [hspl] at h
                  rw [e1, e3]; exact h
                obtain ⟨S, hS⟩ : ∃ S, Frm.scanR 0 (Frm.spoil D y) 0 [] false = S := ⟨_, rfl⟩
                rw [hS] at hss hsc6
                rw [hpv] at hss
                have HSC6 := Lib.hid hsc6
                have HX6 := Lib.hid hX6
                have HSS6 := Lib.hid hss
                have s6 := hX6.size
                clear hob5 hob6 hX6 hss hsc6 hspb hspl hDn hpv hlast hyx hx hxe hye hS HSS HPV HX4 HX5 HY4 HY5 HOB HBX HLS HLH hp hc0 hsp0
                have hce6 := int_cell (HLD2.out.keep HX6.out).ends (i := v) (by rw [HM.out]; omega)
                rw [endsL_get hs (by rw [HM.out]; omega), HEE.out] at hce6
                by_cases hec : E = c
                · have q3 : ((E : Int) == (c : Int)) = true := by simp [hec]
                  have hk2 : S.1 = hs.take v := by
                    have := HSS6.out
                    rw [if_pos hec] at this; exact this
                  clear hec
                  have HK2 := Lib.hid hk2
                  clear hk2 HSS6
                  have hcut7 := fun wx => run_strs_to (w := wx) (g := gh) m ch v (by omega)
                  go_wp2_with fail
                  refine HSC6.out.mono ?_
                  rintro e W7 ⟨v7, rfl, ho7, hb7⟩
                  obtain ⟨al7, cl7, rfl, hll7, hls7, hcl7⟩ := strs_of_own ho7
                  have hX7 : Below W2.heap.size W2 W7 := HX6.out.trans (hb7.mono s6)
                  have hS1 : S.1.length = v := by rw [HK2.out, List.length_take, HM.out]; omega
                  rw [hS1]
                  have hst7 : Strs W7 (some ⟨gh, 0, none⟩) ((hs.map strOf).take (v)) := by
                    obtain ⟨a', c', e', _, hst, _⟩ := strs_of_own (HLD2.out.keep hX7).had
                    injection e' with e1 _ _
                    rw [e1]; exact hst.take _
                  have hT := Texts_any W7 al7 (some ⟨gh, 0, none⟩) (v) (v) cl7 ch (S.1.map strOf) ((hs.map strOf).take (v)) hls7 hst7 (by rw [List.length_map]; exact hS1) (by rw [List.length_take, List.length_map, HM.out]; omega) (by omega) (by omega)
                  rw [decide_eq_true (by rw [HK2.out, List.map_take])] at hT
                  have HT7 := Lib.hid hT
                  have HE := Lib.hid (HB2.out.trans (hX7.mono s2))
                  have s7 := HE.out.size
                  clear hT hst7 hS1 hX7 hls7 hb7 ho7 hll7 hcl7 HSC6
                  go_wp2_with fail
                  refine HT7.out.mono ?_
                  rintro e W8 ⟨rfl, hb8⟩
                  have HE8 := Lib.hid (HE.out.trans (hb8.mono s7))
                  clear hb8
                  go_wp2
                  go_ret
                  exact ⟨rfl, HE8.out⟩
                · have q3 : ((E : Int) == (c : Int)) = false := by simp; omega
                  have hk2 : S.1 = hs.take (v + 1) := by
                    have := HSS6.out
                    rw [if_neg hec] at this; exact this
                  clear hec
                  have HK2 := Lib.hid hk2
                  clear hk2 HSS6
                  go_wp2_with fail
                  refine HSC6.out.mono ?_
                  rintro e W7 ⟨v7, rfl, ho7, hb7⟩
                  obtain ⟨al7, cl7, rfl, hll7, hls7, hcl7⟩ := strs_of_own ho7
                  have hX7 : Below W2.heap.size W2 W7 := HX6.out.trans (hb7.mono s6)
                  have hS1 : S.1.length = (v+1) := by rw [HK2.out, List.length_take, HM.out]; omega
                  rw [hS1]
                  have hst7 : Strs W7 (some ⟨gh, 0, none⟩) ((hs.map strOf).take ((v+1))) := by
                    obtain ⟨a', c', e', _, hst, _⟩ := strs_of_own (HLD2.out.keep hX7).had
                    injection e' with e1 _ _
                    rw [e1]; exact hst.take _
                  have hT := Texts_any W7 al7 (some ⟨gh, 0, none⟩) ((v+1)) ((v+1)) cl7 ch (S.1.map strOf) ((hs.map strOf).take ((v+1))) hls7 hst7 (by rw [List.length_map]; exact hS1) (by rw [List.length_take, List.length_map, HM.out]; omega) (by omega) (by omega)
                  rw [decide_eq_true (by rw [HK2.out, List.map_take])] at hT
                  have HT7 := Lib.hid hT
                  have HE := Lib.hid (HB2.out.trans (hX7.mono s2))
                  have s7 := HE.out.size
                  clear hT hst7 hS1 hX7 hls7 hb7 ho7 hll7 hcl7 HSC6
                  go_wp2_with fail
                  refine HT7.out.mono ?_
                  rintro e W8 ⟨rfl, hb8⟩
                  have HE8 := Lib.hid (HE.out.trans (hb8.mono s7))
                  clear hb8
                  go_wp2
                  go_ret
                  exact ⟨rfl, HE8.out⟩
        · go_wp2_with fail
          refine HSC.out.mono ?_
          rintro e W4 ⟨v4, rfl, ho4, hb4⟩
          obtain ⟨al, cl, rfl, hll, hls, hcl4⟩ := strs_of_own ho4
          have HLS := Lib.hid hls
          have hX4 : Below W2.heap.size W2 W4 := HBX.out.trans (hb4.mono s3)
          have HX4 := Lib.hid hX4
          have HY4 := Lib.hid hb4
          have s4 := hX4.size
          have htk : (hs.take k).length = k := by rw [List.length_take, HM.out]; omega
          dsimp only
          rw [htk]
          have HLH : Hid (Strs W4 (some ⟨gh, 0, none⟩) ((hs.map strOf).take k)) := Lib.hid (by
            obtain ⟨a', c', e', _, hst, _⟩ := strs_of_own (HLD2.out.keep hX4).had
            injection e' with e1 _ _
            rw [e1]; exact hst.take k)
          have hT := Texts_any W4 al (some ⟨gh, 0, none⟩) k k cl ch ((hs.take k).map strOf) ((hs.map strOf).take k) HLS.out HLH.out (by rw [List.length_map]; exact htk) (by rw [List.length_take, List.length_map, HM.out]; omega) (by omega) (by omega)
          rw [decide_eq_true (by rw [List.map_take])] at hT
          have HT := Lib.hid hT
          have hcut := fun wx => run_strs_to (w := wx) (g := gh) m ch k (by omega)
          clear hT hls hb4 ho4 hll hX4 HSC htk hcl4
          by_cases hw0 : k = 0
          · subst hw0
            exact absurd hs0 hlt
          · obtain ⟨v, rfl⟩ : ∃ v, k = v + 1 := ⟨k - 1, by omega⟩
            clear hw0
            have hce4 := int_cell (HLD2.out.keep HX4.out).ends (i := v) (by rw [HM.out]; omega)
            rw [endsL_get hs (by rw [HM.out]; omega), HEE.out] at hce4
            go_wp2_with fail
            refine HT.out.mono ?_
            rintro e W5 ⟨rfl, hb5⟩
            have HX5 := Lib.hid (HX4.out.trans (hb5.mono s4))
            have HY5 := Lib.hid (HY4.out.trans (hb5.mono (by have := HY4.out.size; omega)))
            have s5 := HX5.out.size
            clear hb5 HT
            by_cases hc0 : c = 0
            · have q1 : ((c : Int) == 0) = true := by simp [hc0]
              have HE := Lib.hid (HB2.out.trans (HX5.out.mono s2))
              clear hc0
              go_wp2
              go_ret
              exact ⟨rfl, HE.out⟩
            · have q1 : ((c : Int) == 0) = false := by simp [hc0]
              by_cases hsp0 : sp = 0
              · have q2 : ((sp : Int) == 0) = true := by simp [hsp0]
                have HE := Lib.hid (HB2.out.trans (HX5.out.mono s2))
                clear hsp0
                go_wp2
                go_ret
                exact ⟨rfl, HE.out⟩
              · have q2 : ((sp : Int) == 0) = false := by simp [hsp0]
                obtain ⟨p, hp⟩ : ∃ p, c = p + 1 := ⟨c - 1, by omega⟩
                have hpI : (c : Int) - 1 = (p : Int) := by omega
                have hob5 := own_keep HOB.out HY5.out
                obtain ⟨gb, cb', hv', hgB, hgl⟩ := hob5.form (by omega)
                injection hv' with e1 _ e3
                subst e1
                subst e3
                have hcb5 := byte_cell hob5 (i := p) (by omega)
                have hx : D.getD p 0 < 256 := by
                  rw [List.getD_eq_getElem?_getD]
                  cases e : D[p]? with
                  | none => simp
                  | some x => simp; exact HDB.out x (List.mem_of_getElem? e)
                have hlast := last_get D p (by rw [HDL.out]; exact hp)
                obtain ⟨x, hxe⟩ : ∃ x, D.getD p 0 = x := ⟨_, rfl⟩
                rw [hxe] at hcb5 hx hlast
                have hxor := u8_xor_nat x sp hx hsp
                have hy : x ^^^ sp < 256 := Nat.xor_lt_two_pow (n := 8) hx hsp
                have hyx : x ^^^ sp ≠ x := fun e => hsp0 (by
                  have h1 := congrArg (x ^^^ ·) e
                  simpa [← Nat.xor_assoc] using h1)
                obtain ⟨y, hye⟩ : ∃ y, x ^^^ sp = y := ⟨_, rfl⟩
                rw [hye] at hxor hy hyx
                obtain ⟨hob6, hfz⟩ := own_setB hob5 (i := p) y
                rw [set_spoil D p y (by rw [HDL.out]; exact hp)] at hob6
                have hss := HSS.out y (by omega) hy (by rw [hlast]; exact fun e => hyx (Option.some.inj e).symm)
                have hX6 : Below W2.heap.size W2 (W5.setCell ⟨gb, p, none⟩ (.int .u8 (y : Int))) := HX5.out.setCell (p := ⟨gb, p, none⟩) hgB _
                have hpv := HPV.out (by omega)
                have hDn : D ≠ [] := fun e => by have := HDL.out; rw [e] at this; exact hc0 this.symm
                have hspl : (Frm.spoil D y).length = c := by rw [Frm.spoil_length y hDn, HDL.out]
                have hspb : ∀ z ∈ Frm.spoil D y, z < 256 := fun z hz => by
                  unfold Frm.spoil at hz
                  rcases List.mem_append.1 hz with h | h
                  · exact HDB.out z (List.dropLast_subset D h)
                  · simp at h; omega
                obtain ⟨W6, hW6⟩ : ∃ W6, W5.setCell ⟨gb, p, none⟩ (.int .u8 (y : Int)) = W6 := ⟨_, rfl⟩
                rw [hW6] at hob6 hX6
                have hsc6 : Calls Try.prog 16 #[.slice (some ⟨gb, 0, none⟩) c cb] W6 (ScanV W6 (Frm.scanR 0 (Frm.spoil D y) 0 [] false)) := by
                  obtain ⟨a', c', e', hb', _, hc'⟩ := byt_of_own hob6
                  injection e' with e1 e2 e3
                  have h := Scan_any W6 a' c' (Frm.spoil D y) hb' hspb hc' (by rw [hspl]; omega)
                  rw [hspl] at h
                  rw [e1, e3]; exact h
                obtain ⟨S, hS⟩ : ∃ S, Frm.scanR 0 (Frm.spoil D y) 0 [] false = S := ⟨_, rfl⟩
                rw [hS] at hss hsc6
                rw [hpv] at hss
                have HSC6 := Lib.hid hsc6
                have HX6 := Lib.hid hX6
                have HSS6 := Lib.hid hss
                have s6 := hX6.size
                clear hob5 hob6 hX6 hss hsc6 hspb hspl hDn hpv hlast hyx hx hxe hye hS HSS HPV HX4 HX5 HY4 HY5 HOB HBX HLS HLH hp hc0 hsp0
                have hce6 := int_cell (HLD2.out.keep HX6.out).ends (i := v) (by rw [HM.out]; omega)
                rw [endsL_get hs (by rw [HM.out]; omega), HEE.out] at hce6
                by_cases hec : E = c
                · have q3 : ((E : Int) == (c : Int)) = true := by simp [hec]
                  have hk2 : S.1 = hs.take v := by
                    have := HSS6.out
                    rw [if_pos hec] at this; exact this
                  clear hec
                  have HK2 := Lib.hid hk2
                  clear hk2 HSS6
                  have hcut7 := fun wx => run_strs_to (w := wx) (g := gh) m ch v (by omega)
                  go_wp2_with fail
                  refine HSC6.out.mono ?_
                  rintro e W7 ⟨v7, rfl, ho7, hb7⟩
                  obtain ⟨al7, cl7, rfl, hll7, hls7, hcl7⟩ := strs_of_own ho7
                  have hX7 : Below W2.heap.size W2 W7 := HX6.out.trans (hb7.mono s6)
                  have hS1 : S.1.length = v := by rw [HK2.out, List.length_take, HM.out]; omega
                  rw [hS1]
                  have hst7 : Strs W7 (some ⟨gh, 0, none⟩) ((hs.map strOf).take (v)) := by
                    obtain ⟨a', c', e', _, hst, _⟩ := strs_of_own (HLD2.out.keep hX7).had
                    injection e' with e1 _ _
                    rw [e1]; exact hst.take _
                  have hT := Texts_any W7 al7 (some ⟨gh, 0, none⟩) (v) (v) cl7 ch (S.1.map strOf) ((hs.map strOf).take (v)) hls7 hst7 (by rw [List.length_map]; exact hS1) (by rw [List.length_take, List.length_map, HM.out]; omega) (by omega) (by omega)
                  rw [decide_eq_true (by rw [HK2.out, List.map_take])] at hT
                  have HT7 := Lib.hid hT
                  have HE := Lib.hid (HB2.out.trans (hX7.mono s2))
                  have s7 := HE.out.size
                  clear hT hst7 hS1 hX7 hls7 hb7 ho7 hll7 hcl7 HSC6
                  go_wp2_with fail
                  refine HT7.out.mono ?_
                  rintro e W8 ⟨rfl, hb8⟩
                  have HE8 := Lib.hid (HE.out.trans (hb8.mono s7))
                  clear hb8
                  go_wp2
                  go_ret
                  exact ⟨rfl, HE8.out⟩
                · have q3 : ((E : Int) == (c : Int)) = false := by simp; omega
                  have hk2 : S.1 = hs.take (v + 1) := by
                    have := HSS6.out
                    rw [if_neg hec] at this; exact this
                  clear hec
                  have HK2 := Lib.hid hk2
                  clear hk2 HSS6
                  go_wp2_with fail
                  refine HSC6.out.mono ?_
                  rintro e W7 ⟨v7, rfl, ho7, hb7⟩
                  obtain ⟨al7, cl7, rfl, hll7, hls7, hcl7⟩ := strs_of_own ho7
                  have hX7 : Below W2.heap.size W2 W7 := HX6.out.trans (hb7.mono s6)
                  have hS1 : S.1.length = (v+1) := by rw [HK2.out, List.length_take, HM.out]; omega
                  rw [hS1]
                  have hst7 : Strs W7 (some ⟨gh, 0, none⟩) ((hs.map strOf).take ((v+1))) := by
                    obtain ⟨a', c', e', _, hst, _⟩ := strs_of_own (HLD2.out.keep hX7).had
                    injection e' with e1 _ _
                    rw [e1]; exact hst.take _
                  have hT := Texts_any W7 al7 (some ⟨gh, 0, none⟩) ((v+1)) ((v+1)) cl7 ch (S.1.map strOf) ((hs.map strOf).take ((v+1))) hls7 hst7 (by rw [List.length_map]; exact hS1) (by rw [List.length_take, List.length_map, HM.out]; omega) (by omega) (by omega)
                  rw [decide_eq_true (by rw [HK2.out, List.map_take])] at hT
                  have HT7 := Lib.hid hT
                  have HE := Lib.hid (HB2.out.trans (hX7.mono s2))
                  have s7 := HE.out.size
                  clear hT hst7 hS1 hX7 hls7 hb7 ho7 hll7 hcl7 HSC6
                  go_wp2_with fail
                  refine HT7.out.mono ?_
                  rintro e W8 ⟨rfl, hb8⟩
                  have HE8 := Lib.hid (HE.out.trans (hb8.mono s7))
                  clear hb8
                  go_wp2
                  go_ret
                  exact ⟨rfl, HE8.out⟩
end frameCuts
end Go.Proofs.Ytdiehfjamnaoiaa
