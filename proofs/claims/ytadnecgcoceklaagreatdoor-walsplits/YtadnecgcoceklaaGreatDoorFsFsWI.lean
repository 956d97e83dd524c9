/-
  cut of package fs: the bytes that last, with the first so many of the others.
-/
import Derived.Test.YtadnecgcoceklaaGreatDoorFsFsWH
import Derived.IntWalk
namespace Go.Proofs.YtadnecgcoceklaaGreatDoor
open Go.RowKit Go.Maps

theorem run_cut_to {w : World} {a : Option Addr} (len cap q : Nat) (hq : q ≤ cap) :
    (Instr.slice 47 (.slice a len cap) none (some (.int .i64 (q : Int))) none).run Tryz.prog w = .ok (.slice a q cap) w := by
  rw [run_part_to len cap q hq, part0]
theorem bits_xor85 (x : Nat) (hx : x < 256) : bits .xor .u8 (x : Int) 85 = ((x ^^^ 85 : Nat) : Int) := by
  have key : ∀ x : Fin 256, bits .xor .u8 ((x.val : Nat) : Int) 85 = ((x.val ^^^ 85 : Nat) : Int) := by decide +kernel
  exact key ⟨x, hx⟩
/-- A row of bytes of one's own is cut. -/
theorem row_cut {w : World} {ad : Option Addr} {L cap : Nat} {l : List Nat} (h : w.ownsRow 0 5 1 (.slice ad L cap) L (u8s l)) {N : Nat} (hN : N ≤ L) : w.ownsRow 0 5 1 (.slice ad N cap) N (u8s (l.take N)) := by
  have hl : l.length = L := by have := h.1; simp [u8s] at this; omega
  refine ⟨by simp [u8s]; omega, ?_⟩
  rcases h.2 with ⟨he, h0⟩ | ⟨g, cap', cur, he, hB, hg, h1, h2, h3, h4⟩
  · cases he; left; exact ⟨by rw [show N = 0 by omega], by omega⟩
  · cases he
    refine .inr ⟨g, cap, cur, rfl, hB, hg, by omega, h2, h3, ?_⟩
    have : cur.toList.take (N * 1) = (cur.toList.take (L * 1)).take N := by rw [List.take_take]; congr 1; omega
    rw [this, h4]; simp [u8s]

/-- A file is turned in place. -/
theorem FsG.turned {w w' : World} {g : Gh} {pb : Nat} {a : A} {F : Nat → Prop} (h : FsG w g pb a F) {i : Nat} (hi : i < a.files.length) {f : Fil} {v : Value}
    (ho : w'.os = w.os ∧ w'.tape = w.tape ∧ w'.output = w.output) (hs : w'.heap.size = w.heap.size) (hk : ∀ k, k ≠ g.blk i → some k ≠ (g.bv i).ownBlock → w'.heap[k]? = w.heap[k]?)
    (hb : w'.heap[g.blk i]? = some (.cells #[v, .int .i64 (f.2 : Int)] 105 (0, 0))) (hr : w'.ownsRow 0 5 1 v f.1.length (u8s f.1))
    (hv : ∀ k, v.ownBlock = some k → (g.bv i).ownBlock = some k) :
    ∃ v F', FsG w' { g with bv := upd g.bv i v } pb (a.setFile i f) F' ∧ Moves F w F' w' := by
  refine ⟨v, _, h.turnFile hi (by omega) (fun k _ h1 h2 => hk k h1 h2) hb hr (fun k hk => .inl (hv k hk)), ⟨ho.1, ho.2.1, ho.2.2, by omega, fun k _ hf => hk k (fun e => hf (by rw [e]; exact (h.hF.f i hi).2)) (fun e => hf ((h.hF.r i hi).2 k e.symm)), fun k hk => ?_⟩⟩
  rcases hk with hk | hk
  · exact .inl hk
  · exact .inl ((h.hF.r i hi).2 k (hv k hk))
theorem u8s_set (l : List Nat) (i x : Nat) : u8s (l.set i x) = (u8s l).set i (.int .u8 (x : Int)) := by simp [u8s, List.map_set]
/-- A byte of a row of one's own is stored. -/
theorem row_store {w w' : World} {gb L cap : Nat} {l : List Nat} (h : w.ownsRow 0 5 1 (.slice (some ⟨gb, 0, none⟩) L cap) L (u8s l)) {i x : Nat} (hi : i < L)
    (hw : w'.heap[gb]? = (w.setCell ⟨gb, i, none⟩ (.int .u8 (x : Int))).heap[gb]?) : w'.ownsRow 0 5 1 (.slice (some ⟨gb, 0, none⟩) L cap) L (u8s (l.set i x)) := by
  refine ⟨by rw [u8s_set, List.length_set]; exact h.1, ?_⟩
  rcases h.2 with ⟨he, h0⟩ | ⟨g, cap', cur, he, hB, hg, h1, h2, h3, h4⟩
  · omega
  · cases he
    rw [Go.Joins.block_setCell hg _] at hw
    refine .inr ⟨gb, cap, _, rfl, hB, hw, h1, h2, by simpa using h3, ?_⟩
    rw [Array.toList_setIfInBounds, List.take_set, h4, u8s_set]

set_option maxRecDepth 100000 in
set_option maxHeartbeats 1000000 in
theorem cut_any {w : World} {g : Gh} {pb : Nat} {a : A} {F : Nat → Prop} (h : FsG w g pb a F) (ho : a.Ok) {ix : Nat} (hix : ix < a.files.length) (p : Nat) (hp : p < 18446744073709551616) :
    Calls Tryz.prog 64 #[bp (g.blk ix), .int .u64 (p : Int)] w fun e w' => e = .returned (.tuple #[]) ∧ ∃ v F', FsG w' { g with bv := upd g.bv ix v } pb (a.setFile ix (cutF (a.file ix) p)) F' ∧ Moves F w F' w' := by
  have f0 := h.f0 hix
  have f1 := h.f1 hix
  have z0 := h.ffz hix 0
  have z1 := h.ffz hix 1
  have hr := (h.hF.r ix hix).1
  have hfl := ho.file ix
  rw [show a.files.getD ix ([], 0) = a.file ix from rfl] at hr
  obtain ⟨ad, cap, hbv⟩ := row_form hr
  rw [hbv] at f0
  obtain ⟨⟨l, q⟩, hf⟩ : ∃ f, a.file ix = f := ⟨_, rfl⟩
  rw [hf] at f0 f1 hr hfl hbv
  dsimp only at f0 f1 hr hfl hbv
  obtain ⟨L, hL⟩ : ∃ L, l.length = L := ⟨_, rfl⟩
  rw [hL] at f0 hr hfl hbv
  have hm : p % (L - q + 1) ≤ L - q := by have := Nat.mod_lt p (show 0 < L - q + 1 by omega); omega
  have hcf : cutF (l, q) p = (if p % 2 = 1 ∧ 0 < p % (L - q + 1) then (l.take (q + p % (L - q + 1))).set (q + p % (L - q + 1) - 1) ((l.take (q + p % (L - q + 1))).getD (q + p % (L - q + 1) - 1) 0 ^^^ 85) else l.take (q + p % (L - q + 1)), q + p % (L - q + 1)) := by unfold cutF; dsimp only; rw [hL]
  have hbl : ∀ n, Calls Tryz.prog 92 #[.int .u64 (p : Int), .int .i64 ((L - q : Nat) : Int)] (w.drewN n) fun e w'' => e = .returned (.int .i64 ((p % (L - q + 1) : Nat) : Int)) ∧ ∃ m, w'' = w.drewN m := fun n => Calls.quiet_of_same (below_any p (L - q) hp (by omega))
  generalize hKe : p % (L - q + 1) = m at *
  have hw0 : IntKind.i64.wrap ((L : Int) - (q : Int)) = ((L - q : Nat) : Int) := by
    rw [IntWalk.i64_in _ (by omega)]; omega
  have hw1 : IntKind.i64.wrap ((q : Int) + (m : Int)) = ((q + m : Nat) : Int) := by
    rw [IntWalk.i64_in _ (by omega)]; omega
  have hcap : L ≤ cap := by
    rw [hbv] at hr
    rcases hr.2 with ⟨he, h0⟩ | ⟨g, cap', cur, he, hB, hg, h1, _⟩
    · cases he; omega
    · cases he; exact h1
  have hb1 : (0 : Int) ≤ (q : Int) + (m : Int) := by omega
  have hb2 : (q : Int) + (m : Int) ≤ (cap : Int) := by omega
  have hb3 : ((q : Int) + (m : Int)).toNat = q + m := by omega
  have HBL := Lib.hid hbl
  have HH := Lib.hid h
  have HO := Lib.hid ho
  have HCF := Lib.hid hcf
  have HBV := Lib.hid hbv
  have HR := Lib.hid hr
  have HFL := Lib.hid hfl
  have HF := Lib.hid hf
  have HKE := Lib.hid hKe
  have HM := Lib.hid hm
  have HLL := Lib.hid hL
  clear h ho hcf hbv hr hfl hf hKe hbl hm hL
  have HEnd := fun n => Lib.hid (show ∀ (hs : ¬ (p % 2 = 1 ∧ 0 < m)), ∃ v F', FsG (((w.drewN n).setCell ⟨g.blk ix, 0, none⟩ (.slice ad (q + m) cap)).setCell ⟨g.blk ix, 1, none⟩ (.int .i64 ((q : Int) + (m : Int)))) { g with bv := upd g.bv ix v } pb (a.setFile ix (cutF (a.file ix) p)) F' ∧ Moves F w F' _ from fun hs => by
    have h := HH.out
    have hfb := (h.hF.f ix hix).1
    have t1 : Touch (g.blk ix) (w.drewN n) _ := Touch.setCell (a := ⟨g.blk ix, 0, none⟩) (.slice ad (q + m) cap)
    have t2 := Touch.setCell (w := (w.drewN n).setCell ⟨g.blk ix, 0, none⟩ (.slice ad (q + m) cap)) (a := ⟨g.blk ix, 1, none⟩) (.int .i64 ((q : Int) + (m : Int)))
    have ht := (Touch.drewN (g.blk ix) w n).trans (t1.trans t2)
    have e1 := Go.Joins.block_setCell (w := w.drewN n) (i := 0) hfb (.slice ad (q + m) cap)
    have e2 := Go.Joins.block_setCell (i := 1) e1 (.int .i64 ((q : Int) + (m : Int)))
    rw [HF.out, HCF.out, if_neg hs]
    have hN : q + m ≤ L := by have := HFL.out.2.1; have := HM.out; omega
    refine h.turned hix (v := .slice ad (q + m) cap) ⟨ht.os, ht.tape, ht.output⟩ ht.size (fun k h1 _ => ht.block k h1) (by rw [e2]; rfl) ?_ (fun k hk => by rw [HBV.out]; cases ad <;> exact hk)
    have hr := HR.out
    rw [HBV.out] at hr
    have hr2 := row_cut hr hN
    have hlen : (l.take (q + m)).length = q + m := by rw [List.length_take, HLL.out]; omega
    dsimp only
    rw [hlen]
    exact row_keep hr2 (fun k o _ ho hc => by
      obtain ⟨cur, rfl⟩ := hc
      rw [ht.block k (fun e => by rw [e, hfb] at ho; cases ho)]; exact ho))
  by_cases hs : p % 2 = 1 ∧ 0 < m
  · obtain ⟨hs1, hs2⟩ := hs
    clear HEnd
    have hN : q + m ≤ L := by have := HFL.out.2.1; have := HM.out; omega
    obtain ⟨gb, rfl, hne, cgb, zgb⟩ : ∃ gb, ad = some ⟨gb, 0, none⟩ ∧ g.blk ix ≠ gb ∧ w.cell? ⟨gb, q + m - 1, none⟩ = some (.int .u8 ((l.getD (q + m - 1) 0 : Nat) : Int)) ∧ w.frozen? ⟨gb, q + m - 1, none⟩ = false := by
      have hr := HR.out
      rw [HBV.out] at hr
      have hfb := (HH.out.hF.f ix hix).1
      have hc := fun g hg => World.ownsRow.cells hr (g := g) hg
      rcases hr.2 with ⟨he, h0⟩ | ⟨gb, cap', cur, he, hB, hg, h1, h2, h3, h4⟩
      · omega
      · cases he
        refine ⟨gb, rfl, (fun e => by rw [e, hg] at hfb; cases hfb), ?_, by simp [World.frozen?, hg]⟩
        have hlt : q + m - 1 < l.length := by rw [HLL.out]; omega
        have := hc gb rfl (q + m - 1) (.int .u8 ((l[q + m - 1] : Nat) : Int)) (by simp [u8s, hlt])
        rw [addr_add] at this
        rw [List.getD_eq_getElem?_getD, List.getElem?_eq_getElem hlt]; simpa using this
    have hx : l.getD (q + m - 1) 0 < 256 := by
      have hlt : q + m - 1 < l.length := by rw [HLL.out]; omega
      rw [List.getD_eq_getElem?_getD, List.getElem?_eq_getElem hlt]; exact HFL.out.2.2 _ (List.getElem_mem _)
    have HEnd := fun n => Lib.hid (show ∃ v F', FsG ((((w.drewN n).setCell ⟨g.blk ix, 0, none⟩ (.slice (some ⟨gb, 0, none⟩) (q + m) cap)).setCell ⟨gb, q + m - 1, none⟩ (.int .u8 ((l.getD (q + m - 1) 0 ^^^ 85 : Nat) : Int))).setCell ⟨g.blk ix, 1, none⟩ (.int .i64 ((q : Int) + (m : Int)))) { g with bv := upd g.bv ix v } pb (a.setFile ix (cutF (a.file ix) p)) F' ∧ Moves F w F' _ from by
      have h := HH.out
      have hfb := (h.hF.f ix hix).1
      have t1 : Touch (g.blk ix) (w.drewN n) _ := Touch.setCell (a := ⟨g.blk ix, 0, none⟩) (.slice (some ⟨gb, 0, none⟩) (q + m) cap)
      have t2 := Touch.setCell (w := (w.drewN n).setCell ⟨g.blk ix, 0, none⟩ (.slice (some ⟨gb, 0, none⟩) (q + m) cap)) (a := ⟨gb, q + m - 1, none⟩) (.int .u8 ((l.getD (q + m - 1) 0 ^^^ 85 : Nat) : Int))
      have t3 := Touch.setCell (w := ((w.drewN n).setCell ⟨g.blk ix, 0, none⟩ (.slice (some ⟨gb, 0, none⟩) (q + m) cap)).setCell ⟨gb, q + m - 1, none⟩ (.int .u8 ((l.getD (q + m - 1) 0 ^^^ 85 : Nat) : Int))) (a := ⟨g.blk ix, 1, none⟩) (.int .i64 ((q : Int) + (m : Int)))
      have e1 := Go.Joins.block_setCell (w := w.drewN n) (i := 0) hfb (.slice (some ⟨gb, 0, none⟩) (q + m) cap)
      have e2 := Go.Joins.block_setCell (i := 1) ((t2.block _ hne).trans e1) (.int .i64 ((q : Int) + (m : Int)))
      rw [HF.out, HCF.out, if_pos ⟨hs1, hs2⟩]
      refine h.turned hix (v := .slice (some ⟨gb, 0, none⟩) (q + m) cap) ⟨rfl, rfl, rfl⟩ (by rw [t3.size, t2.size, t1.size]; rfl) (fun k h1 h2 => (t3.block k h1).trans ((t2.block k (fun e => h2 (by rw [HBV.out, e]; rfl))).trans (t1.block k h1))) (by rw [e2]; rfl) ?_ (fun k hk => by rw [HBV.out]; exact hk)
      have hr := HR.out
      rw [HBV.out] at hr
      have hr2 := row_cut hr hN
      have hlen : (l.take (q + m)).length = q + m := by rw [List.length_take, HLL.out]; omega
      dsimp only
      rw [List.length_set, hlen]
      have hge : (l.take (q + m)).getD (q + m - 1) 0 = l.getD (q + m - 1) 0 := by
        rw [List.getD_eq_getElem?_getD, List.getD_eq_getElem?_getD, List.getElem?_take, if_pos (by omega)]
      rw [hge]
      refine row_store (w := w) hr2 (by omega) ?_
      rw [t3.block gb (fun e => hne e.symm)]
      obtain ⟨cur, hcur⟩ := row_block hr2 (k := gb) rfl
      have hcur1 : ((w.drewN n).setCell ⟨g.blk ix, 0, none⟩ (.slice (some ⟨gb, 0, none⟩) (q + m) cap)).heap[gb]? = some (.cells cur 5 (0, 0)) := (t1.block gb (fun e => hne e.symm)).trans hcur
      rw [Go.Joins.block_setCell hcur1 _, Go.Joins.block_setCell hcur _])
    generalize hxe : l.getD (q + m - 1) 0 = x at *
    have hxor := bits_xor85 x hx
    have hne2 : gb ≠ g.blk ix := fun e => hne e.symm
    have i1 : IntKind.i64.wrap ((q : Int) + (m : Int) - 1) = ((q + m - 1 : Nat) : Int) := by rw [IntWalk.i64_in _ (by have := HFL.out.1; omega)]; omega
    have d1 : ((p : Int) % 2 == 1) = true := by simp; omega
    have d2 : decide (0 < m) = true := by simp; omega
    clear HR HH
    go_enter Tryz.func64, Tryz.ntmps64
    go_wp2_with fail
    go_quiet ((go_at_call 92; exact HBL.out _))
    clear HBL
    go_wp2_with fail
    go_region
    go_wp2_with fail
    go_region
    go_wp2_with fail
    go_end0
    obtain ⟨v, F', hG, hM⟩ := (HEnd (nq + 1)).out
    exact ⟨rfl, v, F', hG.keep (fun _ _ => rfl) (Nat.le_refl _), hM.trans (Moves.drew _ _)⟩
  · go_enter Tryz.func64, Tryz.ntmps64
    go_wp2_with fail
    go_quiet ((go_at_call 92; exact HBL.out _))
    clear HBL
    go_wp2_with fail
    go_region
    go_wp2_with fail
    all_goals
      go_end0
      exact ⟨rfl, (HEnd _).out hs⟩
end Go.Proofs.YtadnecgcoceklaaGreatDoor

