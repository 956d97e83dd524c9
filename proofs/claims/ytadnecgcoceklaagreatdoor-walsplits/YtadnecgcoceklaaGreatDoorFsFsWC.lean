/-
  Append of package fs.
-/
import Derived.Test.YtadnecgcoceklaaGreatDoorFsFsWB
import Derived.RegionTactic
import Derived.BigRegion
import Derived.ProofKit
import Derived.OpenShut
import Derived.ChangeOld
namespace Go.Proofs.YtadnecgcoceklaaGreatDoor
open Go.RowKit Go.Maps

/-- A region that draws its order, whose operations and callees give one value each in every world that has grown from W. -/
theorem wp_region_grown {P : Program} {id : Nat} {Q : Exit → Act → World → Prop} {a : Act} {w : World} {l : List Oper} (hm : P.follows .mixedOrders = true) (hB : Region.lexB .any l.toArray = true)
    (h : wpQuiet P l.toArray (fun w' => ∃ x : {x : World // Below w.heap.size w x}, w' = x.val) (fun a' => ∀ w', (∃ x : {x : World // Below w.heap.size w x}, w' = x.val) → Q .normal a' w') l a) : (Code.region id l.toArray true).wp P Q a w :=
  wp_region_quiet (C := fun w' => ∃ x : {x : World // Below w.heap.size w x}, w' = x.val) hm hB ⟨⟨w.drew, (Below.refl _ w).drew⟩, rfl⟩ (by simpa using h)

/-- Bytes appended to a row of one's own. -/
theorem app_bytes {w : World} {v : Value} {ys : List Nat} {n : Nat} (hown : w.ownsRow 0 5 1 v n (u8s ys)) {b off c : Nat} {l : List Nat} (hl : Byt w (some ⟨b, off, none⟩) l) (hs : n + l.length ≤ 140737488351232) (m : Nat) (hm : l.length = m) :
    ∃ ad cap w2, (Builtin.append_ #[47, 47] 47 #[v, .slice (some ⟨b, off, none⟩) m c]).run Tryz.prog w = .ok (.slice ad (n + m) cap) w2 ∧ w2.ownsRow 0 5 1 (.slice ad (n + m) cap) (n + m) (u8s (ys ++ l)) ∧ w.grownBy w2 v.ownBlock ∧
      (∀ k, (Value.slice ad (n + m) cap).ownBlock = some k → v.ownBlock = some k ∨ w.heap.size ≤ k) := by
  subst hm
  obtain ⟨i0, hi0, hz0, hz1, hz2⟩ := info_parts Tryz.info5
  obtain ⟨v', w', h1, h2, h3, _, h5⟩ := run_append_own_at (P := Tryz.prog) w 0 47 47 5 i0 (.int .u8 0) 1 1 Tryz.underlying47 hi0 hz0 hz1 hz2 rfl (by decide) v n (u8s ys) hown ⟨b, off, none⟩ l.length c (u8s l) (by simp [u8s]) (fun j u hu => by
    rcases hl with rfl | ⟨b', off', e, _, hc⟩
    · simp [u8s] at hu
    · cases e
      have hj : j < l.length := by
        rcases Nat.lt_or_ge j l.length with h | h
        · exact h
        · rw [List.getElem?_eq_none (by simpa [u8s] using h)] at hu; cases hu
      rw [addr_add, hc j hj]
      simp [u8s, hj] at hu; rw [hu]) (u8s_one l) (by unfold maxLen; omega) (by omega) (Nat.zero_le _)
  obtain ⟨ad, cap, rfl⟩ := row_form h2
  refine ⟨ad, cap, w', h1, by rw [u8s_app]; exact h2, h3, fun k hk => ?_⟩
  rcases h5 with h5 | h5
  · left; rw [← h5]; exact hk
  · right
    rw [h5] at hk; cases hk; exact Nat.le_refl _

theorem append_err {a : A} {s : Bs} {b : List Nat} (h : a.findE s ≠ 0) : a.append s b = (a.findE s, a) := by unfold A.append; rw [if_neg h]
theorem append_big {a : A} {s : Bs} {b : List Nat} (h : a.findE s = 0) (h1 : 1048576 < (a.file (a.idx s)).1.length + b.length) : a.append s b = (14, a) := by unfold A.append; rw [if_pos h, if_pos h1]
theorem append_space {a : A} {s : Bs} {b : List Nat} (h : a.findE s = 0) (h1 : ¬ 1048576 < (a.file (a.idx s)).1.length + b.length) (h2 : a.room < a.used + b.length) : a.append s b = (5, a) := by unfold A.append; rw [if_pos h, if_neg h1, if_pos h2]
theorem append_try {a : A} {s : Bs} {b : List Nat} (h : a.findE s = 0) (h1 : ¬ 1048576 < (a.file (a.idx s)).1.length + b.length) (h2 : ¬ a.room < a.used + b.length) : a.append s b = a.try fun a => a.setFile (a.idx s) ((a.file (a.idx s)).1 ++ b, (a.file (a.idx s)).2) := by unfold A.append; rw [if_pos h, if_neg h1, if_neg h2]

set_option maxRecDepth 100000 in
set_option maxHeartbeats 1000000 in
theorem append_any {w : World} {pb : Nat} {a : A} {F : Nat → Prop} (h : FsAt w pb a F) (s : ByteArray) (ht : a.top < 1073741824) {bb off m c : Nat} {l : List Nat} (hl : Byt w (some ⟨bb, off, none⟩) l) (hm : l.length = m) (hx : ∀ x ∈ l, x < 256) (hF : ¬ F bb) (hmx : m ≤ 140737488351232) :
    Calls Tryz.prog 48 #[bp pb, .string s, .slice (some ⟨bb, off, none⟩) m c] w (Ans w pb F (a.append s.data.toList l)) := by
  obtain ⟨ho, g, h⟩ := h
  have hfind := find_any h s
  have HA := Lib.hid h
  have HO := Lib.hid ho
  by_cases h0 : a.findE s.data.toList = 0
  · have hi := ho.idx h0
    unfold findP at hfind
    rw [if_pos h0, h0] at hfind
    have HF := Lib.hid hfind
    have f0 := h.f0 hi.2.2
    obtain ⟨ad, cap, hbv⟩ := row_form (h.hF.r _ hi.2.2).1
    rw [hbv] at f0
    have hL : (a.files.getD (a.idx s.data.toList) ([], 0)).1.length = (a.file (a.idx s.data.toList)).1.length := rfl
    rw [hL] at f0
    have hfl := ho.file (a.idx s.data.toList)
    by_cases hbig : 1048576 < (a.file (a.idx s.data.toList)).1.length + l.length
    · have HV := Lib.hid (append_big h0 hbig)
      have hfl1 := hfl.1
      rw [hm] at hbig
      generalize (a.file (a.idx s.data.toList)).1.length = L at *
      clear hfind ho h hbv hi h0 hL hfl hl
      go_enter Tryz.func48, Tryz.ntmps48
      go_wp2_with fail
      refine HF.out.mono ?_
      rintro e W ⟨rfl, rfl⟩
      go_wp2
      go_ret
      rw [HV.out]
      exact ⟨rfl, F, ⟨HO.out, g, HA.out⟩, Moves.refl _ _⟩
    · have htop : a.now.length < 1073741824 := by unfold A.top at ht; omega
      have cU : Hid (∀ wx, Below w.heap.size w wx → Calls Tryz.prog 35 #[bp pb] wx fun e w'' => e = .returned (.int .i64 (a.used : Int)) ∧ Below w.heap.size w w'') := Lib.hid (fun wx hx => (used_g (h.below hx) ho htop).mono fun _ _ ⟨he, hb⟩ => ⟨he, hx.trans (hb.mono hx.size)⟩)
      have hroom : Hid (∀ wx, Below w.heap.size w wx → wx.cell? ⟨pb, 0, none⟩ = some (.int .i64 (a.room : Int))) := Lib.hid (fun wx hx => (h.below hx).c0)
      have hU : a.used ≤ 1125899906842624 := by have := used_le ho; omega
      have hR := ho.room
      by_cases hsp : a.room < a.used + l.length
      · have HV := Lib.hid (append_space h0 hbig hsp)
        have hfl1 := hfl.1
        rw [hm] at hbig hsp
        generalize (a.file (a.idx s.data.toList)).1.length = L at *
        clear hfind ho h hbv hi h0 hL hfl hl
        go_enter Tryz.func48, Tryz.ntmps48
        go_wp2_with fail
        refine HF.out.mono ?_
        rintro e W ⟨rfl, rfl⟩
        go_wp2_with fail
        refine wp_region_grown (by kernel_rfl) (by kernel_rfl) ?_
        repeat (first
          | go_big_quiet_skip
          | (go_big_quiet_want; go_big_quiet_op; first
              | go_big_quiet_on
              | (apply Exists.intro; refine ⟨fun _ _ => rfl, ?_⟩; go_big_quiet_on)
              | (apply Exists.intro; refine ⟨fun _ hx => ⟨rfl, hx⟩, ?_⟩; go_big_quiet_on)
              | (refine ⟨.int .i64 (a.room : Int), by intro wx hx; simp only [hroom.out wx hx, Result.andThen]; exact ⟨trivial, trivial⟩, ?_⟩; go_big_quiet_on)
              | (apply Exists.intro; refine ⟨by with_reducible exact cU.out, ?_⟩; go_big_quiet_on)))
        refine wpQuiet_nil ?_
        rintro wz ⟨x, hx⟩
        have HZ : Hid (Below w.heap.size w wz) := Lib.hid (hx ▸ x.2)
        clear hx x
        go_wp2
        go_ret
        rw [HV.out]
        exact ⟨rfl, F, ⟨HO.out, g, HA.out.below HZ.out⟩, ⟨HZ.out.os, HZ.out.tape, HZ.out.output, HZ.out.size, fun k hk _ => HZ.out.block k hk, fun k hk => .inl hk⟩⟩
      · have hspnd : Hid (∀ wx, Below w.heap.size w wx → Calls Tryz.prog 70 #[bp pb] wx fun e w' => e = .returned (.int .i64 a.spendE) ∧ FsG w' g pb a.spent F ∧ Touch pb wx w') := Lib.hid (fun wx hx => spend_any (h.below hx) ho.left)
        rcases spendE_cases a with h00 | h4
        · have HV := Lib.hid (show a.append s.data.toList l = (0, a.spent.setFile (a.idx s.data.toList) ((a.file (a.idx s.data.toList)).1 ++ l, (a.file (a.idx s.data.toList)).2)) by rw [append_try h0 hbig hsp]; unfold A.try; rw [if_pos h00]; dsimp only; rw [spent_idx, spent_file])
          rw [h00] at hspnd
          have HL := Lib.hid hl
          have HI := Lib.hid hi.2.2
          have HFL := Lib.hid hfl
          have HBIG := Lib.hid hbig
          have hfl1 := hfl.1
          have HM := Lib.hid hm
          rw [hm] at hbig hsp
          have hLL : ((a.file (a.idx s.data.toList)).1).length ≤ 1048576 := hfl.1
          have hlt := h.lt
          have hbb : Hid (bb ≠ pb) := Lib.hid (fun e => hF (by rw [e]; exact h.fp))
          generalize hix : a.idx s.data.toList = ix at *
          obtain ⟨L, hLe⟩ : ∃ L, (a.file ix).1.length = L := ⟨_, rfl⟩
          have HLE := Lib.hid hLe
          rw [hLe] at f0 hbig hfl1 hLL
          clear hfind ho h hbv hi h0 hL hfl hl hm h00 hix hLe hfl1 hLL
          go_enter Tryz.func48, Tryz.ntmps48
          go_wp2_with fail
          refine HF.out.mono ?_
          rintro e W ⟨rfl, rfl⟩
          go_wp2_with fail
          refine wp_region_grown (by kernel_rfl) (by kernel_rfl) ?_
          repeat (first
            | go_big_quiet_skip
            | (go_big_quiet_want; go_big_quiet_op; first
                | go_big_quiet_on
                | (apply Exists.intro; refine ⟨fun _ _ => rfl, ?_⟩; go_big_quiet_on)
                | (apply Exists.intro; refine ⟨fun _ hx => ⟨rfl, hx⟩, ?_⟩; go_big_quiet_on)
                | (refine ⟨.int .i64 (a.room : Int), by intro wx hx; simp only [hroom.out wx hx, Result.andThen]; exact ⟨trivial, trivial⟩, ?_⟩; go_big_quiet_on)
                | (apply Exists.intro; refine ⟨by with_reducible exact cU.out, ?_⟩; go_big_quiet_on)))
          refine wpQuiet_nil ?_
          rintro wz ⟨x, hx⟩
          have HZ : Hid (Below w.heap.size w wz) := Lib.hid (hx ▸ x.2)
          clear hx x
          go_wp2_with fail
          refine (hspnd.out wz HZ.out).mono ?_
          rintro e W ⟨rfl, hW, hT⟩
          have hix : ix < a.spent.files.length := by rw [(spent_eq a).2.2.2.2.1]; exact HI.out
          have f0 := hW.f0 hix
          obtain ⟨ad2, cap2, hbv⟩ := row_form (hW.hF.r ix hix).1
          have hsf : a.spent.files.getD ix ([], 0) = a.file ix := spent_file a ix
          have hr0 := (hW.hF.r ix hix).1
          rw [hsf] at hr0 hbv
          have hlW : Byt W (some ⟨bb, off, none⟩) l := by
            have h1 := HL.out.keep HZ.out
            rcases h1 with h1 | ⟨b', o', e, hlt', hc⟩
            · exact .inl h1
            · cases e
              exact .inr ⟨bb, off, rfl, by rw [hT.size]; exact hlt', fun i hi => (World.cell?_of_block (a := ⟨bb, off + i, none⟩) (hT.block bb hbb.out)).trans (hc i hi)⟩
          obtain ⟨ad3, cap3, w2, hrun, hrow, hgr, hvb⟩ := app_bytes (c := c) hr0 hlW (by rw [HM.out]; have := HFL.out.1; omega) m HM.out
          have hfb := (hW.hF.f ix hix).1
          rw [hsf] at hfb
          have hne : some (g.blk ix) ≠ (g.bv ix).ownBlock := fun e => by
            obtain ⟨cur, h1⟩ := row_block hr0 e.symm
            exact heap_ne hfb h1 (by simp) rfl
          have hblt : g.blk ix < W.heap.size := hW.fl _ (hW.hF.f ix hix).2
          have hfb2 := (hgr.block _ hblt hne).trans hfb
          have ht2 : Touch (g.blk ix) w2 (w2.setCell ⟨g.blk ix, 0, none⟩ (.slice ad3 ((a.file ix).1.length + m) cap3)) := Touch.setCell (a := ⟨g.blk ix, 0, none⟩) _
          have hG := hW.turnFile hix (w' := w2.setCell ⟨g.blk ix, 0, none⟩ (.slice ad3 ((a.file ix).1.length + m) cap3)) (f := ((a.file ix).1 ++ l, (a.file ix).2)) (v := .slice ad3 ((a.file ix).1.length + m) cap3) (by rw [ht2.size]; exact hgr.size) (fun k hk h1 h2 => (ht2.block k h1).trans (hgr.block k hk h2))
            (by rw [Go.Joins.block_setCell hfb2 _]; rfl) (by
              have := row_keep hrow (w' := w2.setCell ⟨g.blk ix, 0, none⟩ (.slice ad3 ((a.file ix).1.length + m) cap3)) (fun k o _ ho hc => by
                obtain ⟨cur, rfl⟩ := hc
                rw [ht2.block k (fun e => by rw [e, hfb2] at ho; cases ho)]; exact ho)
              rw [List.length_append, HM.out]; exact this) hvb
          have hMv : Moves F w (fun k => F k ∨ (Value.slice ad3 ((a.file ix).1.length + m) cap3).ownBlock = some k) (w2.setCell ⟨g.blk ix, 0, none⟩ (.slice ad3 ((a.file ix).1.length + m) cap3)) := by
            have m0 : Moves F w F wz := ⟨HZ.out.os, HZ.out.tape, HZ.out.output, HZ.out.size, fun k hk _ => HZ.out.block k hk, fun k hk => .inl hk⟩
            have m1 : Moves F W F w2 := ⟨hgr.os, hgr.tape, hgr.output, hgr.size, fun k hk hf => hgr.block k hk (fun e => hf ((hW.hF.r ix hix).2 k e.symm)), fun k hk => .inl hk⟩
            have mm := ((m0.trans (hT.moves hW.fp)).trans m1).trans (ht2.moves (F := F) (hW.hF.f ix hix).2)
            exact ⟨mm.os, mm.tape, mm.output, mm.size, mm.block, fun k hk => by
              rcases hk with hk | hk
              · exact .inl hk
              · rcases hvb k hk with h1 | h1
                · exact .inl ((hW.hF.r ix hix).2 k h1)
                · right; have := hT.size; have := HZ.out.size; omega⟩
          have HE := Lib.hid (show Ans w pb F (a.append s.data.toList l) (.returned (.int .i64 0)) (w2.setCell ⟨g.blk ix, 0, none⟩ (.slice ad3 ((a.file ix).1.length + m) cap3)) by
            rw [HV.out]
            refine ⟨rfl, _, ⟨HO.out.spent.setFile ?_ ?_ ?_, _, hG⟩, hMv⟩
            · have := HBIG.out; simp; omega
            · have := HFL.out.2.1; simp; omega
            · intro x hx'
              rcases List.mem_append.1 hx' with h1 | h1
              · exact HFL.out.2.2 x h1
              · exact hx x h1)
          have c0 : w2.cell? ⟨g.blk ix, 0, none⟩ = some (g.bv ix) := by rw [cell_of_row w2 _ 0 _ _ _ hfb2]; rfl
          have z0 : w2.frozen? ⟨g.blk ix, 0, none⟩ = false := by simp [World.frozen?, hfb2]
          rw [hbv] at f0 hrun c0
          generalize hLL : (a.file ix).1.length + m = LL at *
          clear hW hT hG hMv hrow hgr hvb hfb hfb2 ht2 hne hblt hr0 hlW hsf hbv hLL hspnd cU hroom HF
          go_wp2_with (at_builtin; refine wpList_app_run rfl rfl hrun rfl rfl ?_)
          go_ret
          exact HE.out
        · have HV := Lib.hid (show a.append s.data.toList l = (4, a.spent) by rw [append_try h0 hbig hsp]; unfold A.try; rw [h4]; rfl)
          rw [h4] at hspnd
          have hfl1 := hfl.1
          rw [hm] at hbig hsp
          generalize (a.file (a.idx s.data.toList)).1.length = L at *
          clear hfind ho h hbv hi h0 hL hfl hl h4
          go_enter Tryz.func48, Tryz.ntmps48
          go_wp2_with fail
          refine HF.out.mono ?_
          rintro e W ⟨rfl, rfl⟩
          go_wp2_with fail
          refine wp_region_grown (by kernel_rfl) (by kernel_rfl) ?_
          repeat (first
            | go_big_quiet_skip
            | (go_big_quiet_want; go_big_quiet_op; first
                | go_big_quiet_on
                | (apply Exists.intro; refine ⟨fun _ _ => rfl, ?_⟩; go_big_quiet_on)
                | (apply Exists.intro; refine ⟨fun _ hx => ⟨rfl, hx⟩, ?_⟩; go_big_quiet_on)
                | (refine ⟨.int .i64 (a.room : Int), by intro wx hx; simp only [hroom.out wx hx, Result.andThen]; exact ⟨trivial, trivial⟩, ?_⟩; go_big_quiet_on)
                | (apply Exists.intro; refine ⟨by with_reducible exact cU.out, ?_⟩; go_big_quiet_on)))
          refine wpQuiet_nil ?_
          rintro wz ⟨x, hx⟩
          have HZ : Hid (Below w.heap.size w wz) := Lib.hid (hx ▸ x.2)
          clear hx x
          go_wp2_with fail
          refine (hspnd.out wz HZ.out).mono ?_
          rintro e W ⟨rfl, hW, hT⟩
          have HW := Lib.hid hW
          have HT := Lib.hid hT
          clear hW hT
          go_wp2
          go_ret
          rw [HV.out]
          have m0 : Moves F w F wz := ⟨HZ.out.os, HZ.out.tape, HZ.out.output, HZ.out.size, fun k hk _ => HZ.out.block k hk, fun k hk => .inl hk⟩
          exact ⟨rfl, F, ⟨HO.out.spent, g, HW.out⟩, m0.trans (HT.out.moves HW.out.fp)⟩
  · have HV := Lib.hid (append_err (b := l) h0)
    unfold findP at hfind
    rw [if_neg h0] at hfind
    generalize hE : a.findE s.data.toList = E at *
    have hE6 := findE_err a s.data.toList (by rw [hE]; exact h0)
    rw [hE] at hE6
    have HF := Lib.hid hfind
    clear hfind ho h hE hl
    rcases hE6 with rfl | rfl
    all_goals
      go_enter Tryz.func48, Tryz.ntmps48
      go_wp2_with fail
      refine HF.out.mono ?_
      rintro e W ⟨rfl, rfl⟩
      go_wp2
      go_ret
      rw [HV.out]
      exact ⟨rfl, F, ⟨HO.out, g, HA.out⟩, Moves.refl _ _⟩
end Go.Proofs.YtadnecgcoceklaaGreatDoor

