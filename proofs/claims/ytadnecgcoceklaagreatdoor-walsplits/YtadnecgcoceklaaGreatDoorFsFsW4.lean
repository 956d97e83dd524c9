/-
  A change is done, and waits (do).
-/
import Derived.Test.YtadnecgcoceklaaGreatDoorFsFsW3
namespace Go.Proofs.YtadnecgcoceklaaGreatDoor
open Go.RowKit Go.Maps

theorem Tryz.info135 : (Tryz.prog.info? 135).map (fun i => (i.zero, i.size, i.bytes)) = some (some .nilFunc, 1, 8) := by kernel_rfl
/-- A change appended to those that wait. -/
theorem app_ch {w : World} {v : Value} {n : Nat} {xs : List Value} (hown : w.ownsRow 0 135 1 v n xs) (hn : n < 1099511627776) (cv : Value) (h1 : cv.oneCell' = true) (p : Nat) (hp : w.heap.size = p) :
    ∃ gb cap w2, (Builtin.append_ #[91, 91] 91 #[v, .slice (some ⟨p, 0, none⟩) 1 1]).run Tryz.prog (w.alloc (.cells #[cv] 135)) = .ok (.slice (some ⟨gb, 0, none⟩) (n + 1) cap) w2 ∧ w2.ownsRow 0 135 1 (.slice (some ⟨gb, 0, none⟩) (n + 1) cap) (n + 1) (xs ++ [cv]) ∧ w.grownBy w2 v.ownBlock ∧ (v.ownBlock = some gb ∨ p ≤ gb) := by
  subst hp
  obtain ⟨i0, hi0, hz0, hz1, hz2⟩ := info_parts Tryz.info135
  obtain ⟨g, cap, w2, h1, h2, h3, h4, h5⟩ := run_append_lies (P := Tryz.prog) (w.alloc (.cells #[cv] 135)) 91 91 0 135 i0 .nilFunc 1 8 Tryz.underlying91 hi0 hz0 hz1 hz2 rfl (by decide) v n xs (hown.alloc _) ⟨w.heap.size, 0, none⟩ 1 1 [cv] rfl (cell_one_new _ _ _) (by intro u hu; simp at hu; subst hu; exact h1) (by omega) (by unfold maxLen; omega) (by omega) (Nat.zero_le _) _ rfl
  refine ⟨g, cap, w2, h1, h2, ⟨h3.os, h3.tape, h3.output, by have := h3.size; simp at this; omega, fun k hk hne => ?_⟩, ?_⟩
  · rw [h3.block k (by simp; omega) hne, Below.heap_alloc _ _ _ hk]
  · rcases h4 with h4 | h4
    · exact .inl h4
    · right; rw [h4]; simp

theorem cval_one (c : Ch) (x : Nat × Nat × Nat) : (cval c x).oneCell' = true := by cases c <;> rfl
theorem Ch.on_len (c : Ch) (d : Dir) : (c.on d).length ≤ d.length + 1 := by
  have hi : ∀ (x : Bs × Nat) (d : Dir), (Dir.ins x d).length = d.length + 1 := by
    intro x d
    induction d with
    | nil => rfl
    | cons y r ih => unfold Dir.ins; split <;> simp [ih]
  have hd : ∀ (d : Dir) k, (Dir.del d k).length ≤ d.length := fun d k => List.length_filter_le _ _
  cases c with
  | create n i => show (Dir.put d n i).length ≤ _; unfold Dir.put; rw [hi]; have := hd d n; omega
  | remove n => show (Dir.del d n).length ≤ _; have := hd d n; omega

theorem run_fn {f : FuncId} {fn : Func} (hf : Tryz.prog.funcs[f]? = some fn) (hname : (fn.name == "runtime.NumGoroutine") = false) (hb : fn.body.isSome = true) (args : Array Value) (w : World) :
    (callFunc f args).run Tryz.prog w = .ok (.enter f args) w := by
  obtain ⟨c, hc⟩ := Option.isSome_iff_exists.1 hb
  have h1 : fn.name ≠ "runtime.NumGoroutine" := by simpa using hname
  simp [callFunc, hf, h1, hc]
theorem run_chfn (c : Ch) (args : Array Value) (w : World) : (callFunc c.fn args).run Tryz.prog w = .ok (.enter c.fn args) w := by
  cases c with
  | create n i => exact run_fn Tryz.func72 (by kernel_rfl) (by kernel_rfl) args w
  | remove n => exact run_fn Tryz.func89 (by kernel_rfl) (by kernel_rfl) args w
def DidP (w : World) (pb : Nat) (a : A) (g : Gh) (F : Nat → Prop) (w' : World) : Prop := ∃ g' F', FsG w' g' pb a F' ∧ g'.blk = g.blk ∧ g'.bv = g.bv ∧ Moves F w F' w'

set_option maxRecDepth 100000 in
set_option maxHeartbeats 400000 in
theorem do_some {w : World} {g : Gh} {pb nb : Nat} {a : A} {F : Nat → Prop} (h : FsG w g pb a F) (hnb : g.nm = some nb) (hn : a.now.length < maxLen) (hwl : a.wait.length < 1099511627776) {c : Ch} {x : Nat × Nat × Nat} (hc : ChAt w F g.blk c x) {n : Nat} (hs : c.ok n) :
    Calls Tryz.prog 71 #[bp pb, cval c x] w fun e w' => e = .returned (.tuple #[]) ∧ DidP w pb (a.do c) g F w' := by
  have hcall := ch_any (h.hD.n nb hnb).1 hn hc hs
  have HC := Lib.hid hcall
  have c1 := h.c1
  rw [hnb] at c1
  have HH := Lib.hid h
  have HCH := Lib.hid hc
  have HNB := Lib.hid hnb
  have hq := fun w => run_eql_map_nil_sl (P := Tryz.prog) w 90 _ _ (some nb) und65
  have hcf := run_chfn c
  rw [cval_eq]
  clear hcall h hc hnb hs
  go_enter Tryz.func71, Tryz.ntmps71
  go_wp2_with fail
  refine HC.out.mono ?_
  rintro e W ⟨rfl, hd, ht⟩
  have hG := HH.out.didNow HNB.out ht hd
  obtain ⟨es0, cl0, hbk⟩ := (HH.out.hD.n nb HNB.out).1.blk
  have hCW := HCH.out.keeps (F := F) (Keeps.touch (k := kBox) ht hbk rfl)
  have hMW := ht.moves (F := F) (HH.out.hD.n nb HNB.out).2
  have hwl2 : g.wl.length < 1099511627776 := by have := congrArg List.length HH.out.hw; rw [List.length_map] at this; omega
  obtain ⟨gb, cap, w2, hr, hrow, hgr, hvb⟩ := app_ch hG.hW.row hwl2 (cval c x) (cval_one c x) _ rfl
  have hF := hG.waited (by rw [HNB.out]; simp) hCW hgr hrow
  have HF := Lib.hid hF
  have c3 := hG.c3
  have z3 : w2.frozen? ⟨pb, 3, none⟩ = false := by
    rw [World.frozen?_of_block (w := W) (hgr.block pb hG.lt (fun e => by
      obtain ⟨cur, h1⟩ := row_block hG.hW.row e.symm
      rw [hG.hP] at h1; cases h1))]; exact hG.fz 3
  have c3b : ∃ u, w2.cell? ⟨pb, 3, none⟩ = some u := ⟨g.wv, by
    rw [World.cell?_of_block (w := W) (hgr.block pb hG.lt (fun e => by
      obtain ⟨cur, h1⟩ := row_block hG.hW.row e.symm
      rw [hG.hP] at h1; cases h1))]; exact c3⟩
  obtain ⟨u3, c3b⟩ := c3b
  have HMF := Lib.hid (show Moves F w (fun k => F k ∨ (Value.slice (some ⟨gb, 0, none⟩) (g.wl.length + 1) cap).ownBlock = some k) (w2.setCell ⟨pb, 3, none⟩ (.slice (some ⟨gb, 0, none⟩) (g.wl.length + 1) cap)) from by
    refine hMW.trans ?_
    have m1 : Moves F W (fun k => F k ∨ (Value.slice (some ⟨gb, 0, none⟩) (g.wl.length + 1) cap).ownBlock = some k) w2 := ⟨hgr.os, hgr.tape, hgr.output, hgr.size, fun k hk hf => hgr.block k hk (fun e => hf (hG.hW.fr k e.symm)), fun k hk => by
      rcases hk with hk | hk
      · exact .inl hk
      · have : gb = k := by simpa [Value.ownBlock] using hk
        subst this
        rcases hvb with h | h
        · exact .inl (hG.hW.fr gb h)
        · exact .inr h⟩
    exact m1.trans (Moves.setCell w2 (a := ⟨pb, 3, none⟩) (.inl hG.fp) _))
  rw [cval_eq] at hr
  clear hG hd ht hbk hCW hMW hgr hrow hF hvb HC
  go_wp2_with (at_builtin; refine wpList_app_run rfl rfl hr rfl rfl ?_)
  go_end0
  exact ⟨rfl, _, _, HF.out, rfl, rfl, HMF.out⟩

theorem run_mk (w : World) : (Instr.makeMap 90 none).run Tryz.prog w = .ok (.map (some w.heap.size)) (w.alloc (.map #[] 0)) := by
  simp [Instr.makeMap]
theorem FsG.madeDirs {w : World} {g : Gh} {pb : Nat} {a : A} {F : Nat → Prop} (h : FsG w g pb a F) (hnm : g.nm = none) {c : Ch} {x : Nat × Nat × Nat} (hc : ChAt w F g.blk c x) :
    FsG ((((w.setCell ⟨pb, 1, none⟩ (.map (some w.heap.size))).setCell ⟨pb, 2, none⟩ (.map (some (w.heap.size + 1)))).alloc (.map #[] 0)).alloc (.map #[] 0)) { g with nm := some w.heap.size, lm := some (w.heap.size + 1) } pb a (fun k => F k ∨ k = w.heap.size ∨ k = w.heap.size + 1) ∧
    ChAt ((((w.setCell ⟨pb, 1, none⟩ (.map (some w.heap.size))).setCell ⟨pb, 2, none⟩ (.map (some (w.heap.size + 1)))).alloc (.map #[] 0)).alloc (.map #[] 0)) (fun k => F k ∨ k = w.heap.size ∨ k = w.heap.size + 1) g.blk c x ∧ Moves F w (fun k => F k ∨ k = w.heap.size ∨ k = w.heap.size + 1) ((((w.setCell ⟨pb, 1, none⟩ (.map (some w.heap.size))).setCell ⟨pb, 2, none⟩ (.map (some (w.heap.size + 1)))).alloc (.map #[] 0)).alloc (.map #[] 0)) := by
  have hlt := h.lt
  have e1 := Go.Joins.block_setCell (i := 1) h.hP (.map (some w.heap.size))
  have e2 := Go.Joins.block_setCell (i := 2) e1 (.map (some (w.heap.size + 1)))
  have t1 : Touch pb w _ := Touch.setCell (a := ⟨pb, 1, none⟩) (.map (some w.heap.size))
  have t2 := Touch.setCell (w := w.setCell ⟨pb, 1, none⟩ (.map (some w.heap.size))) (a := ⟨pb, 2, none⟩) (.map (some (w.heap.size + 1)))
  have ht := t1.trans t2
  have hMv := (ht.moves (F := F) h.fp)
  have hK1 : ∀ kk, kk (.cells (pCells a g) 93 (0, 0)) = false → Keeps kk F w _ := fun kk hk => Keeps.touch ht h.hP hk
  obtain ⟨hn, hl⟩ := h.hD.none_ hnm
  generalize (w.setCell ⟨pb, 1, none⟩ (.map (some w.heap.size))).setCell ⟨pb, 2, none⟩ (.map (some (w.heap.size + 1))) = w1 at *
  have hsz : w1.heap.size = w.heap.size := ht.size
  have hK : ∀ kk, kk (.cells (pCells a g) 93 (0, 0)) = false → Keeps kk F w ((w1.alloc (.map #[] 0)).alloc (.map #[] 0)) := fun kk hk => ((hK1 kk hk).alloc _).alloc _
  refine ⟨⟨?_, ⟨by simp, by simp, fun b hb' => ?_, fun b hb' => ?_, fun b h1 h2 => ?_⟩, (h.hW.keeps (hK kWait rfl)).mono (fun k hk => .inl hk), h.hw, by simp, (h.hF.keeps (hK kFile rfl)).mono (fun k hk => .inl hk), .inl h.fp, fun k hk => ?_⟩, (hc.keeps (hK kBox rfl)).mono (fun k hk => .inl hk), ?_⟩
  · rw [Below.heap_alloc _ _ _ (by simp; omega), Below.heap_alloc _ _ _ (by omega)]; exact e2
  · cases hb'
    refine ⟨?_, .inr (.inl rfl)⟩
    have := DirAt.new w1 g.blk
    rw [hsz] at this
    rw [hn]
    exact this.keep (Below.heap_alloc _ _ _ (by simp; omega))
  · cases hb'
    refine ⟨?_, .inr (.inr rfl)⟩
    rw [hl]
    have := DirAt.new (w1.alloc (.map #[] 0)) g.blk
    rw [show (w1.alloc (.map #[] 0)).heap.size = w.heap.size + 1 by simp; omega] at this
    exact this
  · simp at h1 h2; omega
  · rcases hk with hk | rfl | rfl
    · have := h.fl k hk; simp; omega
    · simp; omega
    · simp; omega
  · have m := (hMv.trans (Moves.alloc F w1 (.map #[] 0))).trans (Moves.alloc F _ (.map #[] 0))
    exact ⟨m.os, m.tape, m.output, m.size, m.block, fun k hk => by
      rcases hk with hk | hk | hk
      · exact .inl hk
      · exact .inr (by omega)
      · exact .inr (by omega)⟩

set_option maxRecDepth 100000 in
set_option maxHeartbeats 400000 in
theorem do_none {w : World} {g : Gh} {pb : Nat} {a : A} {F : Nat → Prop} (h : FsG w g pb a F) (hnm : g.nm = none) {c : Ch} {x : Nat × Nat × Nat} (hc : ChAt w F g.blk c x) {n : Nat} (hs : c.ok n) :
    Calls Tryz.prog 71 #[bp pb, cval c x] w fun e w' => e = .returned (.tuple #[]) ∧ DidP w pb (a.do c) g F w' := by
  have hlt := h.lt
  have c1 := h.c1
  have c2 := h.c2
  have z1 := h.fz 1
  have z2 := h.fz 2
  rw [hnm] at c1
  rw [h.hD.non.1 hnm] at c2
  have HMD := Lib.hid (h.madeDirs hnm hc)
  have hq := fun w => run_eql_map_nil_sl (P := Tryz.prog) w 90 _ _ none und65
  have hcf := run_chfn c
  have hmk := run_mk
  have HL := Lib.hid (show a.now = [] ∧ a.wait = [] from ⟨(h.hD.none_ hnm).1, h.hwn hnm⟩)
  have hne1 : pb ≠ w.heap.size := by omega
  have hne2 : pb ≠ w.heap.size + 1 := by omega
  rw [cval_eq]
  have HS := Lib.hid hs
  clear h hc hnm hs
  go_enter Tryz.func71, Tryz.ntmps71
  go_wp2_with fail
  obtain ⟨hG0, hC0, hM0⟩ := HMD.out
  have HH := Lib.hid hG0
  have HCH := Lib.hid hC0
  have HM0 := Lib.hid hM0
  clear HMD hG0 hC0 hM0 c1 c2 z1 z2 hmk
  generalize ((((w.setCell ⟨pb, 1, none⟩ (.map (some w.heap.size))).setCell ⟨pb, 2, none⟩ (.map (some (w.heap.size + 1)))).alloc (.map #[] 0)).alloc (.map #[] 0)) = W0 at *
  have HNB : Hid ((({ g with nm := some w.heap.size, lm := some (w.heap.size + 1) } : Gh)).nm = some w.heap.size) := Lib.hid rfl
  have hcall := ch_any (HH.out.hD.n w.heap.size HNB.out).1 (by rw [HL.out.1]; unfold maxLen; simp) HCH.out HS.out
  have HC := Lib.hid hcall
  have hwl : a.wait.length < 1099511627776 := by rw [HL.out.2]; simp
  generalize hnbe : w.heap.size = nb at *
  generalize hg0 : ({ g with nm := some nb, lm := some (nb + 1) } : Gh) = g0 at *
  generalize hF0 : (fun k => F k ∨ k = nb ∨ k = nb + 1) = F0 at *
  have HGB := Lib.hid (show g0.blk = g.blk ∧ g0.bv = g.bv by rw [← hg0]; exact ⟨rfl, rfl⟩)
  have hgb := HGB.out.1
  clear hg0 hF0 hcall hnbe
  rw [← hgb] at HCH
  clear hgb
  refine HC.out.mono ?_
  rintro e W ⟨rfl, hd, ht⟩
  have hG := HH.out.didNow HNB.out ht hd
  obtain ⟨es0, cl0, hbk⟩ := (HH.out.hD.n nb HNB.out).1.blk
  have hCW := HCH.out.keeps (F := F0) (Keeps.touch (k := kBox) ht hbk rfl)
  have hMW := ht.moves (F := F0) (HH.out.hD.n nb HNB.out).2
  have hwl2 : g0.wl.length < 1099511627776 := by have := congrArg List.length HH.out.hw; rw [List.length_map] at this; omega
  obtain ⟨gb, cap, w2, hr, hrow, hgr, hvb⟩ := app_ch hG.hW.row hwl2 (cval c x) (cval_one c x) _ rfl
  have hF := hG.waited (by rw [HNB.out]; simp) hCW hgr hrow
  have HF := Lib.hid hF
  have c3 := hG.c3
  have z3 : w2.frozen? ⟨pb, 3, none⟩ = false := by
    rw [World.frozen?_of_block (w := W) (hgr.block pb hG.lt (fun e => by
      obtain ⟨cur, h1⟩ := row_block hG.hW.row e.symm
      rw [hG.hP] at h1; cases h1))]; exact hG.fz 3
  have c3b : ∃ u, w2.cell? ⟨pb, 3, none⟩ = some u := ⟨g0.wv, by
    rw [World.cell?_of_block (w := W) (hgr.block pb hG.lt (fun e => by
      obtain ⟨cur, h1⟩ := row_block hG.hW.row e.symm
      rw [hG.hP] at h1; cases h1))]; exact c3⟩
  obtain ⟨u3, c3b⟩ := c3b
  have HMF := Lib.hid (show Moves F0 W0 (fun k => F0 k ∨ (Value.slice (some ⟨gb, 0, none⟩) (g0.wl.length + 1) cap).ownBlock = some k) (w2.setCell ⟨pb, 3, none⟩ (.slice (some ⟨gb, 0, none⟩) (g0.wl.length + 1) cap)) from by
    refine hMW.trans ?_
    have m1 : Moves F0 W (fun k => F0 k ∨ (Value.slice (some ⟨gb, 0, none⟩) (g0.wl.length + 1) cap).ownBlock = some k) w2 := ⟨hgr.os, hgr.tape, hgr.output, hgr.size, fun k hk hf => hgr.block k hk (fun e => hf (hG.hW.fr k e.symm)), fun k hk => by
      rcases hk with hk | hk
      · exact .inl hk
      · have : gb = k := by simpa [Value.ownBlock] using hk
        subst this
        rcases hvb with h | h
        · exact .inl (hG.hW.fr gb h)
        · exact .inr h⟩
    exact m1.trans (Moves.setCell w2 (a := ⟨pb, 3, none⟩) (.inl hG.fp) _))
  rw [cval_eq] at hr
  clear hG hd ht hbk hCW hMW hgr hrow hF hvb HC
  go_wp2_with (at_builtin; refine wpList_app_run rfl rfl hr rfl rfl ?_)
  go_end0
  exact ⟨rfl, _, _, HF.out, HGB.out.1, HGB.out.2, HM0.out.trans HMF.out⟩

theorem do_any {w : World} {g : Gh} {pb : Nat} {a : A} {F : Nat → Prop} (h : FsG w g pb a F) (hn : a.now.length < maxLen) (hwl : a.wait.length < 1099511627776) {c : Ch} {x : Nat × Nat × Nat} (hc : ChAt w F g.blk c x) {n : Nat} (hs : c.ok n) :
    Calls Tryz.prog 71 #[bp pb, cval c x] w fun e w' => e = .returned (.tuple #[]) ∧ DidP w pb (a.do c) g F w' := by
  cases hnm : g.nm with
  | none => exact do_none h hnm hc hs
  | some nb => exact do_some h hnm hn hwl hc hs
end Go.Proofs.YtadnecgcoceklaaGreatDoor

