/-
  A file is turned; Sync, Size, New, Off, Arm of package fs.
-/
import Derived.Test.YtadnecgcoceklaaGreatDoorFsFsW7
namespace Go.Proofs.YtadnecgcoceklaaGreatDoor
open Go.RowKit Go.Maps

theorem getD_set_eq {l : List Fil} {i : Nat} {f : Fil} (h : i < l.length) : (l.set i f).getD i ([], 0) = f := by
  rw [List.getD_eq_getElem?_getD, List.getElem?_set_self h]; rfl
theorem getD_set_ne {l : List Fil} {i j : Nat} {f : Fil} (h : i ≠ j) : (l.set i f).getD j ([], 0) = l.getD j ([], 0) := by
  rw [List.getD_eq_getElem?_getD, List.getElem?_set_ne h, ← List.getD_eq_getElem?_getD]
theorem heap_ne {w : World} {b c : Nat} {x y : Obj} (hb : w.heap[b]? = some x) (hc : w.heap[c]? = some y) (h : x = y → False) : b ≠ c := fun e => by
  rw [e, hc] at hb; exact h (Option.some.inj hb).symm
theorem FsG.turnFile {w w' : World} {g : Gh} {pb : Nat} {a : A} {F : Nat → Prop} (h : FsG w g pb a F) {i : Nat} (hi : i < a.files.length) {f : Fil} {v : Value}
    (hs : w.heap.size ≤ w'.heap.size) (hk : ∀ k, k < w.heap.size → k ≠ g.blk i → some k ≠ (g.bv i).ownBlock → w'.heap[k]? = w.heap[k]?)
    (hb : w'.heap[g.blk i]? = some (.cells #[v, .int .i64 (f.2 : Int)] 105 (0, 0))) (hr : w'.ownsRow 0 5 1 v f.1.length (u8s f.1))
    (hv : ∀ k, v.ownBlock = some k → (g.bv i).ownBlock = some k ∨ w.heap.size ≤ k) :
    FsG w' { g with bv := upd g.bv i v } pb (a.setFile i f) (fun k => F k ∨ v.ownBlock = some k) := by
  obtain ⟨hfi, hFi⟩ := h.hF.f i hi
  obtain ⟨hri, hRi⟩ := h.hF.r i hi
  have hK : ∀ kk, (∀ c, kk (.cells c 105 (0, 0)) = false) → (∀ c, kk (.cells c 5 (0, 0)) = false) → Keeps kk F w w' := fun kk k1 k2 b o hF ho hko => by
    rw [hk b (h.fl b hF) (fun e => by rw [e, hfi] at ho; cases ho; rw [k1] at hko; cases hko) (fun e => by
      obtain ⟨cur, h1⟩ := row_block hri e.symm
      rw [h1] at ho; cases ho; rw [k2] at hko; cases hko)]
    exact ho
  have hself : upd g.bv i v i = v := if_pos rfl
  have hother : ∀ j, j ≠ i → upd g.bv i v j = g.bv j := fun j hj => if_neg hj
  refine ⟨?_, (h.hD.keeps (hK kDir (fun _ => rfl) (fun _ => rfl))).mono (fun k hk => .inl hk), (h.hW.keeps (hK kWait (fun _ => rfl) (fun _ => rfl))).mono (fun k hk => .inl hk), h.hw, h.hwn, ⟨fun j hj => ?_, fun j hj => ?_, fun j l hj hl hjl => ?_, fun j l hj hl hjl k hkj => ?_⟩, .inl h.fp, fun k hk => ?_⟩
  · rw [hk pb h.lt (heap_ne h.hP hfi (by simp)) (fun e => by
      obtain ⟨cur, h1⟩ := row_block hri e.symm
      exact heap_ne h.hP h1 (by simp) rfl)]
    exact h.hP
  · have hj' : j < a.files.length := by simpa [A.setFile] using hj
    dsimp only [A.setFile]
    by_cases e : j = i
    · subst e
      rw [hself, getD_set_eq hi]; exact ⟨hb, .inl hFi⟩
    · rw [hother j e, getD_set_ne (fun e' => e e'.symm)]
      obtain ⟨hfj, hFj⟩ := h.hF.f j hj'
      refine ⟨?_, .inl hFj⟩
      rw [hk _ (h.fl _ hFj) (h.hF.inj j i hj' hi e) (fun e1 => by
        obtain ⟨cur, h1⟩ := row_block hri e1.symm
        exact heap_ne hfj h1 (by simp) rfl)]
      exact hfj
  · have hj' : j < a.files.length := by simpa [A.setFile] using hj
    dsimp only [A.setFile]
    by_cases e : j = i
    · subst e
      rw [hself, getD_set_eq hi]; exact ⟨hr, fun k hk => .inr hk⟩
    · rw [hother j e, getD_set_ne (fun e' => e e'.symm)]
      obtain ⟨hrj, hRj⟩ := h.hF.r j hj'
      refine ⟨row_keep hrj (fun k o hv' ho hc => ?_), fun k hk => .inl (hRj k hk)⟩
      obtain ⟨cur, rfl⟩ := hc
      rw [hk k (h.fl k (hRj k hv')) (fun e1 => by rw [e1, hfi] at ho; cases ho) (fun e1 => h.hF.sep j i hj' hi e k hv' e1.symm)]
      exact ho
  · have hj' : j < a.files.length := by simpa [A.setFile] using hj
    have hl' : l < a.files.length := by simpa [A.setFile] using hl
    exact h.hF.inj j l hj' hl' hjl
  · have hj' : j < a.files.length := by simpa [A.setFile] using hj
    have hl' : l < a.files.length := by simpa [A.setFile] using hl
    dsimp only at hkj ⊢
    by_cases e : j = i
    · subst e
      rw [hself] at hkj
      rw [hother l (fun e => hjl e.symm)]
      intro hlk
      rcases hv k hkj with h1 | h1
      · exact h.hF.sep j l hj' hl' hjl k h1 hlk
      · have := h.fl k ((h.hF.r l hl').2 k hlk); omega
    · rw [hother j e] at hkj
      by_cases e2 : l = i
      · subst e2
        rw [hself]
        intro hlk
        rcases hv k hlk with h1 | h1
        · exact h.hF.sep j l hj' hl' hjl k hkj h1
        · have := h.fl k ((h.hF.r j hj').2 k hkj); omega
      · rw [hother l e2]; exact h.hF.sep j l hj' hl' hjl k hkj
  · rcases hk with hk | hk
    · exact Nat.lt_of_lt_of_le (h.fl k hk) hs
    · obtain ⟨cur, h1⟩ := row_block hr hk
      exact (Array.getElem?_eq_some_iff.1 h1).1

/-- How a row of one's own looks. -/
theorem row_form {w : World} {e : TypeId} {v : Value} {n : Nat} {xs : List Value} (h : w.ownsRow 0 e 1 v n xs) : ∃ ad cap, v = .slice ad n cap := by
  rcases h.2 with ⟨rfl, rfl⟩ | ⟨g, cap, cur, rfl, _⟩
  · exact ⟨none, 0, rfl⟩
  · exact ⟨_, _, rfl⟩
theorem FsG.f0 {w : World} {g : Gh} {pb : Nat} {a : A} {F : Nat → Prop} (h : FsG w g pb a F) {i : Nat} (hi : i < a.files.length) : w.cell? ⟨g.blk i, 0, none⟩ = some (g.bv i) := by
  rw [cell_of_row w _ 0 _ _ _ (h.hF.f i hi).1]; rfl
theorem FsG.f1 {w : World} {g : Gh} {pb : Nat} {a : A} {F : Nat → Prop} (h : FsG w g pb a F) {i : Nat} (hi : i < a.files.length) : w.cell? ⟨g.blk i, 1, none⟩ = some (.int .i64 ((a.file i).2 : Int)) := by
  rw [cell_of_row w _ 1 _ _ _ (h.hF.f i hi).1]; rfl
theorem FsG.ffz {w : World} {g : Gh} {pb : Nat} {a : A} {F : Nat → Prop} (h : FsG w g pb a F) {i : Nat} (hi : i < a.files.length) (j : Nat) : w.frozen? ⟨g.blk i, j, none⟩ = false := by
  simp [World.frozen?, (h.hF.f i hi).1]
theorem spent_file (a : A) (i : Nat) : a.spent.file i = a.file i := by unfold A.file; rw [(spent_eq a).2.2.2.2.1]
theorem spent_idx (a : A) (s : Bs) : a.spent.idx s = a.idx s := by unfold A.idx; rw [(spent_eq a).2.1]

theorem sync_err {a : A} {s : Bs} (h : a.findE s ≠ 0) : a.sync s = (a.findE s, a) := by unfold A.sync; rw [if_neg h]
theorem sync_try {a : A} {s : Bs} (h : a.findE s = 0) : a.sync s = a.try fun a => a.setFile (a.idx s) ((a.file (a.idx s)).1, (a.file (a.idx s)).1.length) := by unfold A.sync; rw [if_pos h]

set_option maxRecDepth 100000 in
set_option maxHeartbeats 1000000 in
theorem sync_any {w : World} {pb : Nat} {a : A} {F : Nat → Prop} (h : FsAt w pb a F) (s : ByteArray) :
    Calls Tryz.prog 49 #[bp pb, .string s] w (Ans w pb F (a.sync s.data.toList)) := by
  obtain ⟨ho, g, h⟩ := h
  have hfind := find_any h s
  have HA := Lib.hid h
  have HO := Lib.hid ho
  by_cases h0 : a.findE s.data.toList = 0
  · have hi := ho.idx h0
    unfold findP at hfind
    rw [if_pos h0, h0] at hfind
    have HF := Lib.hid hfind
    have hsp := spend_any h ho.left
    rcases spendE_cases a with h00 | h4
    · have HV := Lib.hid (show a.sync s.data.toList = (0, a.spent.setFile (a.idx s.data.toList) ((a.file (a.idx s.data.toList)).1, (a.file (a.idx s.data.toList)).1.length)) by rw [sync_try h0]; unfold A.try; rw [if_pos h00]; dsimp only; rw [spent_idx, spent_file])
      rw [h00] at hsp
      have HSP := Lib.hid hsp
      have HI := Lib.hid hi.2.2
      have hfl := ho.file (a.idx s.data.toList)
      generalize hix : a.idx s.data.toList = ix at *
      have HFL := Lib.hid hfl
      clear hfind ho h hsp h0 hi h00 hix hfl
      go_enter Tryz.func49, Tryz.ntmps49
      go_wp2_with fail
      refine HF.out.mono ?_
      rintro e W ⟨rfl, rfl⟩
      go_wp2_with fail
      refine HSP.out.mono ?_
      rintro e W ⟨rfl, hW, hT⟩
      have hix : ix < a.spent.files.length := by rw [(spent_eq a).2.2.2.2.1]; exact HI.out
      have f0 := hW.f0 hix
      have f1 := hW.f1 hix
      have z1 := hW.ffz hix 1
      obtain ⟨ad, cap, hbv⟩ := row_form (hW.hF.r ix hix).1
      have hL : (a.spent.files.getD ix ([], 0)).1.length = (a.file ix).1.length := by
        show (a.spent.file ix).1.length = _; rw [spent_file]
      rw [hL] at hbv
      rw [hbv] at f0
      have HB := Lib.hid hbv
      have HW := Lib.hid hW
      have HT := Lib.hid hT
      have HIX := Lib.hid hix
      clear hW hT hbv hL hix
      go_wp2
      go_ret
      rw [HV.out]
      have hr := (HW.out.hF.r ix HIX.out).1
      have hfb := (HW.out.hF.f ix HIX.out).1
      have ht1 : Touch (g.blk ix) W (W.setCell ⟨g.blk ix, 1, none⟩ (.int .i64 ((a.file ix).1.length : Int))) := Touch.setCell (a := ⟨g.blk ix, 1, none⟩) _
      have hG := HW.out.turnFile HIX.out (w' := W.setCell ⟨g.blk ix, 1, none⟩ (.int .i64 ((a.file ix).1.length : Int))) (f := ((a.file ix).1, (a.file ix).1.length)) (v := g.bv ix) (by rw [ht1.size]; exact Nat.le_refl _) (fun k _ h1 _ => ht1.block k h1)
        (by rw [Go.Joins.block_setCell hfb _]; rfl) (by
          have e : a.spent.files.getD ix ([], 0) = a.file ix := spent_file a ix
          rw [e] at hr
          exact row_keep hr (fun k o _ ho hc => by
            obtain ⟨cur, rfl⟩ := hc
            rw [ht1.block k (fun e => by rw [e, hfb] at ho; cases ho)]; exact ho)) (fun k hk => .inl hk)
      refine ⟨rfl, _, ⟨HO.out.spent.setFile HFL.out.1 (Nat.le_refl _) HFL.out.2.2, _, hG⟩, ?_⟩
      have m := (HT.out.moves HW.out.fp).trans (ht1.moves (F := F) (HW.out.hF.f ix HIX.out).2)
      exact ⟨m.os, m.tape, m.output, m.size, m.block, fun k hk => by
        rcases hk with hk | hk
        · exact .inl hk
        · exact .inl ((HW.out.hF.r ix HIX.out).2 k hk)⟩
    · have HV := Lib.hid (show a.sync s.data.toList = (4, a.spent) by rw [sync_try h0]; unfold A.try; rw [h4]; rfl)
      rw [h4] at hsp
      have HSP := Lib.hid hsp
      clear hfind ho h hsp h0 hi h4
      go_enter Tryz.func49, Tryz.ntmps49
      go_wp2_with fail
      refine HF.out.mono ?_
      rintro e W ⟨rfl, rfl⟩
      go_wp2_with fail
      refine HSP.out.mono ?_
      rintro e W ⟨rfl, hW, hT⟩
      have HW := Lib.hid hW
      have HT := Lib.hid hT
      clear hW hT
      go_wp2
      go_ret
      rw [HV.out]
      exact ⟨rfl, F, ⟨HO.out.spent, g, HW.out⟩, HT.out.moves HW.out.fp⟩
  · have HV := Lib.hid (sync_err h0)
    unfold findP at hfind
    rw [if_neg h0] at hfind
    generalize hE : a.findE s.data.toList = E at *
    have hE6 := findE_err a s.data.toList (by rw [hE]; exact h0)
    rw [hE] at hE6
    have HF := Lib.hid hfind
    clear hfind ho h hE
    rcases hE6 with rfl | rfl
    all_goals
      go_enter Tryz.func49, Tryz.ntmps49
      go_wp2_with fail
      refine HF.out.mono ?_
      rintro e W ⟨rfl, rfl⟩
      go_wp2
      go_ret
      rw [HV.out]
      exact ⟨rfl, F, ⟨HO.out, g, HA.out⟩, Moves.refl _ _⟩
end Go.Proofs.YtadnecgcoceklaaGreatDoor

