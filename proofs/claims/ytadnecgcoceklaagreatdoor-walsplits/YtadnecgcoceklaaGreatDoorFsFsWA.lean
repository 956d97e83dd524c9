/-
  SyncDir of package fs; below.
-/
import Derived.Test.YtadnecgcoceklaaGreatDoorFsFsW9
import Derived.Test.YtadnecgcoceklaaGreatDoorFsFsShelf
namespace Go.Proofs.YtadnecgcoceklaaGreatDoor
open Go.RowKit Go.Maps Go.Shelf

/-- Names that are copied. -/
theorem clone_any {w : World} {blk : Nat → Nat} {m : Option Nat} {d : Dir} (h : ∀ b, m = some b → DirAt w b blk d) :
    Calls Tryz.prog 90 #[.map m] w fun e w' => e = .returned (.map (m.map fun _ => w.heap.size)) ∧ Below w.heap.size w w' ∧ (m ≠ none → DirAt w' w.heap.size blk d) := by
  cases m with
  | none =>
    refine (AnyW.maps_Clone_nil Tryz.cloneD w).mono ?_
    rintro e w' ⟨rfl, rfl⟩
    exact ⟨rfl, Below.refl _ _, fun h => absurd rfl h⟩
  | some b =>
    have hd := h b rfl
    refine (AnyW.maps_Clone_owns Tryz.cloneD 9 rdP b d.length (d.dat blk) w hd).mono ?_
    rintro e w' ⟨rfl, h1, h2, h3⟩
    exact ⟨rfl, h3, fun _ => h1⟩

theorem syncDir_ok {a : A} (h : a.spendE = 0) : a.syncDir = (0, { a.spent with last := a.spent.now, wait := [] }) := by unfold A.syncDir A.try; rw [if_pos h]
/-- The names last: the map that lasts is another one, that has the names; nothing waits. -/
theorem FsG.synced {w w' : World} {g : Gh} {pb : Nat} {a : A} {F : Nat → Prop} (h : FsG w g pb a F) (hb : Below w.heap.size w w') (hd : g.nm ≠ none → DirAt w' w.heap.size g.blk a.now) (hlt : g.nm ≠ none → w.heap.size < w'.heap.size) :
    FsG ((w'.setCell ⟨pb, 2, none⟩ (.map (g.nm.map fun _ => w.heap.size))).setCell ⟨pb, 3, none⟩ (.slice none 0 0)) { g with lm := g.nm.map fun _ => w.heap.size, wv := .slice none 0 0, wl := [] } pb { a with last := a.now, wait := [] } (fun k => F k ∨ (g.nm ≠ none ∧ k = w.heap.size)) := by
  have h1 := h.below hb
  have t1 : Touch pb w' _ := Touch.setCell (a := ⟨pb, 2, none⟩) (.map (g.nm.map fun _ => w.heap.size))
  have t2 := Touch.setCell (w := w'.setCell ⟨pb, 2, none⟩ (.map (g.nm.map fun _ => w.heap.size))) (a := ⟨pb, 3, none⟩) (.slice none 0 0)
  have ht := t1.trans t2
  have e1 := Go.Joins.block_setCell (i := 2) h1.hP (.map (g.nm.map fun _ => w.heap.size))
  have e2 := Go.Joins.block_setCell (i := 3) e1 (.slice none 0 0)
  have hK : ∀ kk, kk (.cells (pCells a g) 93 (0, 0)) = false → Keeps kk F w' _ := fun kk hk => Keeps.touch ht h1.hP hk
  generalize (w'.setCell ⟨pb, 2, none⟩ (.map (g.nm.map fun _ => w.heap.size))).setCell ⟨pb, 3, none⟩ (.slice none 0 0) = w2 at *
  refine ⟨e2, ⟨by simp, fun e => ⟨(h.hD.none_ e).1, (h.hD.none_ e).1⟩, fun b hb' => ?_, fun b hb' => ?_, fun b hb' hl => ?_⟩, ⟨World.ownsRow_nil _ _ _ _, by simp [Value.ownBlock], by simp⟩, rfl, fun _ => rfl, (h1.hF.keeps (hK kFile rfl)).mono (fun k hk => .inl hk), .inl h.fp, fun k hk => ?_⟩
  · exact ⟨(h1.hD.n b hb').1.keeps (h1.hD.n b hb').2 (hK kDir rfl), .inl (h.hD.n b hb').2⟩
  · dsimp only at hb'
    rw [Option.map_eq_some_iff] at hb'
    obtain ⟨c, hc, rfl⟩ := hb'
    have hn : g.nm ≠ none := by rw [hc]; simp
    refine ⟨(hd hn).keep (ht.block _ ?_), .inr ⟨hn, rfl⟩⟩
    have := h.lt; omega
  · dsimp only at hl hb'
    rw [hb'] at hl
    have := h.fl b (h.hD.n b hb').2
    simp at hl; omega
  · rw [ht.size]
    rcases hk with hk | ⟨hn, rfl⟩
    · exact Nat.lt_of_lt_of_le (h.fl k hk) hb.size
    · exact hlt hn

set_option maxRecDepth 100000 in
set_option maxHeartbeats 1000000 in
theorem syncDir_any {w : World} {pb : Nat} {a : A} {F : Nat → Prop} (h : FsAt w pb a F) :
    Calls Tryz.prog 58 #[bp pb] w (Ans w pb F a.syncDir) := by
  obtain ⟨ho, g, h⟩ := h
  have HO := Lib.hid ho
  have hsp := spend_any h ho.left
  rcases spendE_cases a with h00 | h4
  · have HV := Lib.hid (syncDir_ok h00)
    rw [h00] at hsp
    have HSP := Lib.hid hsp
    clear ho h hsp h00
    go_enter Tryz.func58, Tryz.ntmps58
    go_wp2_with fail
    refine HSP.out.mono ?_
    rintro e W ⟨rfl, hW, hT⟩
    have c1 := hW.c1
    have HW := Lib.hid hW
    have HT := Lib.hid hT
    have hcl := clone_any (m := g.nm) (fun b hb => (hW.hD.n b hb).1)
    have HCL := Lib.hid hcl
    clear hW hT hcl
    go_wp2_with fail
    refine HCL.out.mono ?_
    rintro e W2 ⟨rfl, hb, hd⟩
    have hG2 := HW.out.below hb
    have hlt2 : g.nm ≠ none → W.heap.size < W2.heap.size := fun hn => (hd hn).lt
    have hS := HW.out.synced hb hd hlt2
    have hMv : Moves F w (fun k => F k ∨ (g.nm ≠ none ∧ k = W.heap.size)) ((W2.setCell ⟨pb, 2, none⟩ (.map (g.nm.map fun _ => W.heap.size))).setCell ⟨pb, 3, none⟩ (.slice none 0 0)) := by
      have m0 : Moves F W F W2 := ⟨hb.os, hb.tape, hb.output, hb.size, fun k hk _ => hb.block k hk, fun k hk => .inl hk⟩
      have m := (((HT.out.moves (F := F) HW.out.fp).trans m0).trans (Moves.setCell W2 (a := ⟨pb, 2, none⟩) HW.out.fp (.map (g.nm.map fun _ => W.heap.size)))).trans (Moves.setCell _ (a := ⟨pb, 3, none⟩) HW.out.fp (.slice none 0 0))
      exact ⟨m.os, m.tape, m.output, m.size, m.block, fun k hk => by
        rcases hk with hk | ⟨_, rfl⟩
        · exact .inl hk
        · right; rw [HT.out.size]; exact Nat.le_refl _⟩
    have HE := Lib.hid (show Ans w pb F a.syncDir (.returned (.int .i64 0)) ((W2.setCell ⟨pb, 2, none⟩ (.map (g.nm.map fun _ => W.heap.size))).setCell ⟨pb, 3, none⟩ (.slice none 0 0)) by
      rw [HV.out]
      have hOs := HO.out.spent
      exact ⟨rfl, _, ⟨⟨hOs.room, hOs.left, hOs.fil, hOs.now, hOs.now, fun c hc => by cases hc⟩, _, hS⟩, hMv⟩)
    have c2 := hG2.c2
    have c3 := hG2.c3
    have z2 := hG2.fz 2
    have z3 := hG2.fz 3
    generalize (g.nm.map fun _ => W.heap.size) = mm at *
    clear hG2 hS hMv hb hd hlt2
    go_wp2
    go_ret
    exact HE.out
  · have HV := Lib.hid (show a.syncDir = (4, a.spent) by unfold A.syncDir A.try; rw [h4]; rfl)
    rw [h4] at hsp
    have HSP := Lib.hid hsp
    clear ho h hsp h4
    go_enter Tryz.func58, Tryz.ntmps58
    go_wp2_with fail
    refine HSP.out.mono ?_
    rintro e W ⟨rfl, hW, hT⟩
    have HW := Lib.hid hW
    have HT := Lib.hid hT
    clear hW hT
    go_wp2
    go_ret
    rw [HV.out]
    exact ⟨rfl, F, ⟨HO.out.spent, g, HW.out⟩, HT.out.moves HW.out.fp⟩
end Go.Proofs.YtadnecgcoceklaaGreatDoor

