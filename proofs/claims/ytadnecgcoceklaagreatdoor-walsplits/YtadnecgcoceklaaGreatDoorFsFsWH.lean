/-
  cutNames of package fs: the names that last, with the first so many of the changes that wait.
-/
import Derived.Test.YtadnecgcoceklaaGreatDoorFsFsWG
import Derived.Deep.QuietTactic
import Derived.BigQuiet
namespace Go.Proofs.YtadnecgcoceklaaGreatDoor
open Go.RowKit Go.Maps

theorem part0 (a : Option Addr) (cap : Nat) : part a cap 0 = a := by
  unfold part; split
  · rfl
  · cases a with
    | none => rfl
    | some x => show some (x.add 0) = some x; simp [Addr.add]
theorem run_part_ch {w : World} {a : Option Addr} (len cap q : Nat) (hq : q ≤ cap) :
    (Instr.slice 91 (.slice a len cap) none (some (.int .i64 (q : Int))) none).run Tryz.prog w = .ok (.slice a q cap) w := by
  have hel : Tryz.prog.elem 91 = 135 := by kernel_rfl
  rw [run_slice_h (P := Tryz.prog) w 91 a len cap (by rw [hel]; exact Tryz.underlying91) .i64 q (by omega) (by omega), hel]
  simp [go_sem, sliced]
theorem row_cell {w : World} {e : TypeId} {v : Value} {n : Nat} {xs : List Value} (h : w.ownsRow 0 e 1 v n xs) : ∃ ad cap, v = .slice ad n cap ∧ n ≤ cap ∧ ∀ i x, xs[i]? = some x → ∃ gb, ad = some ⟨gb, 0, none⟩ ∧ w.cell? ⟨gb, i, none⟩ = some x := by
  have hc := fun g hg => World.ownsRow.cells h (g := g) hg
  rcases h.2 with ⟨rfl, h0⟩ | ⟨g, cap, cur, rfl, hB, hg, h1, h2, h3, h4⟩
  · refine ⟨none, 0, by rw [h0], by omega, fun i x hx => ?_⟩
    have := h.1
    rw [h0] at this
    have : xs = [] := List.length_eq_zero_iff.1 (by omega)
    subst this; cases hx
  · refine ⟨some ⟨g, 0, none⟩, cap, rfl, h1, fun i x hx => ⟨g, rfl, ?_⟩⟩
    have := hc g rfl i x hx
    rw [addr_add] at this; simpa using this

def lastK (a : A) (k : Nat) : Dir := (a.wait.take k).foldl (fun d c => c.on d) a.last
theorem lastK_succ {a : A} {k : Nat} {c : Ch} (h : a.wait[k]? = some c) : lastK a (k + 1) = c.on (lastK a k) := by
  unfold lastK
  rw [List.take_add_one, h, List.foldl_append]; rfl
theorem lastK_len (a : A) (k : Nat) : (lastK a k).length ≤ a.last.length + k := by
  induction k with
  | zero => unfold lastK; simp
  | succ k ih =>
    cases h : a.wait[k]? with
    | none =>
      have : lastK a (k + 1) = lastK a k := by unfold lastK; rw [List.take_add_one, h]; simp
      rw [this]; omega
    | some c => rw [lastK_succ h]; have := c.on_len (lastK a k); omega
theorem cutN_eq (a : A) (p : Nat) : a.cutN p = { a with now := lastK a (p % (a.wait.length + 1)), last := lastK a (p % (a.wait.length + 1)), wait := [] } := rfl

/-- The names are those that last: another map; nothing waits. -/
theorem FsG.cutted {w w' : World} {g : Gh} {pb : Nat} {a : A} {F : Nat → Prop} (h : FsG w g pb a F) (hb : Below w.heap.size w w') (hd : g.lm ≠ none → DirAt w' w.heap.size g.blk a.last) (hlt : g.lm ≠ none → w.heap.size < w'.heap.size) :
    FsG ((w'.setCell ⟨pb, 1, none⟩ (.map (g.lm.map fun _ => w.heap.size))).setCell ⟨pb, 3, none⟩ (.slice none 0 0)) { g with nm := g.lm.map fun _ => w.heap.size, wv := .slice none 0 0, wl := [] } pb { a with now := a.last, wait := [] } (fun k => F k ∨ (g.lm ≠ none ∧ k = w.heap.size)) := by
  have h1 := h.below hb
  have t1 : Touch pb w' _ := Touch.setCell (a := ⟨pb, 1, none⟩) (.map (g.lm.map fun _ => w.heap.size))
  have t2 := Touch.setCell (w := w'.setCell ⟨pb, 1, none⟩ (.map (g.lm.map fun _ => w.heap.size))) (a := ⟨pb, 3, none⟩) (.slice none 0 0)
  have ht := t1.trans t2
  have e1 := Go.Joins.block_setCell (i := 1) h1.hP (.map (g.lm.map fun _ => w.heap.size))
  have e2 := Go.Joins.block_setCell (i := 3) e1 (.slice none 0 0)
  have hK : ∀ kk, kk (.cells (pCells a g) 93 (0, 0)) = false → Keeps kk F w' _ := fun kk hk => Keeps.touch ht h1.hP hk
  generalize (w'.setCell ⟨pb, 1, none⟩ (.map (g.lm.map fun _ => w.heap.size))).setCell ⟨pb, 3, none⟩ (.slice none 0 0) = w2 at *
  refine ⟨e2, ⟨by simp, fun e => ?_, fun b hb' => ?_, fun b hb' => ?_, fun b hb' hl => ?_⟩, ⟨World.ownsRow_nil _ _ _ _, by simp [Value.ownBlock], by simp⟩, rfl, fun _ => rfl, (h1.hF.keeps (hK kFile rfl)).mono (fun k hk => .inl hk), .inl h.fp, fun k hk => ?_⟩
  · have hn : g.nm = none := h.hD.non.2 (by simpa using e)
    exact ⟨(h.hD.none_ hn).2, (h.hD.none_ hn).2⟩
  · dsimp only at hb'
    rw [Option.map_eq_some_iff] at hb'
    obtain ⟨c, hc, rfl⟩ := hb'
    have hn : g.lm ≠ none := by rw [hc]; simp
    refine ⟨(hd hn).keep (ht.block _ ?_), .inr ⟨hn, rfl⟩⟩
    have := h.lt; omega
  · exact ⟨(h1.hD.l b hb').1.keeps (h1.hD.l b hb').2 (hK kDir rfl), .inl (h.hD.l b hb').2⟩
  · dsimp only at hl hb'
    have := h.fl b (h.hD.l b hl).2
    rw [hl] at hb'
    simp at hb'; omega
  · rw [ht.size]
    rcases hk with hk | ⟨hn, rfl⟩
    · exact Nat.lt_of_lt_of_le (h.fl k hk) hb.size
    · exact hlt hn

set_option maxRecDepth 100000 in
set_option maxHeartbeats 1000000 in
theorem cutNames_any {w : World} {g : Gh} {pb : Nat} {a : A} {F : Nat → Prop} (h : FsG w g pb a F) (ho : a.Ok) (ht : a.top < 1073741824) (p : Nat) (hp : p < 18446744073709551616) :
    Calls Tryz.prog 62 #[bp pb, .int .u64 (p : Int)] w fun e w' => e = .returned (.tuple #[]) ∧ ∃ g' F', FsG w' g' pb (a.cutN p) F' ∧ Moves F w F' w' := by
  have htop : a.last.length + a.wait.length < 1073741824 := by unfold A.top at ht; omega
  obtain ⟨ad, cap, hwv, hcap, hcell⟩ := row_cell h.hW.row
  have hwl : g.wl.length = a.wait.length := by rw [← h.hw, List.length_map]
  have c3 := h.c3
  have hc3 : ∀ n, (w.drewN n).cell? ⟨pb, 3, none⟩ = some (.slice ad a.wait.length cap) := fun n => by
    rw [show (w.drewN n).cell? ⟨pb, 3, none⟩ = w.cell? ⟨pb, 3, none⟩ from rfl, c3, hwv, hwl]
  rw [hwv, hwl] at c3
  have hK : p % (a.wait.length + 1) ≤ a.wait.length := by have := Nat.mod_lt p (show 0 < a.wait.length + 1 by omega); omega
  have HV := Lib.hid (cutN_eq a p)
  generalize hKe : p % (a.wait.length + 1) = K at *
  have hbl : ∀ n, Calls Tryz.prog 92 #[.int .u64 (p : Int), .int .i64 (a.wait.length : Int)] (w.drewN n) fun e w'' => e = .returned (.int .i64 (K : Int)) ∧ ∃ m, w'' = w.drewN m := fun n => by
    rw [← hKe]; exact Calls.quiet_of_same (below_any p a.wait.length hp (by omega))
  have hsl := fun wx => run_part_ch (w := wx) (a := ad) a.wait.length cap K (by omega)
  have HC := Lib.hid hcell
  have HWV := Lib.hid hwv
  have HH := Lib.hid h
  have HO := Lib.hid ho
  have HBL := Lib.hid hbl
  have HTOP := Lib.hid htop
  have HK := Lib.hid hK
  have HWL := Lib.hid hwl
  clear h ho hcell hwv hKe hbl hwl hc3
  go_enter Tryz.func62, Tryz.ntmps62
  go_wp2_with fail
  go_quiet ((go_at_call 92; exact HBL.out _))
  go_wp2_with fail
  go_loopw [5, 19] (fun _ u wr => ∃ i : Nat, u = .int .i64 i ∧ i ≤ K ∧ FsG wr g pb { a with last := lastK a i } F ∧ Moves F w F wr) (fun _ u _ => K - (intOf u).toNat)
  case atStart => exact ⟨0, rfl, Nat.zero_le _, HH.out.keep (fun _ _ => rfl) (Nat.le_refl _), Moves.drewN _ _ _⟩
  case round =>
    obtain ⟨i, rfl, hi, hG, hM⟩ := hrel
    by_cases hik : i < K
    · have hiw : i < a.wait.length := by omega
      have hig : i < g.wl.length := by rw [HWL.out]; exact hiw
      have hwi : a.wait[i]? = some (g.wl[i]).1 := by rw [← HH.out.hw]; simp [hig]
      obtain ⟨gb, hgb, _⟩ := HC.out i (cval (g.wl[i]).1 (g.wl[i]).2) (by simp [hig])
      have hcell : wr.cell? ⟨gb, i, none⟩ = some (cval (g.wl[i]).1 (g.wl[i]).2) := by
        obtain ⟨ad2, cap2, h1, _, h3⟩ := row_cell hG.hW.row
        obtain ⟨gb2, h4, h5⟩ := h3 i (cval (g.wl[i]).1 (g.wl[i]).2) (by simp [hig])
        rw [HWV.out] at h1
        cases h1
        rw [hgb] at h4; cases h4
        exact h5
      subst hgb
      have hch := hG.hW.ch g.wl[i] (List.getElem_mem hig)
      generalize g.wl[i] = cx at *
      obtain ⟨c, x⟩ := cx
      have hok := HO.out.wait c (List.mem_of_getElem? hwi)
      cases hlm : g.lm with
      | none =>
        have := HH.out.hwn (HH.out.hD.non.2 hlm)
        rw [this] at hiw; simp at hiw
      | some lb =>
        have c2 := hG.c2
        rw [hlm] at c2
        have hll := lastK_len a i
        have hcall := ch_any (hG.hD.l lb hlm).1 (by show (lastK a i).length < maxLen; unfold maxLen; omega) hch hok
        have HCALL := Lib.hid hcall
        have hcf := run_chfn c
        rw [cval_eq] at hcell
        have HG := Lib.hid hG
        have HM := Lib.hid hM
        have HLM := Lib.hid hlm
        have HWI := Lib.hid hwi
        clear hG hM hlm hwi hcall hch hok HC hsl HBL
        go_wp2_with fail
        refine HCALL.out.mono ?_
        rintro e W ⟨rfl, hd, ht1⟩
        have hG2 := HG.out.didLast HLM.out ht1 hd
        have HE : Hid (FsG W g pb { a with last := lastK a (i + 1) } F ∧ Moves F w F W) := Lib.hid ⟨by rw [lastK_succ HWI.out]; exact hG2, HM.out.trans (ht1.moves (HG.out.hD.l lb HLM.out).2)⟩
        clear hd ht1 hG2
        go_wp2
        go_roundw
        case rel => exact ⟨i + 1, by go_num, by omega, HE.out.1, HE.out.2⟩
        case measure => simp [intOf]; omega
    · obtain rfl : i = K := by omega
      have c2 := hG.c2
      have hcl := clone_any (m := g.lm) (fun b hb => (hG.hD.l b hb).1)
      have HCL := Lib.hid hcl
      have HG := Lib.hid hG
      have HM := Lib.hid hM
      clear hG hM hcl HBL HC hsl
      go_wp2_with fail
      refine HCL.out.mono ?_
      rintro e W2 ⟨rfl, hb, hd⟩
      have hG2 := HG.out.below hb
      have hS := HG.out.cutted hb hd (fun hn => (hd hn).lt)
      have hMv : Moves F w (fun k => F k ∨ (g.lm ≠ none ∧ k = wr.heap.size)) ((W2.setCell ⟨pb, 1, none⟩ (.map (g.lm.map fun _ => wr.heap.size))).setCell ⟨pb, 3, none⟩ (.slice none 0 0)) := by
        have m0 : Moves F wr F W2 := ⟨hb.os, hb.tape, hb.output, hb.size, fun k hk _ => hb.block k hk, fun k hk => .inl hk⟩
        have m := ((HM.out.trans m0).trans (Moves.setCell W2 (a := ⟨pb, 1, none⟩) HG.out.fp (.map (g.lm.map fun _ => wr.heap.size)))).trans (Moves.setCell _ (a := ⟨pb, 3, none⟩) HG.out.fp (.slice none 0 0))
        exact ⟨m.os, m.tape, m.output, m.size, m.block, fun k hk => by
          rcases hk with hk | ⟨_, rfl⟩
          · exact .inl hk
          · exact .inr HM.out.size⟩
      have HE := Lib.hid (show ∃ g' F', FsG ((W2.setCell ⟨pb, 1, none⟩ (.map (g.lm.map fun _ => wr.heap.size))).setCell ⟨pb, 3, none⟩ (.slice none 0 0)) g' pb (a.cutN p) F' ∧ Moves F w F' _ by
        rw [HV.out]; exact ⟨_, _, hS, hMv⟩)
      have c1 := hG2.c1
      have c3 := hG2.c3
      have z1 := hG2.fz 1
      have z3 := hG2.fz 3
      generalize (g.lm.map fun _ => wr.heap.size) = mm at *
      clear hG2 hS hMv hb hd
      go_wp2
      go_end0
      exact ⟨rfl, HE.out⟩
end Go.Proofs.YtadnecgcoceklaaGreatDoor

