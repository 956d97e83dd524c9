/-
  Rename of package fs.
-/
import Derived.Test.YtaadfoelaeliiaaFsW6
namespace Go.Proofs.Ytaadfoelaeliiaa
open Go.RowKit Go.Maps

theorem rename_no {a : A} {s t : Bs} (h : isNm t = false) : a.rename s t = (6, a) := by unfold A.rename; rw [if_pos h]
theorem rename_err {a : A} {s t : Bs} (hn : isNm t = true) (h : a.findE s ≠ 0) : a.rename s t = (a.findE s, a) := by unfold A.rename; rw [if_neg (by simp [hn]), if_neg h]
theorem rename_try {a : A} {s t : Bs} (hn : isNm t = true) (h : a.findE s = 0) : a.rename s t = a.try fun a => if s = t then a else a.do (.rename s t (a.idx s)) := by unfold A.rename; rw [if_neg (by simp [hn]), if_pos h]
theorem bytes_ne {s t : ByteArray} : (s.toList != t.toList) = decide (s.data.toList ≠ t.data.toList) := by
  rw [toList_eq, toList_eq]
  by_cases h : s.data.toList = t.data.toList
  · simp [h]
  · simp [h]
theorem ba_eq {s t : ByteArray} : s.data.toList = t.data.toList ↔ s = t := by
  constructor
  · intro h; apply ByteArray.ext; exact Array.toList_inj.1 h
  · rintro rfl; rfl

theorem three0 (w : World) (x y z : Obj) : (((w.alloc x).alloc y).alloc z).heap[w.heap.size]? = some x := by
  rw [Below.heap_alloc _ _ _ (by simp; omega), Below.heap_alloc _ _ _ (by simp)]; exact heap_alloc_new w _
theorem three1 (w : World) (x y z : Obj) : (((w.alloc x).alloc y).alloc z).heap[w.heap.size + 1]? = some y := by
  rw [Below.heap_alloc _ _ _ (by simp)]
  have := heap_alloc_new (w.alloc x) y
  rw [show (w.alloc x).heap.size = w.heap.size + 1 by simp] at this; exact this
theorem three2 (w : World) (x y z : Obj) : (((w.alloc x).alloc y).alloc z).heap[w.heap.size + 1 + 1]? = some z := by
  have := heap_alloc_new ((w.alloc x).alloc y) z
  rw [show ((w.alloc x).alloc y).heap.size = w.heap.size + 1 + 1 by simp] at this; exact this
theorem cell_blk {w : World} {b : Nat} {v : Value} {t : TypeId} (h : w.heap[b]? = some (.cells #[v] t (0, 0))) : w.cell? ⟨b, 0, none⟩ = some v := by rw [cell_of_row w b 0 _ _ _ h]; rfl

set_option maxRecDepth 100000 in
set_option maxHeartbeats 1000000 in
theorem rename_any {w : World} {pb : Nat} {a : A} {F : Nat → Prop} (h : FsAt w pb a F) (s t : ByteArray) (ht : a.top < 1073741824) :
    Calls Try.prog 28 #[bp pb, .string s, .string t] w (Ans w pb F (a.rename s.data.toList t.data.toList)) := by
  obtain ⟨ho, g, h⟩ := h
  have hb1 := below_next (bel1 w (.cells #[.string s] 9)) (bel1 (w.alloc (.cells #[.string s] 9)) (.cells #[.string t] 9))
  have hA := h.below hb1
  have hfind := find_any hA s
  have hnm := isName_any t ((w.alloc (.cells #[.string s] 9)).alloc (.cells #[.string t] 9))
  have HA := Lib.hid hA
  have HO := Lib.hid ho
  have HM := Lib.hid ((Moves.alloc F w (.cells #[.string s] 9)).trans (Moves.alloc F _ (.cells #[.string t] 9)))
  cases hn : isNm t.data.toList with
  | false =>
    rw [hn] at hnm
    have HNM := Lib.hid hnm
    have HV := Lib.hid (rename_no (a := a) (s := s.data.toList) hn)
    clear hfind hA ho h hb1 hn hnm
    go_enter Try.func28, Try.ntmps28
    go_wp2_with fail
    refine HNM.out.mono ?_
    rintro e W ⟨rfl, rfl⟩
    go_wp2
    go_ret
    rw [HV.out]
    exact ⟨rfl, F, ⟨HO.out, g, HA.out⟩, HM.out⟩
  | true =>
    rw [hn] at hnm
    have HNM := Lib.hid hnm
    by_cases h0 : a.findE s.data.toList = 0
    · have hi := ho.idx h0
      unfold findP at hfind
      rw [if_pos h0, h0] at hfind
      have HF := Lib.hid hfind
      have hA1 := hA.below (bel1 _ (.cells #[bp (g.blk (a.idx s.data.toList))] 74))
      have hsp := spend_any hA1 ho.left
      have hlt := h.lt
      rcases spendE_cases a with h00 | h4
      · rw [h00] at hsp
        have HSP := Lib.hid hsp
        have hmf : ∀ (fn : Fn) (first cap : Array Value) (w : World), (Instr.makeFunc fn first cap).run Try.prog w = .ok (.func fn first cap) w := fun _ _ _ _ => rfl
        have HN := Lib.hid (isNm_short24 hi.1)
        have HN2 := Lib.hid (isNm_short24 hn)
        have HI := Lib.hid hi.2.2
        have HTop := Lib.hid ht
        have hV0 := rename_try hn h0
        unfold A.try at hV0
        rw [if_pos h00] at hV0
        by_cases hst : s = t
        · subst hst
          dsimp only at hV0
          rw [if_pos rfl] at hV0
          have HV := Lib.hid hV0
          generalize hix : a.idx s.data.toList = ix at *
          clear hfind hA ho h hb1 hsp h0 ht hi h00 hn hnm hA1 hV0 hix
          go_enter Try.func28, Try.ntmps28
          go_wp2_with fail
          refine HNM.out.mono ?_
          rintro e W ⟨rfl, rfl⟩
          go_wp2_with fail
          refine HF.out.mono ?_
          rintro e W ⟨rfl, rfl⟩
          go_wp2_with fail
          refine HSP.out.mono ?_
          rintro e W ⟨rfl, hW, hT⟩
          have HW := Lib.hid hW
          have HT := Lib.hid hT
          have k0 := cell_blk ((hT.block w.heap.size (by omega)).trans (three0 w _ _ _))
          have k1 := cell_blk ((hT.block (w.heap.size + 1) (by omega)).trans (three1 w _ _ _))
          clear hW hT
          go_wp2
          go_ret
          rw [HV.out]
          exact ⟨rfl, F, ⟨HO.out.spent, g, HW.out⟩, (HM.out.trans (Moves.alloc F _ _)).trans (HT.out.moves HW.out.fp)⟩
        · dsimp only at hV0
          rw [if_neg (fun e => hst (ba_eq.1 e))] at hV0
          have HV := Lib.hid hV0
          have hne : (s.toList == t.toList) = false := by
            rw [toList_eq, toList_eq, beq_eq_false_iff_ne]; exact fun e => hst (ba_eq.1 e)
          have hidx : a.spent.idx s.data.toList = a.idx s.data.toList := by unfold A.idx; rw [(spent_eq a).2.1]
          have HIX := Lib.hid hidx
          generalize hix : a.idx s.data.toList = ix at *
          clear hfind hA ho h hb1 hsp h0 ht hi h00 hn hnm hA1 hV0 hix hidx
          go_enter Try.func28, Try.ntmps28
          go_wp2_with fail
          refine HNM.out.mono ?_
          rintro e W ⟨rfl, rfl⟩
          go_wp2_with fail
          refine HF.out.mono ?_
          rintro e W ⟨rfl, rfl⟩
          go_wp2_with fail
          refine HSP.out.mono ?_
          rintro e W ⟨rfl, hW, hT⟩
          have HW := Lib.hid hW
          have HT := Lib.hid hT
          have k0 := cell_blk ((hT.block w.heap.size (by omega)).trans (three0 w _ _ _))
          have k1 := cell_blk ((hT.block (w.heap.size + 1) (by omega)).trans (three1 w _ _ _))
          clear hW hT
          go_wp2_with fail
          have hOs := HO.out.spent
          have hsz : W.heap.size = w.heap.size + 3 := by rw [HT.out.size]; simp
          have b0 := (HT.out.block w.heap.size (by omega)).trans (three0 w _ _ _)
          have b1 := (HT.out.block (w.heap.size + 1) (by omega)).trans (three1 w _ _ _)
          have b2 := (HT.out.block (w.heap.size + 1 + 1) (by omega)).trans (three2 w _ _ _)
          have hG2 := HW.out.mono (F' := fun k => F k ∨ k = w.heap.size ∨ k = w.heap.size + 1 ∨ k = w.heap.size + 1 + 1) (fun k hk => .inl hk) (fun k hk => by
            rcases hk with hk | hk
            · exact HW.out.fl k hk
            · omega)
          have hch : ChAt W (fun k => F k ∨ k = w.heap.size ∨ k = w.heap.size + 1 ∨ k = w.heap.size + 1 + 1) g.blk (.rename s.data.toList t.data.toList ix) (w.heap.size, w.heap.size + 1 + 1, w.heap.size + 1) := by
            refine ⟨⟨?_, .inr (.inl rfl)⟩, ⟨?_, .inr (.inr (.inr rfl))⟩, ⟨?_, .inr (.inr (.inl rfl))⟩⟩
            · rw [strB_data]; exact b0
            · exact b2
            · rw [strB_data]; exact b1
          have htop := HTop.out
          unfold A.top at htop
          obtain ⟨_, e2, e3, e4, e5, _⟩ := spent_eq a
          have hM2 : Moves F w (fun k => F k ∨ k = w.heap.size ∨ k = w.heap.size + 1 ∨ k = w.heap.size + 1 + 1) W := by
            have m := (HM.out.trans (Moves.alloc F _ _)).trans (HT.out.moves HW.out.fp)
            exact ⟨m.os, m.tape, m.output, m.size, m.block, fun k hk => by
              rcases hk with hk | hk
              · exact .inl hk
              · exact .inr (by omega)⟩
          have hcok : (Ch.rename s.data.toList t.data.toList ix).ok a.spent.files.length := ⟨HN.out, HN2.out, by rw [e5]; exact HI.out⟩
          refine (do_any hG2 (by rw [e2]; unfold maxLen; omega) (by rw [e4]; omega) hch hcok).mono ?_
          rintro e W3 ⟨rfl, g', F', hG3, _, _, hM3⟩
          have HE := Lib.hid (show Ans w pb F (a.rename s.data.toList t.data.toList) (.returned (.int .i64 0)) W3 by
            rw [HV.out, HIX.out]
            exact ⟨rfl, F', ⟨hOs.do hcok, g', hG3⟩, hM2.trans hM3⟩)
          clear hG2 hG3 hM2 hM3 hch hcok hsz e2 e3 e4 htop hOs b0 b1 b2
          go_wp2
          go_ret
          exact HE.out
      · have HV := Lib.hid (show a.rename s.data.toList t.data.toList = (4, a.spent) by rw [rename_try hn h0]; unfold A.try; rw [h4]; rfl)
        rw [h4] at hsp
        have HSP := Lib.hid hsp
        generalize hix : a.idx s.data.toList = ix at *
        clear hfind hA ho h hb1 hsp h0 hi h4 hn hnm hA1 hix
        go_enter Try.func28, Try.ntmps28
        go_wp2_with fail
        refine HNM.out.mono ?_
        rintro e W ⟨rfl, rfl⟩
        go_wp2_with fail
        refine HF.out.mono ?_
        rintro e W ⟨rfl, rfl⟩
        go_wp2_with fail
        refine HSP.out.mono ?_
        rintro e W ⟨rfl, hW, hT⟩
        have HW := Lib.hid hW
        have HT := Lib.hid hT
        clear hW hT
        go_wp2
        go_ret
        rw [HV.out]
        exact ⟨rfl, F, ⟨HO.out.spent, g, HW.out⟩, (HM.out.trans (Moves.alloc F _ _)).trans (HT.out.moves HW.out.fp)⟩
    · have HV := Lib.hid (rename_err hn h0)
      unfold findP at hfind
      rw [if_neg h0] at hfind
      generalize hE : a.findE s.data.toList = E at *
      have hE6 := findE_err a s.data.toList (by rw [hE]; exact h0)
      rw [hE] at hE6
      have HF := Lib.hid hfind
      clear hfind ho h hb1 hE hn hnm
      have HA1 := Lib.hid (hA.below (bel1 _ (.cells #[.pointer none] 74)))
      clear hA
      rcases hE6 with rfl | rfl
      all_goals
        go_enter Try.func28, Try.ntmps28
        go_wp2_with fail
        refine HNM.out.mono ?_
        rintro e W ⟨rfl, rfl⟩
        go_wp2_with fail
        refine HF.out.mono ?_
        rintro e W ⟨rfl, rfl⟩
        go_wp2
        go_ret
        rw [HV.out]
        exact ⟨rfl, F, ⟨HO.out, g, HA1.out⟩, HM.out.trans (Moves.alloc F _ _)⟩
end Go.Proofs.Ytaadfoelaeliiaa
