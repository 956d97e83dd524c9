/-
  Remove of package fs.
-/
import Derived.Test.YtadnecgcoceklaaGreatDoorFsFsW5
namespace Go.Proofs.YtadnecgcoceklaaGreatDoor
open Go.RowKit Go.Maps

theorem remove_err {a : A} {s : Bs} (h : a.findE s ≠ 0) : a.remove s = (a.findE s, a) := by unfold A.remove; rw [if_neg h]
theorem remove_try {a : A} {s : Bs} (h : a.findE s = 0) : a.remove s = a.try fun a => a.do (.remove s) := by unfold A.remove; rw [if_pos h]
theorem findE_err (a : A) (s : Bs) (h : a.findE s ≠ 0) : a.findE s = 6 ∨ a.findE s = 7 := by
  rcases findE_cases a s with h' | h' | h'
  · exact .inl h'.1
  · exact .inr h'.1
  · exact absurd h' h

set_option maxRecDepth 100000 in
set_option maxHeartbeats 1000000 in
theorem remove_any {w : World} {pb : Nat} {a : A} {F : Nat → Prop} (h : FsAt w pb a F) (s : ByteArray) (ht : a.top < 1073741824) :
    Calls Tryz.prog 57 #[bp pb, .string s] w (Ans w pb F (a.remove s.data.toList)) := by
  obtain ⟨ho, g, h⟩ := h
  have hb1 := bel1 w (.cells #[.string s] 9)
  have hA := h.below hb1
  have hfind := find_any hA s
  have HA := Lib.hid hA
  have HO := Lib.hid ho
  have HM := Lib.hid (Moves.alloc F w (.cells #[.string s] 9))
  by_cases h0 : a.findE s.data.toList = 0
  · have hi := ho.idx h0
    unfold findP at hfind
    rw [if_pos h0, h0] at hfind
    have HF := Lib.hid hfind
    have hsp := spend_any hA ho.left
    have hlt := h.lt
    rcases spendE_cases a with h00 | h4
    · have HV := Lib.hid (show a.remove s.data.toList = (0, a.spent.do (.remove s.data.toList)) by rw [remove_try h0]; unfold A.try; rw [if_pos h00])
      rw [h00] at hsp
      have HSP := Lib.hid hsp
      have hmf : ∀ (fn : Fn) (first cap : Array Value) (w : World), (Instr.makeFunc fn first cap).run Tryz.prog w = .ok (.func fn first cap) w := fun _ _ _ _ => rfl
      have HN := Lib.hid (isNm_short24 hi.1)
      have HTop := Lib.hid ht
      clear hfind hA ho h hb1 hsp h0 ht hi h00
      go_enter Tryz.func57, Tryz.ntmps57
      go_wp2_with fail
      refine HF.out.mono ?_
      rintro e W ⟨rfl, rfl⟩
      go_wp2_with fail
      refine HSP.out.mono ?_
      rintro e W ⟨rfl, hW, hT⟩
      have HW := Lib.hid hW
      have HT := Lib.hid hT
      clear hW hT
      go_wp2_with fail
      have hOs := HO.out.spent
      have hsz : W.heap.size = w.heap.size + 1 := by rw [HT.out.size]; simp
      have hnb : W.heap[w.heap.size]? = some (.cells #[.string s] 9 (0, 0)) := by
        rw [HT.out.block _ (by omega)]; exact heap_alloc_new w _
      have hG2 := HW.out.mono (F' := fun k => F k ∨ k = w.heap.size) (fun k hk => .inl hk) (fun k hk => by
        rcases hk with hk | hk
        · exact HW.out.fl k hk
        · omega)
      have hch : ChAt W (fun k => F k ∨ k = w.heap.size) g.blk (.remove s.data.toList) (w.heap.size, 0, 0) := by
        refine ⟨?_, .inr rfl⟩
        rw [strB_data]; exact hnb
      have htop := HTop.out
      unfold A.top at htop
      obtain ⟨_, e2, e3, e4, _, _⟩ := spent_eq a
      have hM2 : Moves F w (fun k => F k ∨ k = w.heap.size) W := by
        have m := HM.out.trans (HT.out.moves HW.out.fp)
        exact ⟨m.os, m.tape, m.output, m.size, m.block, fun k hk => by
          rcases hk with hk | hk
          · exact .inl hk
          · exact .inr (by omega)⟩
      have hcok : (Ch.remove s.data.toList).ok a.spent.files.length := HN.out
      refine (do_any hG2 (by rw [e2]; unfold maxLen; omega) (by rw [e4]; omega) hch hcok).mono ?_
      rintro e W3 ⟨rfl, g', F', hG3, _, _, hM3⟩
      have HE := Lib.hid (show Ans w pb F (a.remove s.data.toList) (.returned (.int .i64 0)) W3 by
        rw [HV.out]
        exact ⟨rfl, F', ⟨hOs.do hcok, g', hG3⟩, hM2.trans hM3⟩)
      clear hG2 hG3 hM2 hM3 hch hnb hcok hsz e2 e3 e4 htop hOs
      go_wp2
      go_ret
      exact HE.out
    · have HV := Lib.hid (show a.remove s.data.toList = (4, a.spent) by rw [remove_try h0]; unfold A.try; rw [h4]; rfl)
      rw [h4] at hsp
      have HSP := Lib.hid hsp
      clear hfind hA ho h hb1 hsp h0 hi h4
      go_enter Tryz.func57, Tryz.ntmps57
      go_wp2_with fail
      refine HF.out.mono ?_
      rintro e W ⟨rfl, rfl⟩
      go_wp2_with fail
      refine HSP.out.mono ?_
      rintro e W ⟨rfl, hW, hT⟩
      have HW := Lib.hid hW
      have HT := Lib.hid hT
      clear hW hT
      go_wp2
      go_ret
      rw [HV.out]
      exact ⟨rfl, F, ⟨HO.out.spent, g, HW.out⟩, HM.out.trans (HT.out.moves HW.out.fp)⟩
  · have HV := Lib.hid (remove_err h0)
    unfold findP at hfind
    rw [if_neg h0] at hfind
    generalize hE : a.findE s.data.toList = E at *
    have hE6 := findE_err a s.data.toList (by rw [hE]; exact h0)
    rw [hE] at hE6
    have hE0 : ¬ (E = 0) := h0
    have HF := Lib.hid hfind
    clear hfind hA ho h hb1 hE
    rcases hE6 with rfl | rfl
    all_goals
      go_enter Tryz.func57, Tryz.ntmps57
      go_wp2_with fail
      refine HF.out.mono ?_
      rintro e W ⟨rfl, rfl⟩
      go_wp2
      go_ret
      rw [HV.out]
      exact ⟨rfl, F, ⟨HO.out, g, HA.out⟩, HM.out⟩
end Go.Proofs.YtadnecgcoceklaaGreatDoor

