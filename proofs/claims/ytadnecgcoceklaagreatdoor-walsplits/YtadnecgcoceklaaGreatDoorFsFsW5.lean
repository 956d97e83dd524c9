/-
  Create of package fs.
-/
import Derived.Test.YtadnecgcoceklaaGreatDoorFsFsOk
namespace Go.Proofs.YtadnecgcoceklaaGreatDoor
open Go.RowKit Go.Maps

/-- What a call answers, and what it leaves. -/
def Ans (w : World) (pb : Nat) (F : Nat → Prop) (r : Int × A) (e : Ending) (w' : World) : Prop := e = .returned (.int .i64 r.1) ∧ ∃ F', FsAt w' pb r.2 F' ∧ Moves F w F' w'
theorem bel1 (w : World) (o : Obj) : Below w.heap.size w (w.alloc o) := (Below.refl _ _).alloc (Nat.le_refl _) _
theorem FsG.len {w : World} {g : Gh} {pb : Nat} {a : A} {F : Nat → Prop} (h : FsG w g pb a F) (ty : TypeId) : (Builtin.len_ #[90] ty #[.map g.nm]).run Tryz.prog w = .ok (.int .i64 (a.now.length : Int)) w := by
  cases hg : g.nm with
  | none => rw [Maps.len_nil und65 ty, (h.hD.none_ hg).1]; rfl
  | some b => exact (h.hD.n b hg).1.len ty

def upd {α : Type} (f : Nat → α) (n : Nat) (v : α) : Nat → α := fun i => if i = n then v else f i
theorem ChAt.congr {w : World} {F : Nat → Prop} {blk blk' : Nat → Nat} {c : Ch} {x : Nat × Nat × Nat} {n : Nat} (h : ChAt w F blk c x) (hc : c.ok n) (e : ∀ i, i < n → blk' i = blk i) : ChAt w F blk' c x := by
  cases c with
  | create s i => exact ⟨by rw [e i hc.2]; exact h.1, h.2⟩
  | remove s => exact h
/-- A new file, without bytes. -/
theorem FsG.newFile {w : World} {g : Gh} {pb : Nat} {a : A} {F : Nat → Prop} (h : FsG w g pb a F) (ho : a.Ok) :
    FsG (w.alloc (.cells #[.slice none 0 0, .int .i64 0] 105)) { g with blk := upd g.blk a.files.length w.heap.size, bv := upd g.bv a.files.length (.slice none 0 0) } pb { a with files := a.files ++ [([], 0)] } (fun k => F k ∨ k = w.heap.size) := by
  have hb := bel1 w (.cells #[.slice none 0 0, .int .i64 0] 105)
  have h1 := h.below hb
  have he : ∀ i, i < a.files.length → upd g.blk a.files.length w.heap.size i = g.blk i := fun i hi => if_neg (by omega)
  have he2 : ∀ i, i < a.files.length → upd g.bv a.files.length (.slice none 0 0) i = g.bv i := fun i hi => if_neg (by omega)
  have hn : upd g.blk a.files.length w.heap.size a.files.length = w.heap.size := if_pos rfl
  have hn2 : upd g.bv a.files.length (.slice none 0 0) a.files.length = .slice none 0 0 := if_pos rfl
  have hg1 : ∀ i, i < a.files.length → (a.files ++ [([], 0)]).getD i ([], 0) = a.files.getD i ([], 0) := fun i hi => by
    rw [List.getD_eq_getElem?_getD, List.getD_eq_getElem?_getD, List.getElem?_append_left hi]
  have hg2 : (a.files ++ [([], 0)]).getD a.files.length ([], 0) = (([], 0) : Fil) := by
    rw [List.getD_eq_getElem?_getD]; simp
  refine ⟨h1.hP, ⟨h.hD.non, h.hD.none_, fun b hb' => ⟨(h1.hD.n b hb').1.congr (fun p hp => he _ (ho.now p hp).2), .inl (h.hD.n b hb').2⟩, fun b hb' => ⟨(h1.hD.l b hb').1.congr (fun p hp => he _ (ho.last p hp).2), .inl (h.hD.l b hb').2⟩, h.hD.ne⟩,
    ⟨h1.hW.row, fun k hk => .inl (h.hW.fr k hk), fun p hp => ((h1.hW.ch p hp).congr (ho.wait p.1 (by rw [← h.hw]; exact List.mem_map.2 ⟨p, hp, rfl⟩)) he).mono (fun k hk => .inl hk)⟩, h.hw, h.hwn, ⟨fun i hi => ?_, fun i hi => ?_, fun i j hi hj hij => ?_, fun i j hi hj hij k hk => ?_⟩, .inl h.fp, fun k hk => ?_⟩
  · dsimp only
    by_cases e : i < a.files.length
    · rw [he i e, he2 i e, hg1 i e]; exact ⟨(h1.hF.f i e).1, .inl (h.hF.f i e).2⟩
    · have : i = a.files.length := by simp at hi; omega
      subst this
      rw [hn, hn2, hg2]
      exact ⟨heap_alloc_new w _, .inr rfl⟩
  · dsimp only
    by_cases e : i < a.files.length
    · rw [he2 i e, hg1 i e]; exact ⟨(h1.hF.r i e).1, fun k hk => .inl ((h.hF.r i e).2 k hk)⟩
    · have : i = a.files.length := by simp at hi; omega
      subst this
      rw [hn2, hg2]
      exact ⟨World.ownsRow_nil _ _ _ _, fun k hk => by cases hk⟩
  · dsimp only
    simp at hi hj
    by_cases e : i < a.files.length
    · by_cases e2 : j < a.files.length
      · rw [he i e, he j e2]; exact h.hF.inj i j e e2 hij
      · have : j = a.files.length := by omega
        subst this
        rw [he i e, hn]
        have := h.fl _ (h.hF.f i e).2; omega
    · have : i = a.files.length := by omega
      subst this
      have e2 : j < a.files.length := by omega
      rw [he j e2, hn]
      have := h.fl _ (h.hF.f j e2).2; omega
  · dsimp only at hk ⊢
    simp at hi hj
    by_cases e : i < a.files.length
    · rw [he2 i e] at hk
      by_cases e2 : j < a.files.length
      · rw [he2 j e2]; exact h.hF.sep i j e e2 hij k hk
      · have : j = a.files.length := by omega
        subst this
        rw [hn2]; simp [Value.ownBlock]
    · have : i = a.files.length := by omega
      subst this
      rw [hn2] at hk; cases hk
  · rcases hk with hk | rfl
    · have := h.fl k hk; simp; omega
    · simp

theorem create_no {a : A} {s : Bs} (h : isNm s = false) : a.create s = (6, a) := by unfold A.create; rw [if_pos h]
theorem create_there {a : A} {s : Bs} (h : a.findE s = 0) (ho : a.Ok) : a.create s = (8, a) := by
  obtain ⟨h1, h2, _⟩ := ho.idx h
  unfold A.create; rw [if_neg (by simp [h1]), h2]
theorem findE_cases (a : A) (s : Bs) : (a.findE s = 6 ∧ isNm s = false) ∨ (a.findE s = 7 ∧ isNm s = true ∧ Dir.look a.now s = none) ∨ a.findE s = 0 := by
  cases h : isNm s with
  | false => exact .inl ⟨findE_no h, rfl⟩
  | true =>
    cases hl : Dir.look a.now s with
    | none => exact .inr (.inl ⟨findE_miss h hl, rfl, rfl⟩)
    | some i => exact .inr (.inr (findE_ok h hl))
theorem create_try {a : A} {s : Bs} (h : isNm s = true) (hl : Dir.look a.now s = none) : a.create s = if 400 ≤ a.now.length then (14, a) else a.try fun a => ({ a with files := a.files ++ [([], 0)] }).do (.create s a.files.length) := by
  unfold A.create; rw [if_neg (by simp [h]), hl]
theorem spendE_cases (a : A) : a.spendE = 0 ∨ a.spendE = 4 := by
  unfold A.spendE
  split
  · simp
  · split
    · simp
    · split <;> simp

set_option maxRecDepth 100000 in
set_option maxHeartbeats 1000000 in
theorem create_any {w : World} {pb : Nat} {a : A} {F : Nat → Prop} (h : FsAt w pb a F) (s : ByteArray) (ht : a.top < 1073741824) :
    Calls Tryz.prog 28 #[bp pb, .string s] w (Ans w pb F (a.create s.data.toList)) := by
  obtain ⟨ho, g, h⟩ := h
  have hb1 := bel1 w (.cells #[.string s] 9)
  have hA := h.below hb1
  have hfind := find_any hA s
  have HF := Lib.hid hfind
  have HA := Lib.hid hA
  have HO := Lib.hid ho
  have HM := Lib.hid (Moves.alloc F w (.cells #[.string s] 9))
  rcases findE_cases a s.data.toList with ⟨h6, hn⟩ | ⟨h7, hn, hl⟩ | h0
  · unfold findP at HF
    rw [h6] at HF
    have HV := Lib.hid (create_no (a := a) hn)
    clear hfind hA ho h hb1 h6 hn
    go_enter Tryz.func28, Tryz.ntmps28
    go_wp2_with fail
    refine HF.out.mono ?_
    rintro e W ⟨rfl, rfl⟩
    go_wp2
    go_ret
    rw [HV.out]
    exact ⟨rfl, F, ⟨HO.out, g, HA.out⟩, HM.out⟩
  · unfold findP at HF
    rw [h7] at HF
    have hc := create_try (a := a) hn hl
    have c1 := hA.c1
    have hlen := hA.len 3
    by_cases h400 : 400 ≤ a.now.length
    · have HV := Lib.hid (show a.create s.data.toList = (14, a) by rw [hc, if_pos h400])
      clear hfind hA ho h hb1 h7 hn hl hc
      go_enter Tryz.func28, Tryz.ntmps28
      go_wp2_with fail
      refine HF.out.mono ?_
      rintro e W ⟨rfl, rfl⟩
      go_wp2
      go_ret
      rw [HV.out]
      exact ⟨rfl, F, ⟨HO.out, g, HA.out⟩, HM.out⟩
    · have hsp := spend_any hA ho.left
      rcases spendE_cases a with h0 | h4
      · have HV := Lib.hid (show a.create s.data.toList = (0, ({ a.spent with files := a.spent.files ++ [([], 0)] } : A).do (.create s.data.toList a.spent.files.length)) by rw [hc, if_neg h400]; unfold A.try; rw [if_pos h0])
        rw [h0] at hsp
        have HSP := Lib.hid hsp
        have hlt := h.lt
        have hmf : ∀ (fn : Fn) (first cap : Array Value) (w : World), (Instr.makeFunc fn first cap).run Tryz.prog w = .ok (.func fn first cap) w := fun _ _ _ _ => rfl
        have HN := Lib.hid (isNm_short24 hn)
        have HTop := Lib.hid ht
        clear hfind hA ho h hb1 h7 hn hl hc hsp h0 ht
        go_enter Tryz.func28, Tryz.ntmps28
        go_wp2_with fail
        refine HF.out.mono ?_
        rintro e W ⟨rfl, rfl⟩
        go_wp2_with fail
        refine HSP.out.mono ?_
        rintro e W ⟨rfl, hW, hT⟩
        have HW := Lib.hid hW
        have HT := Lib.hid hT
        clear hW hT
        go_wp2_with fail
        have hOs := HO.out.spent
        have hG1 := HW.out.newFile hOs
        have hsz : W.heap.size = w.heap.size + 1 := by rw [HT.out.size]; simp
        have hnb : ((W.alloc (.cells #[.slice none 0 0, .int .i64 0] 105)).alloc (.cells #[bp W.heap.size] 103)).heap[w.heap.size]? = some (.cells #[.string s] 9 (0, 0)) := by
          rw [Below.heap_alloc _ _ _ (by simp; omega), Below.heap_alloc _ _ _ (by omega), HT.out.block _ (by omega)]; exact heap_alloc_new w _
        have hG2 := (hG1.below (bel1 _ (.cells #[bp W.heap.size] 103))).mono (F' := fun k => F k ∨ k = W.heap.size ∨ k = W.heap.size + 1 ∨ k = w.heap.size) (fun k hk => by rcases hk with hk | hk; exact .inl hk; exact .inr (.inl hk)) (fun k hk => by
          rcases hk with hk | hk | hk | hk
          · have := HW.out.fl k hk; simp; omega
          · simp; omega
          · simp; omega
          · simp; omega)
        have hch : ChAt ((W.alloc (.cells #[.slice none 0 0, .int .i64 0] 105)).alloc (.cells #[bp W.heap.size] 103)) (fun k => F k ∨ k = W.heap.size ∨ k = W.heap.size + 1 ∨ k = w.heap.size) (upd g.blk a.spent.files.length W.heap.size) (.create s.data.toList a.spent.files.length) (W.heap.size + 1, w.heap.size, 0) := by
          refine ⟨⟨?_, .inr (.inr (.inl rfl))⟩, ⟨?_, .inr (.inr (.inr rfl))⟩⟩
          · have e : upd g.blk a.spent.files.length W.heap.size a.spent.files.length = W.heap.size := if_pos rfl
            rw [e]
            have := heap_alloc_new (W.alloc (.cells #[.slice none 0 0, .int .i64 0] 105)) (.cells #[bp W.heap.size] 103)
            rw [show (W.alloc (.cells #[.slice none 0 0, .int .i64 0] 105)).heap.size = W.heap.size + 1 by simp] at this
            exact this
          · rw [strB_data]; exact hnb
        have htop := HTop.out
        unfold A.top at htop
        obtain ⟨_, e2, e3, e4, _, _⟩ := spent_eq a
        have hM2 : Moves F w (fun k => F k ∨ k = W.heap.size ∨ k = W.heap.size + 1 ∨ k = w.heap.size) ((W.alloc (.cells #[.slice none 0 0, .int .i64 0] 105)).alloc (.cells #[bp W.heap.size] 103)) := by
          have m := ((HM.out.trans (HT.out.moves HW.out.fp)).trans (Moves.alloc F W (.cells #[.slice none 0 0, .int .i64 0] 105))).trans (Moves.alloc F _ (.cells #[bp W.heap.size] 103))
          exact ⟨m.os, m.tape, m.output, m.size, m.block, fun k hk => by
            rcases hk with hk | hk | hk | hk
            · exact .inl hk
            · exact .inr (by omega)
            · exact .inr (by omega)
            · exact .inr (by omega)⟩
        have hcok : (Ch.create s.data.toList a.spent.files.length).ok (a.spent.files ++ [([], 0)]).length := ⟨HN.out, by simp⟩
        refine (do_any hG2 (by show a.spent.now.length < maxLen; rw [e2]; unfold maxLen; omega) (by show a.spent.wait.length < _; rw [e4]; omega) hch hcok).mono ?_
        rintro e W3 ⟨rfl, g', F', hG3, _, _, hM3⟩
        have HE := Lib.hid (show Ans w pb F (a.create s.data.toList) (.returned (.int .i64 0)) W3 by
          rw [HV.out]
          exact ⟨rfl, F', ⟨(hOs.newFile).do hcok, g', hG3⟩, hM2.trans hM3⟩)
        clear hG1 hG2 hG3 hM2 hM3 hch hnb hcok hsz e2 e3 e4 htop hOs
        go_wp2
        go_ret
        exact HE.out
      · have HV := Lib.hid (show a.create s.data.toList = (4, a.spent) by rw [hc, if_neg h400]; unfold A.try; rw [h4]; rfl)
        rw [h4] at hsp
        have HSP := Lib.hid hsp
        clear hfind hA ho h hb1 h7 hn hl hc hsp h4
        go_enter Tryz.func28, Tryz.ntmps28
        go_wp2_with fail
        refine HF.out.mono ?_
        rintro e W ⟨rfl, rfl⟩
        go_wp2_with fail
        refine HSP.out.mono ?_
        rintro e W ⟨rfl, hW, hT⟩
        have HW := Lib.hid hW
        have HT := Lib.hid hT
        clear hW hT
        go_wp2
        go_ret
        rw [HV.out]
        exact ⟨rfl, F, ⟨HO.out.spent, g, HW.out⟩, HM.out.trans (HT.out.moves HW.out.fp)⟩
  · unfold findP at HF
    rw [h0] at HF
    have HV := Lib.hid (create_there (a := a) h0 ho)
    clear hfind hA ho h hb1 h0
    go_enter Tryz.func28, Tryz.ntmps28
    go_wp2_with fail
    refine HF.out.mono ?_
    rintro e W ⟨rfl, rfl⟩
    go_wp2
    go_ret
    rw [HV.out]
    exact ⟨rfl, F, ⟨HO.out, g, HA.out⟩, HM.out⟩
end Go.Proofs.YtadnecgcoceklaaGreatDoor

