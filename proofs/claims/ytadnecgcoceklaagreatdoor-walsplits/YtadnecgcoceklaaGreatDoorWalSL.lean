/-
  Logs, directories and rows side by side: each in a footprint of its own, none touches another's.
-/
import Derived.Test.YtadnecgcoceklaaGreatDoorWalL2
namespace Go.Proofs.YtadnecgcoceklaaGreatDoor
open Go.RowKit Go.Maps

/-- All blocks but those of F. -/
def GF (w : World) (F : Nat → Prop) : Nat → Prop := fun k => k < w.heap.size ∧ ¬ F k
/-- The library's tables lie below B. -/
def VB (B : Nat) (w : World) : Prop := ∃ W, Vars W ∧ W.heap.size ≤ B ∧ Below W.heap.size W w
def Dj (F G : Nat → Prop) : Prop := ∀ k, F k → G k → False
theorem Dj.symm {F G : Nat → Prop} (h : Dj F G) : Dj G F := fun k h1 h2 => h k h2 h1
/-- A footprint of the law's own: from B on, within the world. -/
def Foot (B : Nat) (w : World) (F : Nat → Prop) : Prop := ∀ k, F k → B ≤ k ∧ k < w.heap.size
section
variable {B : Nat} {w w' w2 : World} {F F' F1 F1' F2 : Nat → Prop} {lb pb num lim : Nat} {a a' : A}
theorem VB.vg (h : VB B w) (hF : Foot B w F) : VG (GF w F) w := by
  obtain ⟨W, h1, h2, h3⟩ := h
  exact ⟨W, h1, h3, fun k hk => ⟨Nat.lt_of_lt_of_le hk h3.size, fun hf => by have := (hF k hf).1; omega⟩⟩
theorem VB.vars (h : VB B w) : Vars w := by
  obtain ⟨W, h1, h2, h3⟩ := h
  exact h1.below h3
theorem VB.below (h : VB B w) (hb : Below B w w') : VB B w' := by
  obtain ⟨W, h1, h2, h3⟩ := h
  exact ⟨W, h1, h2, h3.trans (hb.mono h2)⟩
theorem VB.start (hv : Vars w) : VB w.heap.size w := ⟨w, hv, Nat.le_refl _, Below.refl _ _⟩
theorem Foot.moves (h : Foot B w F) (hB : B ≤ w.heap.size) (hM : Moves F w F' w') (hx : ∀ k, F' k → k < w'.heap.size) : Foot B w' F' := fun k hk => ⟨by
  rcases hM.foot k hk with h1 | h1
  · exact (h k h1).1
  · omega, hx k hk⟩
theorem Foot.grow (h : Foot B w F) (hs : w.heap.size ≤ w'.heap.size) : Foot B w' F := fun k hk => ⟨(h k hk).1, Nat.lt_of_lt_of_le (h k hk).2 hs⟩
theorem Dj.moves (h : Dj F1 F2) (h2 : Foot B w F2) (hM : Moves F1 w F1' w') : Dj F1' F2 := fun k hk hk2 => by
  rcases hM.foot k hk with h1 | h1
  · exact h k h1 hk2
  · have := (h2 k hk2).2; omega
theorem moves_of_stay (hS : Stay (GF w F) w w') : Moves F w (fun k => F k ∨ (w.heap.size ≤ k ∧ k < w'.heap.size)) w' :=
  ⟨hS.os, hS.tape, hS.output, hS.size, fun k hk hf => hS.block k hk ⟨hk, hf⟩, fun k hk => by
    rcases hk with h | h
    · exact .inl h
    · exact .inr h.1⟩
theorem moves_of_below (hb : Below w.heap.size w w') : Moves F w F w' := ⟨hb.os, hb.tape, hb.output, hb.size, fun k hk _ => hb.block k hk, fun _ h => .inl h⟩

/-- A directory in its footprint. -/
structure SF (B : Nat) (w : World) (F : Nat → Prop) (pb : Nat) (a : A) : Prop where
  fx : Fx (GF w F) w pb a
  ft : Foot B w F
/-- A log in its footprint. -/
structure SL (B : Nat) (w : World) (F : Nat → Prop) (lb pb num lim : Nat) (a : A) : Prop where
  lx : Lx (GF w F) w lb pb num lim a
  ft : Foot B w F
theorem SF.step (h : SF B w F pb a) (hB : B ≤ w.heap.size) (hF : Fx (GF w F) w' pb a') (hS : Stay (GF w F) w w') :
    ∃ F', SF B w' F' pb a' ∧ Moves F w F' w' ∧ Foot B w' F' := by
  have hM := moves_of_stay hS
  have hft : Foot B w' (fun k => F k ∨ (w.heap.size ≤ k ∧ k < w'.heap.size)) := h.ft.moves hB hM fun k hk => by
    rcases hk with h1 | h1
    · exact Nat.lt_of_lt_of_le (h.ft k h1).2 hS.size
    · exact h1.2
  exact ⟨_, ⟨hF.mono fun k hk => ⟨by
    rcases Nat.lt_or_ge k w.heap.size with h1 | h1
    · exact h1
    · exact absurd (.inr ⟨h1, hk.1⟩) hk.2, fun hf => hk.2 (.inl hf)⟩, hft⟩, hM, hft⟩
theorem SF.moved (h : SF B w F pb a) (hM : Moves F1 w F1' w') (hd : Dj F F1) : SF B w' F pb a := by
  obtain ⟨⟨⟨F0, h1, h2⟩, h3⟩, h4⟩ := h
  have hin : ∀ k, F0 k → F k := fun k hk => by
    have hk1 := h1.fl k hk
    exact Classical.byContradiction fun hn => h2 k hk ⟨hk1, hn⟩
  exact ⟨⟨⟨F0, h1.moves hM fun k hk => hd k (hin k hk), fun k hk hg => hg.2 (hin k hk)⟩, fun k hk => hk.1⟩, h4.grow hM.size⟩
theorem SL.sf (h : SL B w F lb pb num lim a) : SF B w F pb a := ⟨h.lx.fx.mono fun _ hk => .inl hk, h.ft⟩
theorem SL.step (h : SL B w F lb pb num lim a) (hv : VB B w) (hB : B ≤ w.heap.size) {num' : Nat} (hF : Lx (GF w F) w' lb pb num' lim a') (hS : Stay (GF w F) w w') :
    ∃ F', SL B w' F' lb pb num' lim a' ∧ Moves F w F' w' ∧ Foot B w' F' := by
  have hM := moves_of_stay hS
  have hft : Foot B w' (fun k => F k ∨ (w.heap.size ≤ k ∧ k < w'.heap.size)) := h.ft.moves hB hM fun k hk => by
    rcases hk with h1 | h1
    · exact Nat.lt_of_lt_of_le (h.ft k h1).2 hS.size
    · exact h1.2
  have hb : Below B w w' := hM.below hB fun k hk => (h.ft k hk).1
  refine ⟨_, ⟨hF.shrink (w := w') (fun k hk => ⟨by
    rcases Nat.lt_or_ge k w.heap.size with h1 | h1
    · exact h1
    · exact absurd (.inr ⟨h1, hk.1⟩) hk.2, fun hf => hk.2 (.inl hf)⟩) ((hv.below hb).vg hft), hft⟩, hM, hft⟩
theorem SL.moved (h : SL B w F lb pb num lim a) (hv : VB B w') (hM : Moves F1 w F1' w') (hd : Dj F F1) : SL B w' F lb pb num lim a := by
  have hlb : F lb := Classical.byContradiction fun hn => h.lx.out ⟨h.lx.lt, hn⟩
  have hft := h.ft.grow hM.size
  obtain ⟨⟨F0, h1, h2⟩, h3⟩ := h.lx.fx
  have hin : ∀ k, F0 k → F k := fun k hk => by
    have hk1 := h1.fl k hk
    exact Classical.byContradiction fun hn => h2 k hk (.inl ⟨hk1, hn⟩)
  exact ⟨⟨(hM.block lb h.lx.lt (fun hf => hd lb hlb hf)).trans h.lx.at_, ⟨⟨F0, h1.moves hM fun k hk => hd k (hin k hk), fun k hk hg => by
    rcases hg with hg | hg
    · exact hg.2 (hin k hk)
    · exact h2 k hk (.inr hg)⟩, fun k hk => by
    rcases hk with hk | hk
    · exact hk.1
    · subst hk; exact Nat.lt_of_lt_of_le h.lx.lt hM.size⟩, fun hg => hg.2 hlb, hv.vg hft⟩, hft⟩
/-- A new log on a directory. -/
theorem SL.made (h : SF B w F pb a) (hv : VB B w) (hB : B ≤ w.heap.size) (hF : Lx (GF w F) w' lb pb num lim a') (hS : Stay (GF w F) w w') :
    ∃ F', SL B w' F' lb pb num lim a' ∧ Moves F w F' w' ∧ Foot B w' F' := by
  have hM := moves_of_stay hS
  have hft : Foot B w' (fun k => F k ∨ (w.heap.size ≤ k ∧ k < w'.heap.size)) := h.ft.moves hB hM fun k hk => by
    rcases hk with h1 | h1
    · exact Nat.lt_of_lt_of_le (h.ft k h1).2 hS.size
    · exact h1.2
  have hb : Below B w w' := hM.below hB fun k hk => (h.ft k hk).1
  refine ⟨_, ⟨hF.shrink (w := w') (fun k hk => ⟨by
    rcases Nat.lt_or_ge k w.heap.size with h1 | h1
    · exact h1
    · exact absurd (.inr ⟨h1, hk.1⟩) hk.2, fun hf => hk.2 (.inl hf)⟩) ((hv.below hb).vg hft), hft⟩, hM, hft⟩
end
/-- A row of texts of one's own, and its footprint. -/
abbrev obf (v : Value) : Nat → Prop := fun k => v.ownBlock = some k
def RO (B : Nat) (w : World) (v : Value) (ts : List ByteArray) : Prop := ∃ ad cap, v = .slice ad ts.length cap ∧ w.ownsRow B 9 1 v ts.length (FR.strV ts)
section
variable {B : Nat} {w w' w2 : World} {F F' F1 F1' : Nat → Prop} {v : Value} {ts us : List ByteArray}
theorem RO.nil (B : Nat) (w : World) : RO B w (.slice none 0 0) [] := ⟨none, 0, rfl, World.ownsRow_nil _ _ _ _⟩
theorem RO.ft (h : RO B w v ts) : Foot B w (obf v) := fun k hk => by
  obtain ⟨ad, cap, rfl, h1⟩ := h
  exact h1.lt k hk
theorem RO.moved (h : RO B w v ts) (hM : Moves F1 w F1' w') (hd : Dj (obf v) F1) : RO B w' v ts := by
  have hf := h.ft
  obtain ⟨ad, cap, rfl, h1⟩ := h
  exact ⟨ad, cap, rfl, FR.own_stay h1 fun q hq => hM.block q (hf q hq).2 (hd q hq)⟩
theorem RO.of (h : w.ownsRow B 9 1 v ts.length (FR.strV ts)) : RO B w v ts := by
  obtain ⟨ad, cap, rfl, _⟩ := slice_of_own h (by simp [FR.strV])
  exact ⟨ad, cap, rfl, h⟩
theorem RO.strs (h : RO B w v ts) : ∃ ad cap, v = .slice ad ts.length cap ∧ StrsAt w ad ts ∧ ts.length ≤ cap ∧ (∀ b off, ad = some ⟨b, off, none⟩ → off = 0 ∧ v.ownBlock = some b) ∧ (ad = none → ts = []) := by
  obtain ⟨ad, cap, rfl, h1⟩ := h
  have hc := fun g hg => World.ownsRow.cells h1 (g := g) hg
  rcases h1.2 with ⟨he, h0⟩ | ⟨g, cap', cur, he, hB, hg, h3, h4⟩
  · have hts := List.eq_nil_of_length_eq_zero h0
    simp only [Value.slice.injEq] at he
    obtain ⟨rfl, _, rfl⟩ := he
    exact ⟨_, _, rfl, .inl hts, by omega, (fun _ _ e => by cases e), fun _ => hts⟩
  · simp only [Value.slice.injEq] at he
    obtain ⟨rfl, _, rfl⟩ := he
    refine ⟨_, _, rfl, .inr ⟨g, 0, rfl, (Array.getElem?_eq_some_iff.1 hg).1, fun i hi => ?_⟩, by simpa using h3, (fun b off e => by cases e; exact ⟨rfl, rfl⟩), fun e => by cases e⟩
    have := hc g rfl i (.string ts[i]) (by
      unfold FR.strV
      rw [List.getElem?_map, List.getElem?_eq_getElem hi]; rfl)
    rw [addr_add] at this
    exact this
theorem moves_row {v' : Value} (hb : Below B w w2) (hq : ∀ q, q < w.heap.size → v.ownBlock ≠ some q → v'.ownBlock ≠ some q ∧ w2.heap[q]? = w.heap[q]?) : Moves (obf v) w (obf v') w2 :=
  ⟨hb.os, hb.tape, hb.output, hb.size, fun k hk hn => (hq k hk hn).2, fun k hk => by
    rcases Nat.lt_or_ge k w.heap.size with h1 | h1
    · exact .inl (Classical.byContradiction fun hn => (hq k h1 hn).1 hk)
    · exact .inr h1⟩
/-- A text is appended. -/
theorem RO.app1 (h : RO B w v ts) (hB : B ≤ w.heap.size) (s : ByteArray) (hl : ts.length ≤ 1000000000) :
    ∃ v' w2, (Builtin.append_ #[23, 23] 23 #[v, .slice (some ⟨w.heap.size, 0, none⟩) 1 1]).run Tryz.prog (w.alloc (.cells #[.string s] 9)) = .ok v' w2 ∧ RO B w2 v' (ts ++ [s]) ∧ Moves (obf v) w (obf v') w2 := by
  obtain ⟨ad, cap, rfl, h1⟩ := h
  obtain ⟨v', w2, h2, h3, h4, h5⟩ := FR.appT B w _ ts s ts.length h1 hB hl
  exact ⟨v', w2, h2, RO.of (by simpa using h3), moves_row h4 h5⟩
/-- Another row's texts are appended. -/
theorem appR0 {B' : Nat} {u : Value} (h : RO B w v ts) (hu : RO B' w u us) (hB : B ≤ w.heap.size) (hl : ts.length + us.length ≤ 1000000000) :
    ∃ v' w2, (Builtin.append_ #[23, 23] 23 #[v, u]).run Tryz.prog w = .ok v' w2 ∧ RO B w2 v' (ts ++ us) ∧ Moves (obf v) w (obf v') w2 := by
  obtain ⟨adu, capu, rfl, hs, _, hz, hnil⟩ := hu.strs
  obtain ⟨ad, cap, rfl, h1⟩ := h
  obtain ⟨i0, hi0, hz0, hz1, hz2⟩ := info_parts Tryz.info9
  cases adu with
  | none =>
    obtain rfl := hnil rfl
    obtain ⟨_, _, e, hw⟩ := hu
    cases e
    rcases hw.2 with ⟨he, _⟩ | ⟨g, cap', cur, he, _⟩
    · simp only [Value.slice.injEq] at he
      obtain ⟨_, _, rfl⟩ := he
      have hrun := run_append_owned_none (P := Tryz.prog) (w := w) B 23 23 9 i0 1 Tryz.underlying23 hi0 _ ts.length (FR.strV ts) h1
      exact ⟨_, w, hrun, by rw [List.append_nil]; exact ⟨ad, cap, rfl, h1⟩, Moves.refl _ _⟩
    · simp at he
  | some x =>
    have hown := hu
    obtain ⟨_, _, e, hw⟩ := hown
    cases e
    rcases hw.2 with ⟨he, _⟩ | ⟨g, cap', cur, he, hgB, hg, hg1, _⟩
    · simp at he
    · simp only [Value.slice.injEq] at he
      obtain ⟨he1, _, rfl⟩ := he
      cases he1
      have hlt : g < w.heap.size := (Array.getElem?_eq_some_iff.1 hg).1
      obtain ⟨v', w2, h2, h3, h4, _, h5⟩ := run_append_own_at (P := Tryz.prog) w B 23 23 9 i0 (.string ByteArray.empty) 1 16 Tryz.underlying23 hi0 hz0 hz1 hz2 rfl (by decide) _ ts.length (FR.strV ts) h1 ⟨g, 0, none⟩ us.length capu (FR.strV us) (by simp [FR.strV]) (fun j u hj => by
        have hc := World.ownsRow.cells hw (g := g) rfl j u hj
        rw [addr_add] at hc ⊢; exact hc) (strV_one us) (by unfold maxLen; omega) (by omega) (by omega)
      have hb : Below B w w2 := (Below.refl B w).grown h4 (by omega) (fun q hq => (h1.lt q hq).1)
      refine ⟨v', w2, h2, RO.of (by simpa [FR.strV] using h3), moves_row hb fun q hq hv => ⟨fun e => ?_, ?_⟩⟩
      · rcases h5 with h5 | h5
        · exact hv (by rw [← h5]; exact e)
        · rw [h5] at e; have := Option.some.inj e; omega
      · exact h4.block q hq (fun e => hv e.symm)
theorem RO.appR {u : Value} (h : RO B w v ts) (hu : RO B w u us) (hB : B ≤ w.heap.size) (hl : ts.length + us.length ≤ 1000000000) :
    ∃ v' w2, (Builtin.append_ #[23, 23] 23 #[v, u]).run Tryz.prog w = .ok v' w2 ∧ RO B w2 v' (ts ++ us) ∧ Moves (obf v) w (obf v') w2 := appR0 h hu hB hl
end
end Go.Proofs.YtadnecgcoceklaaGreatDoor
