/-
  Texts laid together: FsFsX1 FsFsX2 FsFsX3 FsFsY1.
-/
import Derived.Test.YtadnecgcoceklaaGreatDoorFsFsWJ
import Derived.Lib.SlBytesConst
/-
  The calls of package fs as a law sees them: a directory that keeps off the law's own blocks.
-/
namespace Go.Proofs.YtadnecgcoceklaaGreatDoor
open Go.RowKit Go.Maps

/-- Blocks of G are as they were. -/
structure Stay (G : Nat → Prop) (w w' : World) : Prop where
  os : w'.os = w.os
  tape : w'.tape = w.tape
  output : w'.output = w.output
  size : w.heap.size ≤ w'.heap.size
  block : ∀ k, k < w.heap.size → G k → w'.heap[k]? = w.heap[k]?
theorem Stay.refl (G : Nat → Prop) (w : World) : Stay G w w := ⟨rfl, rfl, rfl, Nat.le_refl _, fun _ _ _ => rfl⟩
theorem Stay.trans {G : Nat → Prop} {w w1 w2 : World} (h : Stay G w w1) (k : Stay G w1 w2) : Stay G w w2 :=
  ⟨k.os.trans h.os, k.tape.trans h.tape, k.output.trans h.output, Nat.le_trans h.size k.size, fun b hb hG => (k.block b (Nat.lt_of_lt_of_le hb h.size) hG).trans (h.block b hb hG)⟩
theorem Stay.mono {G G' : Nat → Prop} {w w' : World} (h : Stay G w w') (hG : ∀ k, G' k → G k) : Stay G' w w' := ⟨h.os, h.tape, h.output, h.size, fun b hb hg => h.block b hb (hG b hg)⟩
theorem Stay.of_below {G : Nat → Prop} {w w' : World} (h : Below w.heap.size w w') : Stay G w w' := ⟨h.os, h.tape, h.output, h.size, fun b hb _ => h.block b hb⟩
theorem Stay.below {G : Nat → Prop} {B : Nat} {w w' : World} (h : Stay G w w') (hB : B ≤ w.heap.size) (hG : ∀ k, k < B → G k) : Below B w w' := ⟨h.os, h.tape, h.output, h.size, fun k hk => h.block k (by omega) (hG k hk)⟩
theorem Stay.drewN (G : Nat → Prop) (w : World) (n : Nat) : Stay G w (w.drewN n) := ⟨rfl, rfl, rfl, Nat.le_refl _, fun _ _ _ => rfl⟩
theorem Stay.alloc (G : Nat → Prop) (w : World) (o : Obj) : Stay G w (w.alloc o) := Stay.of_below (bel1 w o)
theorem Stay.byt {G : Nat → Prop} {w w' : World} (h : Stay G w w') {ad : Option Addr} {l : List Nat} (hb : Byt w ad l) (hG : ∀ b off, ad = some ⟨b, off, none⟩ → G b) : Byt w' ad l := by
  rcases hb with h0 | ⟨b, off, he, hlt, hc⟩
  · exact .inl h0
  · exact .inr ⟨b, off, he, Nat.lt_of_lt_of_le hlt h.size, fun i hi => (World.cell?_of_block (a := ⟨b, off + i, none⟩) (h.block b hlt (hG b off he))).trans (hc i hi)⟩

/-- The directory a lies at block pb, off the blocks of G. -/
def Fx (G : Nat → Prop) (w : World) (pb : Nat) (a : A) : Prop := (∃ F, FsAt w pb a F ∧ ∀ k, F k → ¬ G k) ∧ ∀ k, G k → k < w.heap.size
section
variable {G G' : Nat → Prop} {w w' : World} {pb : Nat} {a : A}
theorem Fx.lt (h : Fx G w pb a) : pb < w.heap.size := by obtain ⟨⟨F, h1, _⟩, _⟩ := h; exact h1.lt
theorem Fx.ok (h : Fx G w pb a) : a.Ok := by obtain ⟨⟨F, h1, _⟩, _⟩ := h; exact h1.1
theorem Fx.mono (h : Fx G w pb a) (hG : ∀ k, G' k → G k) : Fx G' w pb a := by
  obtain ⟨⟨F, h1, h2⟩, h3⟩ := h
  exact ⟨⟨F, h1, fun k hk hg => h2 k hk (hG k hg)⟩, fun k hk => h3 k (hG k hk)⟩
theorem Fx.below (h : Fx G w pb a) (hb : Below w.heap.size w w') : Fx G w' pb a := by
  obtain ⟨⟨F, h1, h2⟩, h3⟩ := h
  exact ⟨⟨F, h1.below hb, h2⟩, fun k hk => Nat.lt_of_lt_of_le (h3 k hk) hb.size⟩
/-- New blocks are the law's own. -/
theorem Fx.grown (h : Fx G w pb a) (hb : Below w.heap.size w w') : Fx (fun k => G k ∨ (w.heap.size ≤ k ∧ k < w'.heap.size)) w' pb a := by
  obtain ⟨⟨F, h1, h2⟩, h3⟩ := h
  exact ⟨⟨F, h1.below hb, fun k hk hg => by
    rcases hg with hg | hg
    · exact h2 k hk hg
    · have := h1.fl k hk; omega⟩, fun k hk => by
    rcases hk with hk | hk
    · exact Nat.lt_of_lt_of_le (h3 k hk) hb.size
    · exact hk.2⟩
theorem Fx.drewN (h : Fx G w pb a) (n : Nat) : Fx G (w.drewN n) pb a := h.below (below_drewN _ _ _)
/-- The law turns its own blocks. -/
theorem Fx.own (h : Fx G w pb a) (hs : w.heap.size = w'.heap.size) (hk : ∀ k, k < w.heap.size → ¬ G k → w'.heap[k]? = w.heap[k]?) : Fx G w' pb a := by
  obtain ⟨⟨F, h1, h2⟩, h3⟩ := h
  exact ⟨⟨F, h1.keep (fun k hF => hk k (h1.fl k hF) (h2 k hF)) (by omega), h2⟩, fun k hk => by rw [← hs]; exact h3 k hk⟩
theorem Fx.of_moves {F F' : Nat → Prop} (h3 : ∀ k, G k → k < w.heap.size) (h2 : ∀ k, F k → ¬ G k) {a' : A} (h1 : FsAt w' pb a' F') (hM : Moves F w F' w') : Fx G w' pb a' ∧ Stay G w w' :=
  ⟨⟨⟨F', h1, fun k hk hg => by
    rcases hM.foot k hk with h | h
    · exact h2 k h hg
    · have := h3 k hg; omega⟩, fun k hk => Nat.lt_of_lt_of_le (h3 k hk) hM.size⟩, ⟨hM.os, hM.tape, hM.output, hM.size, fun k hk hg => hM.block k hk (fun hF => h2 k hF hg)⟩⟩
def FxAns (G : Nat → Prop) (w : World) (pb : Nat) (r : Int × A) (e : Ending) (w' : World) : Prop := e = .returned (.int .i64 r.1) ∧ Fx G w' pb r.2 ∧ Stay G w w'
theorem FxAns.of {F : Nat → Prop} (h3 : ∀ k, G k → k < w.heap.size) (h2 : ∀ k, F k → ¬ G k) {r : Int × A} {e : Ending} (h : Ans w pb F r e w') : FxAns G w pb r e w' := by
  obtain ⟨he, F', h1, hM⟩ := h
  exact ⟨he, Fx.of_moves h3 h2 h1 hM⟩
theorem fx_create (h : Fx G w pb a) (s : ByteArray) (ht : a.top < 1073741824) : Calls Tryz.prog 28 #[bp pb, .string s] w (FxAns G w pb (a.create s.data.toList)) := by
  obtain ⟨⟨F, h1, h2⟩, h3⟩ := h
  exact (create_any h1 s ht).mono fun e w' hA => FxAns.of h3 h2 hA
theorem fx_remove (h : Fx G w pb a) (s : ByteArray) (ht : a.top < 1073741824) : Calls Tryz.prog 57 #[bp pb, .string s] w (FxAns G w pb (a.remove s.data.toList)) := by
  obtain ⟨⟨F, h1, h2⟩, h3⟩ := h
  exact (remove_any h1 s ht).mono fun e w' hA => FxAns.of h3 h2 hA
theorem fx_sync (h : Fx G w pb a) (s : ByteArray) : Calls Tryz.prog 49 #[bp pb, .string s] w (FxAns G w pb (a.sync s.data.toList)) := by
  obtain ⟨⟨F, h1, h2⟩, h3⟩ := h
  exact (sync_any h1 s).mono fun e w' hA => FxAns.of h3 h2 hA
theorem fx_syncDir (h : Fx G w pb a) : Calls Tryz.prog 58 #[bp pb] w (FxAns G w pb a.syncDir) := by
  obtain ⟨⟨F, h1, h2⟩, h3⟩ := h
  exact (syncDir_any h1).mono fun e w' hA => FxAns.of h3 h2 hA
theorem fx_append (h : Fx G w pb a) (s : ByteArray) (ht : a.top < 1073741824) {bb off m c : Nat} {l : List Nat} (hl : Byt w (some ⟨bb, off, none⟩) l) (hm : l.length = m) (hx : ∀ x ∈ l, x < 256) (hG : G bb) (hmx : m ≤ 140737488351232) :
    Calls Tryz.prog 48 #[bp pb, .string s, .slice (some ⟨bb, off, none⟩) m c] w (FxAns G w pb (a.append s.data.toList l)) := by
  obtain ⟨⟨F, h1, h2⟩, h3⟩ := h
  exact (append_any h1 s ht hl hm hx (fun hF => h2 bb hF hG) hmx).mono fun e w' hA => FxAns.of h3 h2 hA
theorem fx_arm (h : Fx G w pb a) (n : Int) (hn : -9223372036854775808 ≤ n ∧ n ≤ 9223372036854775807) : Calls Tryz.prog 25 #[bp pb, .int .i64 n] w fun e w' => e = .returned (.tuple #[]) ∧ Fx G w' pb (a.arm n) ∧ Stay G w w' := by
  obtain ⟨⟨F, h1, h2⟩, h3⟩ := h
  exact (arm_any h1 n hn).mono fun e w' hA => ⟨hA.1, Fx.of_moves h3 h2 hA.2.1 hA.2.2⟩
/-- Picks that lie in the law's own blocks. -/
def PicksG (G : Nat → Prop) (w : World) (ad : Option Addr) (zs : List Int) : Prop :=
  (zs = [] ∨ ∃ b off, ad = some ⟨b, off, none⟩ ∧ ∀ i (h : i < zs.length), w.cell? ⟨b, off + i, none⟩ = some (.int .i64 zs[i])) ∧ (∀ b off, ad = some ⟨b, off, none⟩ → G b) ∧ zs.length < 4611686018427387904
theorem fx_crash (h : Fx G w pb a) (ht : a.top < 1073741824) {ad : Option Addr} {cap : Nat} {zs : List Int} (hp : PicksG G w ad zs) {n : Nat} (hn : zs.length = n) :
    Calls Tryz.prog 26 #[bp pb, .slice ad n cap] w fun e w' => e = .returned (.tuple #[]) ∧ Fx G w' pb (a.crash zs) ∧ Stay G w w' := by
  obtain ⟨⟨F, h1, h2⟩, h3⟩ := h
  refine (crash_any h1 ht (ad := ad) (cap := cap) (zs := zs) ⟨hp.1, fun b off he => ⟨h3 b (hp.2.1 b off he), fun hF => h2 b hF (hp.2.1 b off he)⟩, hp.2.2⟩ hn).mono ?_
  rintro e w' ⟨he, F', h4, h5⟩
  exact ⟨he, Fx.of_moves h3 h2 h4 h5⟩
def FxRead (G : Nat → Prop) (w : World) (pb : Nat) (a : A) (l : List Nat) (E : Int) (e : Ending) (w' : World) : Prop :=
  ∃ ad cap, e = .returned (.tuple #[.slice ad l.length cap, .int .i64 E]) ∧ Byt w' ad l ∧ (ad = none → l = []) ∧ l.length ≤ cap ∧ (∀ b off, ad = some ⟨b, off, none⟩ → w.heap.size ≤ b ∧ b < w'.heap.size) ∧ Below w.heap.size w w' ∧ Fx (fun k => G k ∨ (w.heap.size ≤ k ∧ k < w'.heap.size)) w' pb a
theorem fx_read (h : Fx G w pb a) (s : ByteArray) (x n : Int) : Calls Tryz.prog 39 #[bp pb, .string s, .int .i64 x, .int .i64 n] w (FxRead G w pb a (a.read s.data.toList x n) (a.readE s.data.toList x n)) := by
  have hk := h
  obtain ⟨⟨F, h1, h2⟩, h3⟩ := h
  refine (read_any h1 s x n).mono ?_
  rintro e w' ⟨v, rfl, hrow, hb⟩
  obtain ⟨ad, cap, rfl, h4, h5, h6⟩ := byt_of_own hrow
  refine ⟨ad, cap, rfl, h4, h5, h6, fun b off he => ?_, hb, hk.grown hb⟩
  subst he
  rcases hrow.2 with ⟨he, h0⟩ | ⟨g, cap', cur, he, hB, hg, _⟩
  · cases he
  · cases he; exact ⟨hB, (Array.getElem?_eq_some_iff.1 hg).1⟩
theorem fx_size (h : Fx G w pb a) (s : ByteArray) : Calls Tryz.prog 45 #[bp pb, .string s] w fun e w' => e = .returned (.tuple #[.int .i64 (a.size s.data.toList : Int), .int .i64 (a.sizeE s.data.toList)]) ∧ w = w' := by
  obtain ⟨⟨F, h1, h2⟩, h3⟩ := h
  exact size_any h1 s
theorem fx_off (h : Fx G w pb a) : Calls Tryz.prog 34 #[bp pb] w fun e w' => e = .returned (.bool a.off) ∧ w = w' := by
  obtain ⟨⟨F, h1, h2⟩, h3⟩ := h
  exact off_any h1
theorem fx_used (h : Fx G w pb a) (ht : a.top < 1073741824) : Calls Tryz.prog 35 #[bp pb] w fun e w' => e = .returned (.int .i64 (a.used : Int)) ∧ Fx G w' pb a ∧ Below w.heap.size w w' := by
  have hk := h
  obtain ⟨⟨F, h1, h2⟩, h3⟩ := h
  exact (used_any h1 ht).mono fun e w' hA => ⟨hA.1, hk.below hA.2, hA.2⟩
/-- Texts that lie in memory. -/
def StrsAt (w : World) (ad : Option Addr) (l : List ByteArray) : Prop := l = [] ∨ ∃ b off, ad = some ⟨b, off, none⟩ ∧ b < w.heap.size ∧ ∀ i (_ : i < l.length), w.cell? ⟨b, off + i, none⟩ = some (.string l[i])
theorem Stay.strs (h : Stay G w w') {ad : Option Addr} {l : List ByteArray} (hb : StrsAt w ad l) (hG : ∀ b off, ad = some ⟨b, off, none⟩ → G b) : StrsAt w' ad l := by
  rcases hb with h0 | ⟨b, off, he, hlt, hc⟩
  · exact .inl h0
  · exact .inr ⟨b, off, he, Nat.lt_of_lt_of_le hlt h.size, fun i hi => (World.cell?_of_block (a := ⟨b, off + i, none⟩) (h.block b hlt (hG b off he))).trans (hc i hi)⟩
theorem fx_list (h : Fx G w pb a) (ht : a.top < 1073741824) : Calls Tryz.prog 37 #[bp pb] w fun e w' => ∃ ad cap, e = .returned (.tuple #[.slice ad a.list.length cap, .int .i64 a.listE]) ∧ StrsAt w' ad (a.list.map strB) ∧ a.list.length ≤ cap ∧ (∀ b off, ad = some ⟨b, off, none⟩ → w.heap.size ≤ b ∧ b < w'.heap.size) ∧ Below w.heap.size w w' ∧ Fx (fun k => G k ∨ (w.heap.size ≤ k ∧ k < w'.heap.size)) w' pb a := by
  have hk := h
  obtain ⟨⟨F, h1, h2⟩, h3⟩ := h
  refine (list_any h1 ht).mono ?_
  rintro e w' ⟨v, rfl, hrow, hb⟩
  obtain ⟨ad, cap, rfl, hcap, hc⟩ := row_cellB hrow
  refine ⟨ad, cap, rfl, ?_, hcap, fun b off he => ?_, hb, hk.grown hb⟩
  · cases hl : a.list with
    | nil => exact .inl rfl
    | cons x r =>
      rw [hl] at hc
      obtain ⟨gb, he, _, hlt, _⟩ := hc 0 (.string (strB x)) rfl
      refine .inr ⟨gb, 0, he, hlt, fun i hi => ?_⟩
      obtain ⟨gb', he', _, _, h5⟩ := hc i (.string (((x :: r).map strB)[i])) (by
        have hi' : i < (x :: r).length := by simpa using hi
        rw [List.getElem?_map, List.getElem?_eq_getElem hi', List.getElem_map]; rfl)
      rw [he] at he'; cases he'
      rw [Nat.zero_add]; exact h5
  · subst he
    rcases hrow.2 with ⟨he, h0⟩ | ⟨g, cap', cur, he, hB, hg, _⟩
    · cases he
    · cases he; exact ⟨hB, (Array.getElem?_eq_some_iff.1 hg).1⟩
theorem fx_new (w : World) (n : Nat) (hn : n ≤ 1073741824) (hG : ∀ k, G k → k < w.heap.size) :
    Calls Tryz.prog 14 #[.int .i64 (n : Int)] w fun e w' => e = .returned (.tuple #[bp w.heap.size, .int .i64 0]) ∧ Fx G w' w.heap.size (A.new n) ∧ Below w.heap.size w w' := by
  refine (new_ok n hn w).mono ?_
  rintro e w' ⟨he, h1, h2, _⟩
  exact ⟨he, ⟨⟨_, h1, fun k hk hg => by have := hG k hg; omega⟩, fun k hk => Nat.lt_of_lt_of_le (hG k hk) h2.size⟩, h2⟩
end
/-! How many names there may be. -/
theorem spent_top (a : A) : a.spent.top = a.top := by obtain ⟨_, e2, e3, e4, _, _⟩ := spent_eq a; unfold A.top; rw [e2, e3, e4]
theorem do_top (a : A) (c : Ch) : (a.do c).top ≤ a.top + 1 := by
  have h1 := c.on_len a.now
  unfold A.top A.do
  simp only [List.length_append, List.length_singleton]
  omega
theorem try_top {a : A} {k : A → A} {n : Nat} (hk : ∀ b, b.top = a.top → (k b).top ≤ n) (hn : a.top ≤ n) : (a.try k).2.top ≤ n := by
  unfold A.try
  split
  · exact hk _ (spent_top a)
  · show a.spent.top ≤ n; rw [spent_top]; exact hn
theorem create_top (a : A) (s : Bs) : (a.create s).2.top ≤ a.top + 1 := by
  unfold A.create
  split
  · simp
  · split
    · simp
    · split
      · simp
      · refine try_top (fun b hb => ?_) (by omega)
        have := do_top ({ b with files := b.files ++ [([], 0)] }) (.create s b.files.length)
        have e : ({ b with files := b.files ++ [([], 0)] } : A).top = b.top := rfl
        rw [e, hb] at this
        exact this
theorem append_top (a : A) (s : Bs) (l : List Nat) : (a.append s l).2.top = a.top := by
  unfold A.append
  split
  · split
    · rfl
    · split
      · rfl
      · unfold A.try; split
        · exact spent_top a
        · exact spent_top a
  · rfl
theorem sync_top (a : A) (s : Bs) : (a.sync s).2.top = a.top := by
  unfold A.sync
  split
  · unfold A.try; split
    · exact spent_top a
    · exact spent_top a
  · rfl
theorem remove_top (a : A) (s : Bs) : (a.remove s).2.top ≤ a.top + 1 := by
  unfold A.remove
  split
  · refine try_top (fun b hb => ?_) (by omega)
    have := do_top b (.remove s); omega
  · simp
theorem syncDir_top (a : A) : a.syncDir.2.top ≤ a.top := by
  unfold A.syncDir
  refine try_top (fun b hb => ?_) (by omega)
  unfold A.top at hb ⊢
  simp only [List.length_nil]
  omega
theorem crash_top (a : A) (zs : List Int) : (a.crash zs).top ≤ a.top := by
  have h := lastK_len a (pk zs % (a.wait.length + 1))
  have h3 := Nat.mod_lt (pk zs) (show 0 < a.wait.length + 1 by omega)
  show max (lastK a (pk zs % (a.wait.length + 1))).length ((lastK a (pk zs % (a.wait.length + 1))).length + 0) ≤ _
  unfold A.top
  omega
theorem arm_top (a : A) (n : Int) : (a.arm n).top = a.top := rfl
end Go.Proofs.YtadnecgcoceklaaGreatDoor

/-
  Are texts the same (Texts of the document's package)?
-/
namespace Go.Proofs.YtadnecgcoceklaaGreatDoor
open Go.RowKit Go.Maps

theorem StrsAt.at {w : World} {ad : Option Addr} {l : List ByteArray} (h : StrsAt w ad l) {k : Nat} (hk : k < l.length) : ∃ b off, ad = some ⟨b, off, none⟩ ∧ w.cell? ⟨b, off + k, none⟩ = some (.string l[k]) := by
  rcases h with h | ⟨b, off, he, _, hc⟩
  · subst h; simp at hk
  · exact ⟨b, off, he, hc k hk⟩
theorem StrsAt.drewN {w : World} {ad : Option Addr} {l : List ByteArray} (h : StrsAt w ad l) (n : Nat) : StrsAt (w.drewN n) ad l := (Stay.drewN (fun _ => True) w n).strs h (fun _ _ _ => trivial)
theorem str_ne {s t : ByteArray} : (s.toList != t.toList) = decide (s ≠ t) := by
  rw [bytes_ne]
  congr 1
  refine propext (not_congr ⟨fun h => ?_, fun h => by rw [h]⟩)
  apply ByteArray.ext
  exact Array.toList_inj.1 h

set_option maxRecDepth 100000 in
set_option maxHeartbeats 400000 in
theorem texts_any {w : World} {ad bd : Option Addr} {l m : List ByteArray} (hl : StrsAt w ad l) (hm : StrsAt w bd m) {ln mn : Nat} (el : l.length = ln) (em : m.length = mn) (c1 c2 : Nat) (h62 : ln < 4611686018427387904) :
    Calls Tryz.prog 22 #[.slice ad ln c1, .slice bd mn c2] w fun e w' => e = .returned (.bool (decide (l = m))) ∧ ∃ n, w' = w.drewN n := by
  have HL := Lib.hid hl
  have HM := Lib.hid hm
  have EL := Lib.hid el
  have EM := Lib.hid em
  by_cases hne : ln = mn
  · subst hne
    clear hl hm el em
    go_enter Tryz.func22, Tryz.ntmps22
    go_wp2_with fail
    go_loopw [5] (fun u wr => ∃ i n : Nat, u = .int .i64 i ∧ i ≤ ln ∧ wr = w.drewN n ∧ l.take i = m.take i) (fun u _ => ln - (intOf u).toNat)
    case atStart => exact ⟨0, 0, rfl, Nat.zero_le _, rfl, by simp⟩
    case round =>
      obtain ⟨i, n, rfl, hi, rfl, hpre⟩ := hrel
      by_cases hin : i < ln
      · have h1 : i < l.length := by rw [EL.out]; exact hin
        have h2 : i < m.length := by rw [EM.out]; exact hin
        obtain ⟨b1, o1, rfl, k1⟩ := HL.out.at h1
        obtain ⟨b2, o2, rfl, k2⟩ := HM.out.at h2
        have HP := Lib.hid hpre
        have hE : l.take (i + 1) = m.take (i + 1) ↔ l[i] = m[i] := by
          have e1 : l.take (i + 1) = l.take i ++ [l[i]] := by rw [List.take_add_one, List.getElem?_eq_getElem h1]; rfl
          have e2 : m.take (i + 1) = m.take i ++ [m[i]] := by rw [List.take_add_one, List.getElem?_eq_getElem h2]; rfl
          rw [e1, e2, hpre]
          exact ⟨fun h => (List.cons.inj (List.append_cancel_left h)).1, fun h => by rw [h]⟩
        have hS := @str_ne l[i] m[i]
        have HE := Lib.hid hE
        by_cases hsame : l[i] = m[i]
        · have HS := Lib.hid (hE.2 hsame)
          generalize l[i] = s1 at *
          generalize m[i] = s2 at *
          subst hsame
          rw [decide_eq_false (by simp)] at hS
          clear hpre hE HE
          go_wp2_with fail
          go_quiet (fail)
          go_wp2
          go_roundw
          case rel => exact ⟨i + 1, _, by go_num, by omega, rfl, HS.out⟩
          case measure => simp [intOf]; omega
        · have HF := Lib.hid (show l ≠ m from fun e => hsame (hE.1 (by rw [e])))
          generalize l[i] = s1 at *
          generalize m[i] = s2 at *
          rw [decide_eq_true hsame] at hS
          have hS2 : (s1.toList == s2.toList) = false := by simpa [bne] using hS
          clear hpre hE HE
          go_wp2_with fail
          go_quiet (fail)
          go_wp2
          go_ret
          exact ⟨by rw [decide_eq_false HF.out]; rfl, _, World.drewN_drewN ..⟩
      · obtain rfl : i = ln := by omega
        have HF := Lib.hid (show l = m from by
          have := hpre
          rw [List.take_of_length_le (by rw [EL.out]; exact Nat.le_refl _), List.take_of_length_le (by rw [EM.out]; exact Nat.le_refl _)] at this
          exact this)
        clear hpre
        go_wp2
        go_ret
        exact ⟨by rw [decide_eq_true HF.out]; rfl, _, rfl⟩
  · have hne2 : ((ln : Int) != (mn : Int)) = true := by simp; omega
    have HF := Lib.hid (show l ≠ m from fun e => by subst e; omega)
    clear hl hm el em
    go_enter Tryz.func22, Tryz.ntmps22
    go_wp2
    go_ret
    exact ⟨by rw [decide_eq_false HF.out]; rfl, 0, rfl⟩
end Go.Proofs.YtadnecgcoceklaaGreatDoor

/-
  files() of the laws: a synced file with a synced name stays, the rest is cut.
-/
namespace Go.Proofs.YtadnecgcoceklaaGreatDoor
open Go.RowKit Go.Maps

/-- Bytes that were laid anew are appended. -/
theorem fx_append_in {G : Nat → Prop} {w w2 : World} {pb : Nat} {a : A} (h : Fx G w pb a) (s : ByteArray) (ht : a.top < 1073741824) (hb : Below w.heap.size w w2) {bb off m c : Nat} {l : List Nat} (hl : Byt w2 (some ⟨bb, off, none⟩) l) (hbb : w.heap.size ≤ bb ∧ bb < w2.heap.size) (hm : l.length = m) (hx : ∀ x ∈ l, x < 256) (hmx : m ≤ 140737488351232) :
    Calls Tryz.prog 48 #[bp pb, .string s, .slice (some ⟨bb, off, none⟩) m c] w2 fun e w' => e = .returned (.int .i64 (a.append s.data.toList l).1) ∧ Fx G w' pb (a.append s.data.toList l).2 ∧ Stay G w w' := by
  refine (fx_append (h.grown hb) s ht hl hm hx (.inr hbb) hmx).mono ?_
  rintro e w' ⟨he, h1, h2⟩
  exact ⟨he, h1.mono (fun k hk => .inl hk), (Stay.of_below hb).trans (h2.mono (fun k hk => .inl hk))⟩
theorem byt_build (w : World) (l : List Nat) (mk : Nat × Nat) : Byt (w.alloc (.cells (u8s l).toArray 5 mk)) (some ⟨w.heap.size, 0, none⟩) l := by
  refine .inr ⟨w.heap.size, 0, rfl, by simp, fun i hi => ?_⟩
  rw [Nat.zero_add, cell_of_row _ _ _ _ _ _ (heap_alloc_new w _)]
  simp [u8s, hi]
theorem strs_build (w : World) (l : List ByteArray) : StrsAt (w.alloc (.cells (l.map Value.string).toArray 9)) (some ⟨w.heap.size, 0, none⟩) l := by
  refine .inr ⟨w.heap.size, 0, rfl, by simp, fun i hi => ?_⟩
  rw [Nat.zero_add, cell_of_row _ _ _ _ _ _ (heap_alloc_new w _)]
  simp [hi]
theorem fx_append_new {G : Nat → Prop} {w : World} {pb : Nat} {a : A} (h : Fx G w pb a) (s : ByteArray) (ht : a.top < 1073741824) (l : List Nat) {m c : Nat} (hm : l.length = m) (hx : ∀ x ∈ l, x < 256) (hmx : m ≤ 140737488351232) {o : Obj} (mk : Nat × Nat) (ho : o = .cells (u8s l).toArray 5 mk) :
    Calls Tryz.prog 48 #[bp pb, .string s, .slice (some ⟨w.heap.size, 0, none⟩) m c] (w.alloc o) fun e w' => e = .returned (.int .i64 (a.append s.data.toList l).1) ∧ Fx G w' pb (a.append s.data.toList l).2 ∧ Stay G w w' := by
  subst ho
  exact fx_append_in h s ht (bel1 w _) (byt_build w l mk) ⟨Nat.le_refl _, by simp⟩ hm hx hmx

theorem fxR {G : Nat → Prop} {f : FuncId} {args : Array Value} {w W : World} {pb : Nat} {r : Int × A} {z : Int} {a' : A} (h : Calls Tryz.prog f args W (FxAns G w pb r)) (h1 : r.1 = z) (h2 : r.2 = a') :
    Calls Tryz.prog f args W fun e w' => e = .returned (.int .i64 z) ∧ Fx G w' pb a' ∧ Stay G w w' := by
  refine h.mono ?_
  rintro e w' ⟨he, h3, h4⟩
  exact ⟨by rw [← h1]; exact he, by rw [← h2]; exact h3, h4⟩
theorem fxRd {G : Nat → Prop} {f : FuncId} {args : Array Value} {w W : World} {pb : Nat} {a : A} {l l' : List Nat} {E E' : Int} (h : Calls Tryz.prog f args W (FxRead G w pb a l E)) (h1 : l = l') (h2 : E = E') : Calls Tryz.prog f args W (FxRead G w pb a l' E') := by
  subst h1; subst h2; exact h
def nA : ByteArray := ⟨#[97]⟩
def f1 : A := ((A.new 1000).create [97]).2
def f2 : A := (f1.append [97] [120, 121]).2
def f3 : A := (f2.sync [97]).2
def f4 : A := f3.syncDir.2
def f5 : A := (f4.append [97] [122]).2
def f6 : A := (f5.create [98]).2
def f7 : A := f6.crash []
theorem ev1 : ((A.new 1000).create [97]).1 = 0 ∧ f1.top = 1 := by decide +kernel
theorem ev2 : (f1.append [97] [120, 121]).1 = 0 ∧ f2.top = 1 := by decide +kernel
theorem ev3 : (f2.sync [97]).1 = 0 ∧ f3.top = 1 := by decide +kernel
theorem ev4 : f3.syncDir.1 = 0 ∧ f4.top = 1 := by decide +kernel
theorem ev5 : (f4.append [97] [122]).1 = 0 ∧ f5.top = 1 := by decide +kernel
theorem ev6 : (f5.create [98]).1 = 0 ∧ f6.top = 2 := by decide +kernel
theorem ev7 : f7.top ≤ 2 ∧ f7.read [97] 0 9 = [120, 121] ∧ f7.readE [97] 0 9 = 0 ∧ f7.listE = 0 ∧ f7.list = [[97]] := by decide +kernel

end Go.Proofs.YtadnecgcoceklaaGreatDoor

/-
  Picks that are copied; texts as bytes; one file alone, as the laws use it.
-/
namespace Go.Proofs.YtadnecgcoceklaaGreatDoor
open Go.RowKit Go.Maps

theorem Tryz.info3 : (Tryz.prog.info? 3).map (fun i => (i.zero, i.size, i.bytes)) = some (some (.int .i64 0), 1, 8) := by kernel_rfl
def i64s (l : List Int) : List Value := l.map fun n : Int => Value.int .i64 n
theorem i64s_one (l : List Int) : ∀ u ∈ i64s l, u.oneCell' = true := by
  intro u hu; simp only [i64s, List.mem_map] at hu; obtain ⟨n, _, rfl⟩ := hu; rfl
/-- Picks that came in are copied. -/
theorem copy_picks {w : World} {ad : Option Addr} {n cap : Nat} {zs : List Int} (h : IsRow .i64 w ad n cap zs) (hs : cap * 8 ≤ 140737488351232) :
    ∃ ad2 cap2 w2, (Builtin.append_ #[44, 44] 44 #[.slice (some ⟨w.heap.size, 0, none⟩) 0 0, .slice ad n cap]).run Tryz.prog (w.alloc (.cells #[] 3)) = .ok (.slice ad2 n cap2) w2 ∧ Below w.heap.size w w2 ∧ PicksG (fun k => w.heap.size ≤ k ∧ k < w2.heap.size) w2 ad2 (zs.take n) ∧ (zs.take n).length = n := by
  rcases h with ⟨rfl, rfl, rfl, rfl⟩ | ⟨x, rfl, h1, h2, h3, h4, h5⟩
  · refine ⟨some ⟨w.heap.size, 0, none⟩, 0, w.alloc (.cells #[] 3), ?_, bel1 w _, ⟨.inl rfl, fun b off he => ?_, by decide⟩, rfl⟩
    · simp [Builtin.append_, run_underlying Tryz.underlying44, go_sem]
    · cases he; simp
  · obtain ⟨i0, hi0, hz0, hz1, hz2⟩ := info_parts Tryz.info3
    have hown : (w.alloc (.cells #[] 3)).ownsRow w.heap.size 3 1 (.slice (some ⟨w.heap.size, 0, none⟩) 0 0) 0 [] :=
      ⟨rfl, .inr ⟨w.heap.size, 0, #[], rfl, Nat.le_refl _, heap_alloc_new w _, Nat.le_refl _, by unfold maxLen; omega, rfl, rfl⟩⟩
    have hlen : (zs.take n).length = n := by rw [List.length_take]; omega
    have hwl := bel1 w (.cells #[] 3)
    obtain ⟨v', w', r1, r2, r3, _, r5⟩ := run_append_own_at (P := Tryz.prog) (w.alloc (.cells #[] 3)) w.heap.size 44 44 3 i0 (.int .i64 0) 1 8 Tryz.underlying44 hi0 hz0 hz1 hz2 rfl (by decide) (.slice (some ⟨w.heap.size, 0, none⟩) 0 0) 0 [] hown x n cap (i64s (zs.take n)) (by simp [i64s]; omega) (fun j u hu => by
        have hj : j < (zs.take n).length := by
          rcases Nat.lt_or_ge j (zs.take n).length with h | h
          · exact h
          · rw [List.getElem?_eq_none (by simpa [i64s] using h)] at hu; cases hu
        have hj2 : j < zs.length := by omega
        have hc := h4 j hj2
        have hlt := World.block_lt_of_cell? w _ hc
        have hblk : (x.add j).block = x.block := by unfold Addr.add; split <;> rfl
        rw [hwl.cell (p := x.add j) hlt, hc]
        have e : zs.getD j 0 = (zs.take n)[j] := by rw [List.getD_eq_getElem?_getD, List.getElem?_eq_getElem hj2]; simp
        rw [e]
        simp only [i64s, List.getElem?_map, List.getElem?_eq_getElem hj, Option.map_some, Option.some.injEq] at hu
        rw [hu]) (i64s_one _) (by unfold maxLen; omega) (by omega) (by simp)
    rw [Nat.zero_add, List.nil_append] at r2
    have hnew : ∀ k, v'.ownBlock = some k → w.heap.size ≤ k := fun k hk => by
      rcases r5 with e | e
      · rw [e] at hk; cases hk; exact Nat.le_refl _
      · rw [e] at hk; cases hk; simp
    obtain ⟨ad2, cap2, rfl, hc2, hcell⟩ := row_cellB r2
    refine ⟨ad2, cap2, w', r1, ⟨r3.os, r3.tape, r3.output, ?_, fun k hk => ?_⟩, ⟨?_, fun b off he => ?_, by omega⟩, hlen⟩
    · have := r3.size; simp at this; omega
    · rw [r3.block k (by simp; omega) (by simp [Value.ownBlock]; omega)]; exact hwl.block k hk
    · cases hz : zs.take n with
      | nil => exact .inl rfl
      | cons y r =>
        rw [hz] at hcell
        obtain ⟨gb, he, _, hlt, _⟩ := hcell 0 (.int .i64 y) rfl
        refine .inr ⟨gb, 0, he, fun i hi => ?_⟩
        obtain ⟨gb', he', _, _, h5⟩ := hcell i (.int .i64 ((y :: r)[i])) (by
          show (i64s (y :: r))[i]? = _
          unfold i64s
          rw [List.getElem?_map, List.getElem?_eq_getElem hi]; rfl)
        rw [he] at he'; cases he'
        rw [Nat.zero_add]; exact h5
    · subst he
      have hb := hnew b rfl
      rcases r2.2 with ⟨he, _⟩ | ⟨g, cap', cur, he, hB, hg, _⟩
      · cases he
      · cases he; exact ⟨hb, (Array.getElem?_eq_some_iff.1 hg).1⟩
theorem PicksG.mono {G G' : Nat → Prop} {w : World} {ad : Option Addr} {zs : List Int} (h : PicksG G w ad zs) (hG : ∀ k, G k → G' k) : PicksG G' w ad zs := ⟨h.1, fun b off he => hG b (h.2.1 b off he), h.2.2⟩
/-- A crash by picks that were copied. -/
theorem fx_crash_in {G : Nat → Prop} {w w2 : World} {pb : Nat} {a : A} (h : Fx G w pb a) (ht : a.top < 1073741824) (hb : Below w.heap.size w w2) {ad : Option Addr} {cap : Nat} {zs : List Int} (hp : PicksG (fun k => w.heap.size ≤ k ∧ k < w2.heap.size) w2 ad zs) {n : Nat} (hn : zs.length = n) :
    Calls Tryz.prog 26 #[bp pb, .slice ad n cap] w2 fun e w' => e = .returned (.tuple #[]) ∧ Fx G w' pb (a.crash zs) ∧ Stay G w w' := by
  refine (fx_crash (h.grown hb) ht (hp.mono (fun k hk => .inr hk)) hn).mono ?_
  rintro e w' ⟨he, h1, h2⟩
  exact ⟨he, h1.mono (fun k hk => .inl hk), (Stay.of_below hb).trans (h2.mono (fun k hk => .inl hk))⟩
/-- A text's bytes are appended. -/
theorem fx_append_text {G : Nat → Prop} {w : World} {pb : Nat} {a : A} (h : Fx G w pb a) (s : ByteArray) (ht : a.top < 1073741824) (t : ByteArray) (hmx : t.size ≤ 140737488351232) :
    ∃ cap w2, (convert 9 47 (.string t)).run Tryz.prog w = .ok (.slice (some ⟨w.heap.size, 0, none⟩) t.size cap) w2 ∧
      Calls Tryz.prog 48 #[bp pb, .string s, .slice (some ⟨w.heap.size, 0, none⟩) t.size cap] w2 fun e w' => e = .returned (.int .i64 (a.append s.data.toList (natsOf t)).1) ∧ Fx G w' pb (a.append s.data.toList (natsOf t)).2 ∧ Stay G w w' := by
  obtain ⟨cap, w2, hr, hc, hby, hb⟩ := conv_new w t w.heap.size rfl
  refine ⟨cap, w2, hr, fx_append_in h s ht hb hby ⟨Nat.le_refl _, ?_⟩ (natsOf_length t) (natsOf_byte t) hmx⟩
  have h1 := run_bytes_of_string (P := Tryz.prog) w 9 47 5 t Tryz.underlying9 Tryz.underlying47 Tryz.underlying5
  rw [hr] at h1
  injection h1 with _ h1
  rw [h1]; simp
theorem append_ok {a : A} {s : Bs} {l : List Nat} (h0 : a.findE s = 0) (h1 : (a.file (a.idx s)).1.length + l.length ≤ 1048576) (h2 : a.used + l.length ≤ a.room) (h3 : a.off = false) (h4 : a.armed = false) :
    a.append s l = (0, a.setFile (a.idx s) ((a.file (a.idx s)).1 ++ l, (a.file (a.idx s)).2)) := by
  have hE : a.spendE = 0 := by unfold A.spendE; rw [h3, h4]; rfl
  have hS : a.spent = a := by unfold A.spent; rw [h3, h4]; rfl
  unfold A.append A.try
  rw [if_pos h0, if_neg (by omega), if_neg (by omega), if_pos hE, hS]

/-- One file, 'a', alone. -/
def one (l : List Nat) (q : Nat) (wait : List Ch) (last : Dir) : A := ⟨1048576, [([97], 0)], last, wait, false, false, 0, [(l, q)]⟩
theorem one_new : (A.new 1048576).create [97] = (0, one [] 0 [.create [97] 0] []) := rfl
theorem one_used (l : List Nat) (q : Nat) (wt : List Ch) (ls : Dir) : (one l q wt ls).used = l.length := by
  show l.length + 0 = _; omega
theorem one_append {l s : List Nat} {q : Nat} {wt : List Ch} {ls : Dir} (h : l.length + s.length ≤ 1048576) : (one l q wt ls).append [97] s = (0, one (l ++ s) q wt ls) :=
  append_ok rfl h (by rw [one_used]; exact h) rfl rfl
theorem one_sync (l : List Nat) (q : Nat) (wt : List Ch) (ls : Dir) : (one l q wt ls).sync [97] = (0, one l l.length wt ls) := rfl
theorem one_syncDir (l : List Nat) (q : Nat) (wt : List Ch) (ls : Dir) : (one l q wt ls).syncDir = (0, one l q [] [([97], 0)]) := rfl
def cutL (f : Fil) (zs : List Int) : Fil := if f.2 < f.1.length then cutF f (pk zs) else f
theorem one_crash (l : List Nat) (q : Nat) (zs : List Int) : (one l q [] [([97], 0)]).crash zs = one (cutL (l, q) zs.tail).1 (cutL (l, q) zs.tail).2 [] [([97], 0)] := by
  have hN : (one l q [] [([97], 0)]).cutN (pk zs) = one l q [] [([97], 0)] := by
    unfold A.cutN
    show ({ one l q [] [([97], 0)] with now := (([] : List Ch).take _).foldl _ _, last := (([] : List Ch).take _).foldl _ _, wait := [] } : A) = _
    rw [List.take_nil]; rfl
  unfold A.crash
  rw [hN]
  show ({ one l q [] [([97], 0)] with files := cutAll [([97], 0)] [(l, q)] zs.tail, off := false, armed := false, left := 0 } : A) = _
  have : cutAll [([97], 0)] [(l, q)] zs.tail = [cutL (l, q) zs.tail] := by
    unfold cutAll cutL
    show (if q < l.length then _ else _) = [if q < l.length then _ else _]
    split <;> rfl
  rw [this]; rfl
theorem one_read {l : List Nat} {q : Nat} {wt : List Ch} {ls : Dir} (h : l.length ≤ 1048576) : (one l q wt ls).read [97] 0 1048576 = l ∧ (one l q wt ls).readE [97] 0 1048576 = 0 := by
  have h1 := readE_ok (a := one l q wt ls) (s := [97]) (x := 0) (n := 1048576) rfl (by
    show ¬ ((0 : Int) < 0 ∨ (1048576 : Int) < 0 ∨ (l.length : Int) < 0); omega) rfl
  refine ⟨?_, h1.1⟩
  rw [h1.2]
  show (l.drop 0).take 1048576 = l
  rw [List.drop_zero, List.take_of_length_le h]
theorem one_top (l : List Nat) (q : Nat) (wt : List Ch) (ls : Dir) : (one l q wt ls).top = max 1 (ls.length + wt.length) := rfl
/-- What a crash leaves of a file. -/
theorem cutL_spec {s m : List Nat} (zs : List Int) : ∃ b, cutL (s ++ m, s.length) zs = (b, b.length) ∧ s.length ≤ b.length ∧ b.length ≤ (s ++ m).length ∧ b.take s.length = s ∧
    (s.length < b.length → b.take (b.length - 1) = (s ++ m).take (b.length - 1) ∧ (b.getD (b.length - 1) 0 = (s ++ m).getD (b.length - 1) 0 ∨ b.getD (b.length - 1) 0 = (s ++ m).getD (b.length - 1) 0 ^^^ 85)) := by
  unfold cutL
  dsimp only
  split
  · rename_i hlt
    unfold cutF
    dsimp only
    generalize hp : pk zs = p
    have hm : p % ((s ++ m).length - s.length + 1) ≤ (s ++ m).length - s.length := by have := Nat.mod_lt p (show 0 < (s ++ m).length - s.length + 1 by omega); omega
    generalize p % ((s ++ m).length - s.length + 1) = k at hm
    have hL : ((s ++ m).take (s.length + k)).length = s.length + k := by rw [List.length_take]; omega
    have hpre : ((s ++ m).take (s.length + k)).take s.length = s := by
      rw [List.take_take, Nat.min_eq_left (by omega), List.take_left']; rfl
    split
    · rename_i hs
      refine ⟨_, by rw [List.length_set, hL], by rw [List.length_set, hL]; omega, by rw [List.length_set, hL]; omega, ?_, fun _ => ?_⟩
      · rw [List.take_set_of_le (by omega), hpre]
      · rw [List.length_set, hL]
        refine ⟨by rw [List.take_set_of_le (by omega), List.take_take, Nat.min_eq_left (by omega)], .inr ?_⟩
        rw [List.getD_eq_getElem?_getD, List.getElem?_set_self (by omega)]
        show ((s ++ m).take (s.length + k)).getD _ 0 ^^^ 85 = _
        rw [List.getD_eq_getElem?_getD, List.getElem?_take, if_pos (by omega), ← List.getD_eq_getElem?_getD]
    · refine ⟨_, by rw [hL], by rw [hL]; omega, by rw [hL]; omega, hpre, fun _ => ?_⟩
      rw [hL]
      refine ⟨by rw [List.take_take, Nat.min_eq_left (by omega)], .inl ?_⟩
      rw [List.getD_eq_getElem?_getD, List.getElem?_take, if_pos (by omega), ← List.getD_eq_getElem?_getD]
  · rename_i hlt
    have h0 : m = [] := by
      rw [List.length_append] at hlt
      exact List.length_eq_zero_iff.1 (by omega)
    subst h0
    rw [List.append_nil]
    exact ⟨s, rfl, Nat.le_refl _, Nat.le_refl _, List.take_length, fun h => absurd h (Nat.lt_irrefl _)⟩
theorem cutL_same (b : List Nat) (zs : List Int) : cutL (b, b.length) zs = (b, b.length) := if_neg (Nat.lt_irrefl _)
theorem fxQ {G : Nat → Prop} {f : FuncId} {args : Array Value} {w W : World} {pb : Nat} {r : Int × A} {z : Int} {a' : A} (h : Calls Tryz.prog f args W (FxAns G w pb r)) (h1 : r = (z, a')) :
    Calls Tryz.prog f args W fun e w' => e = .returned (.int .i64 z) ∧ Fx G w' pb a' ∧ Stay G w w' := fxR h (by rw [h1]) (by rw [h1])
/-- A beginning of bytes, as a text. -/
theorem conv_begin {w : World} {ad : Option Addr} {b : List Nat} (h : Byt w ad b) (hb : ∀ x ∈ b, x < 256) (hn : ad = none → b = []) (cap k : Nat) (hk : k ≤ b.length) :
    (convert 47 9 (.slice ad k cap)).run Tryz.prog w = .ok (.string (strOf (b.take k))) w := by
  refine conv_bytes (l := b.take k) ?_ (fun x hx => hb x (List.mem_of_mem_take hx)) (fun e => by rw [hn e]; exact List.take_nil) cap k (by rw [List.length_take]; omega)
  rcases h with h | ⟨bb, off, he, hlt, hc⟩
  · left; rw [h]; exact List.take_nil
  · refine .inr ⟨bb, off, he, hlt, fun i hi => ?_⟩
    have hi2 : i < b.length := by rw [List.length_take] at hi; omega
    rw [hc i hi2]; simp
end Go.Proofs.YtadnecgcoceklaaGreatDoor

