/-
  The calls of package fs as a law sees them: a directory that keeps off the law's own blocks.
-/
import Derived.Test.YtadnecgcoceklaaGreatDoorFsFsWJ
namespace Go.Proofs.YtadnecgcoceklaaGreatDoor
open Go.RowKit Go.Maps

/-- Blocks of G are as they were. -/
structure Stay (G : Nat → Prop) (w w' : World) : Prop where
  os : w'.os = w.os
  tape : w'.tape = w.tape
  output : w'.output = w.output
  size : w.heap.size ≤ w'.heap.size
  block : ∀ k, k < w.heap.size → G k → w'.heap[k]? = w.heap[k]?
theorem Stay.refl (G : Nat → Prop) (w : World) : Stay G w w := ⟨rfl, rfl, rfl, Nat.le_refl _, fun _ _ _ => rfl⟩
theorem Stay.trans {G : Nat → Prop} {w w1 w2 : World} (h : Stay G w w1) (k : Stay G w1 w2) : Stay G w w2 :=
  ⟨k.os.trans h.os, k.tape.trans h.tape, k.output.trans h.output, Nat.le_trans h.size k.size, fun b hb hG => (k.block b (Nat.lt_of_lt_of_le hb h.size) hG).trans (h.block b hb hG)⟩
theorem Stay.mono {G G' : Nat → Prop} {w w' : World} (h : Stay G w w') (hG : ∀ k, G' k → G k) : Stay G' w w' := ⟨h.os, h.tape, h.output, h.size, fun b hb hg => h.block b hb (hG b hg)⟩
theorem Stay.of_below {G : Nat → Prop} {w w' : World} (h : Below w.heap.size w w') : Stay G w w' := ⟨h.os, h.tape, h.output, h.size, fun b hb _ => h.block b hb⟩
theorem Stay.below {G : Nat → Prop} {B : Nat} {w w' : World} (h : Stay G w w') (hB : B ≤ w.heap.size) (hG : ∀ k, k < B → G k) : Below B w w' := ⟨h.os, h.tape, h.output, h.size, fun k hk => h.block k (by omega) (hG k hk)⟩
theorem Stay.drewN (G : Nat → Prop) (w : World) (n : Nat) : Stay G w (w.drewN n) := ⟨rfl, rfl, rfl, Nat.le_refl _, fun _ _ _ => rfl⟩
theorem Stay.alloc (G : Nat → Prop) (w : World) (o : Obj) : Stay G w (w.alloc o) := Stay.of_below (bel1 w o)
theorem Stay.byt {G : Nat → Prop} {w w' : World} (h : Stay G w w') {ad : Option Addr} {l : List Nat} (hb : Byt w ad l) (hG : ∀ b off, ad = some ⟨b, off, none⟩ → G b) : Byt w' ad l := by
  rcases hb with h0 | ⟨b, off, he, hlt, hc⟩
  · exact .inl h0
  · exact .inr ⟨b, off, he, Nat.lt_of_lt_of_le hlt h.size, fun i hi => (World.cell?_of_block (a := ⟨b, off + i, none⟩) (h.block b hlt (hG b off he))).trans (hc i hi)⟩

/-- The directory a lies at block pb, off the blocks of G. -/
def Fx (G : Nat → Prop) (w : World) (pb : Nat) (a : A) : Prop := (∃ F, FsAt w pb a F ∧ ∀ k, F k → ¬ G k) ∧ ∀ k, G k → k < w.heap.size
section
variable {G G' : Nat → Prop} {w w' : World} {pb : Nat} {a : A}
theorem Fx.lt (h : Fx G w pb a) : pb < w.heap.size := by obtain ⟨⟨F, h1, _⟩, _⟩ := h; exact h1.lt
theorem Fx.ok (h : Fx G w pb a) : a.Ok := by obtain ⟨⟨F, h1, _⟩, _⟩ := h; exact h1.1
theorem Fx.mono (h : Fx G w pb a) (hG : ∀ k, G' k → G k) : Fx G' w pb a := by
  obtain ⟨⟨F, h1, h2⟩, h3⟩ := h
  exact ⟨⟨F, h1, fun k hk hg => h2 k hk (hG k hg)⟩, fun k hk => h3 k (hG k hk)⟩
theorem Fx.below (h : Fx G w pb a) (hb : Below w.heap.size w w') : Fx G w' pb a := by
  obtain ⟨⟨F, h1, h2⟩, h3⟩ := h
  exact ⟨⟨F, h1.below hb, h2⟩, fun k hk => Nat.lt_of_lt_of_le (h3 k hk) hb.size⟩
/-- New blocks are the law's own. -/
theorem Fx.grown (h : Fx G w pb a) (hb : Below w.heap.size w w') : Fx (fun k => G k ∨ (w.heap.size ≤ k ∧ k < w'.heap.size)) w' pb a := by
  obtain ⟨⟨F, h1, h2⟩, h3⟩ := h
  exact ⟨⟨F, h1.below hb, fun k hk hg => by
    rcases hg with hg | hg
    · exact h2 k hk hg
    · have := h1.fl k hk; omega⟩, fun k hk => by
    rcases hk with hk | hk
    · exact Nat.lt_of_lt_of_le (h3 k hk) hb.size
    · exact hk.2⟩
theorem Fx.drewN (h : Fx G w pb a) (n : Nat) : Fx G (w.drewN n) pb a := h.below (below_drewN _ _ _)
/-- The law turns its own blocks. -/
theorem Fx.own (h : Fx G w pb a) (hs : w.heap.size = w'.heap.size) (hk : ∀ k, k < w.heap.size → ¬ G k → w'.heap[k]? = w.heap[k]?) : Fx G w' pb a := by
  obtain ⟨⟨F, h1, h2⟩, h3⟩ := h
  exact ⟨⟨F, h1.keep (fun k hF => hk k (h1.fl k hF) (h2 k hF)) (by omega), h2⟩, fun k hk => by rw [← hs]; exact h3 k hk⟩
theorem Fx.of_moves {F F' : Nat → Prop} (h3 : ∀ k, G k → k < w.heap.size) (h2 : ∀ k, F k → ¬ G k) {a' : A} (h1 : FsAt w' pb a' F') (hM : Moves F w F' w') : Fx G w' pb a' ∧ Stay G w w' :=
  ⟨⟨⟨F', h1, fun k hk hg => by
    rcases hM.foot k hk with h | h
    · exact h2 k h hg
    · have := h3 k hg; omega⟩, fun k hk => Nat.lt_of_lt_of_le (h3 k hk) hM.size⟩, ⟨hM.os, hM.tape, hM.output, hM.size, fun k hk hg => hM.block k hk (fun hF => h2 k hF hg)⟩⟩
def FxAns (G : Nat → Prop) (w : World) (pb : Nat) (r : Int × A) (e : Ending) (w' : World) : Prop := e = .returned (.int .i64 r.1) ∧ Fx G w' pb r.2 ∧ Stay G w w'
theorem FxAns.of {F : Nat → Prop} (h3 : ∀ k, G k → k < w.heap.size) (h2 : ∀ k, F k → ¬ G k) {r : Int × A} {e : Ending} (h : Ans w pb F r e w') : FxAns G w pb r e w' := by
  obtain ⟨he, F', h1, hM⟩ := h
  exact ⟨he, Fx.of_moves h3 h2 h1 hM⟩
theorem fx_create (h : Fx G w pb a) (s : ByteArray) (ht : a.top < 1073741824) : Calls Tryz.prog 28 #[bp pb, .string s] w (FxAns G w pb (a.create s.data.toList)) := by
  obtain ⟨⟨F, h1, h2⟩, h3⟩ := h
  exact (create_any h1 s ht).mono fun e w' hA => FxAns.of h3 h2 hA
theorem fx_remove (h : Fx G w pb a) (s : ByteArray) (ht : a.top < 1073741824) : Calls Tryz.prog 57 #[bp pb, .string s] w (FxAns G w pb (a.remove s.data.toList)) := by
  obtain ⟨⟨F, h1, h2⟩, h3⟩ := h
  exact (remove_any h1 s ht).mono fun e w' hA => FxAns.of h3 h2 hA
theorem fx_sync (h : Fx G w pb a) (s : ByteArray) : Calls Tryz.prog 49 #[bp pb, .string s] w (FxAns G w pb (a.sync s.data.toList)) := by
  obtain ⟨⟨F, h1, h2⟩, h3⟩ := h
  exact (sync_any h1 s).mono fun e w' hA => FxAns.of h3 h2 hA
theorem fx_syncDir (h : Fx G w pb a) : Calls Tryz.prog 58 #[bp pb] w (FxAns G w pb a.syncDir) := by
  obtain ⟨⟨F, h1, h2⟩, h3⟩ := h
  exact (syncDir_any h1).mono fun e w' hA => FxAns.of h3 h2 hA
theorem fx_append (h : Fx G w pb a) (s : ByteArray) (ht : a.top < 1073741824) {bb off m c : Nat} {l : List Nat} (hl : Byt w (some ⟨bb, off, none⟩) l) (hm : l.length = m) (hx : ∀ x ∈ l, x < 256) (hG : G bb) (hmx : m ≤ 140737488351232) :
    Calls Tryz.prog 48 #[bp pb, .string s, .slice (some ⟨bb, off, none⟩) m c] w (FxAns G w pb (a.append s.data.toList l)) := by
  obtain ⟨⟨F, h1, h2⟩, h3⟩ := h
  exact (append_any h1 s ht hl hm hx (fun hF => h2 bb hF hG) hmx).mono fun e w' hA => FxAns.of h3 h2 hA
theorem fx_arm (h : Fx G w pb a) (n : Int) (hn : -9223372036854775808 ≤ n ∧ n ≤ 9223372036854775807) : Calls Tryz.prog 25 #[bp pb, .int .i64 n] w fun e w' => e = .returned (.tuple #[]) ∧ Fx G w' pb (a.arm n) ∧ Stay G w w' := by
  obtain ⟨⟨F, h1, h2⟩, h3⟩ := h
  exact (arm_any h1 n hn).mono fun e w' hA => ⟨hA.1, Fx.of_moves h3 h2 hA.2.1 hA.2.2⟩
/-- Picks that lie in the law's own blocks. -/
def PicksG (G : Nat → Prop) (w : World) (ad : Option Addr) (zs : List Int) : Prop :=
  (zs = [] ∨ ∃ b off, ad = some ⟨b, off, none⟩ ∧ ∀ i (h : i < zs.length), w.cell? ⟨b, off + i, none⟩ = some (.int .i64 zs[i])) ∧ (∀ b off, ad = some ⟨b, off, none⟩ → G b) ∧ zs.length < 4611686018427387904
theorem fx_crash (h : Fx G w pb a) (ht : a.top < 1073741824) {ad : Option Addr} {cap : Nat} {zs : List Int} (hp : PicksG G w ad zs) {n : Nat} (hn : zs.length = n) :
    Calls Tryz.prog 26 #[bp pb, .slice ad n cap] w fun e w' => e = .returned (.tuple #[]) ∧ Fx G w' pb (a.crash zs) ∧ Stay G w w' := by
  obtain ⟨⟨F, h1, h2⟩, h3⟩ := h
  refine (crash_any h1 ht (ad := ad) (cap := cap) (zs := zs) ⟨hp.1, fun b off he => ⟨h3 b (hp.2.1 b off he), fun hF => h2 b hF (hp.2.1 b off he)⟩, hp.2.2⟩ hn).mono ?_
  rintro e w' ⟨he, F', h4, h5⟩
  exact ⟨he, Fx.of_moves h3 h2 h4 h5⟩
def FxRead (G : Nat → Prop) (w : World) (pb : Nat) (a : A) (l : List Nat) (E : Int) (e : Ending) (w' : World) : Prop :=
  ∃ ad cap, e = .returned (.tuple #[.slice ad l.length cap, .int .i64 E]) ∧ Byt w' ad l ∧ (ad = none → l = []) ∧ l.length ≤ cap ∧ (∀ b off, ad = some ⟨b, off, none⟩ → w.heap.size ≤ b ∧ b < w'.heap.size) ∧ Below w.heap.size w w' ∧ Fx (fun k => G k ∨ (w.heap.size ≤ k ∧ k < w'.heap.size)) w' pb a
theorem fx_read (h : Fx G w pb a) (s : ByteArray) (x n : Int) : Calls Tryz.prog 39 #[bp pb, .string s, .int .i64 x, .int .i64 n] w (FxRead G w pb a (a.read s.data.toList x n) (a.readE s.data.toList x n)) := by
  have hk := h
  obtain ⟨⟨F, h1, h2⟩, h3⟩ := h
  refine (read_any h1 s x n).mono ?_
  rintro e w' ⟨v, rfl, hrow, hb⟩
  obtain ⟨ad, cap, rfl, h4, h5, h6⟩ := byt_of_own hrow
  refine ⟨ad, cap, rfl, h4, h5, h6, fun b off he => ?_, hb, hk.grown hb⟩
  subst he
  rcases hrow.2 with ⟨he, h0⟩ | ⟨g, cap', cur, he, hB, hg, _⟩
  · cases he
  · cases he; exact ⟨hB, (Array.getElem?_eq_some_iff.1 hg).1⟩
theorem fx_size (h : Fx G w pb a) (s : ByteArray) : Calls Tryz.prog 45 #[bp pb, .string s] w fun e w' => e = .returned (.tuple #[.int .i64 (a.size s.data.toList : Int), .int .i64 (a.sizeE s.data.toList)]) ∧ w = w' := by
  obtain ⟨⟨F, h1, h2⟩, h3⟩ := h
  exact size_any h1 s
theorem fx_off (h : Fx G w pb a) : Calls Tryz.prog 34 #[bp pb] w fun e w' => e = .returned (.bool a.off) ∧ w = w' := by
  obtain ⟨⟨F, h1, h2⟩, h3⟩ := h
  exact off_any h1
theorem fx_used (h : Fx G w pb a) (ht : a.top < 1073741824) : Calls Tryz.prog 35 #[bp pb] w fun e w' => e = .returned (.int .i64 (a.used : Int)) ∧ Fx G w' pb a ∧ Below w.heap.size w w' := by
  have hk := h
  obtain ⟨⟨F, h1, h2⟩, h3⟩ := h
  exact (used_any h1 ht).mono fun e w' hA => ⟨hA.1, hk.below hA.2, hA.2⟩
/-- Texts that lie in memory. -/
def StrsAt (w : World) (ad : Option Addr) (l : List ByteArray) : Prop := l = [] ∨ ∃ b off, ad = some ⟨b, off, none⟩ ∧ b < w.heap.size ∧ ∀ i (_ : i < l.length), w.cell? ⟨b, off + i, none⟩ = some (.string l[i])
theorem Stay.strs (h : Stay G w w') {ad : Option Addr} {l : List ByteArray} (hb : StrsAt w ad l) (hG : ∀ b off, ad = some ⟨b, off, none⟩ → G b) : StrsAt w' ad l := by
  rcases hb with h0 | ⟨b, off, he, hlt, hc⟩
  · exact .inl h0
  · exact .inr ⟨b, off, he, Nat.lt_of_lt_of_le hlt h.size, fun i hi => (World.cell?_of_block (a := ⟨b, off + i, none⟩) (h.block b hlt (hG b off he))).trans (hc i hi)⟩
theorem fx_list (h : Fx G w pb a) (ht : a.top < 1073741824) : Calls Tryz.prog 37 #[bp pb] w fun e w' => ∃ ad cap, e = .returned (.tuple #[.slice ad a.list.length cap, .int .i64 a.listE]) ∧ StrsAt w' ad (a.list.map strB) ∧ a.list.length ≤ cap ∧ (∀ b off, ad = some ⟨b, off, none⟩ → w.heap.size ≤ b ∧ b < w'.heap.size) ∧ Below w.heap.size w w' ∧ Fx (fun k => G k ∨ (w.heap.size ≤ k ∧ k < w'.heap.size)) w' pb a := by
  have hk := h
  obtain ⟨⟨F, h1, h2⟩, h3⟩ := h
  refine (list_any h1 ht).mono ?_
  rintro e w' ⟨v, rfl, hrow, hb⟩
  obtain ⟨ad, cap, rfl, hcap, hc⟩ := row_cellB hrow
  refine ⟨ad, cap, rfl, ?_, hcap, fun b off he => ?_, hb, hk.grown hb⟩
  · cases hl : a.list with
    | nil => exact .inl rfl
    | cons x r =>
      rw [hl] at hc
      obtain ⟨gb, he, _, hlt, _⟩ := hc 0 (.string (strB x)) rfl
      refine .inr ⟨gb, 0, he, hlt, fun i hi => ?_⟩
      obtain ⟨gb', he', _, _, h5⟩ := hc i (.string (((x :: r).map strB)[i])) (by
        have hi' : i < (x :: r).length := by simpa using hi
        rw [List.getElem?_map, List.getElem?_eq_getElem hi', List.getElem_map]; rfl)
      rw [he] at he'; cases he'
      rw [Nat.zero_add]; exact h5
  · subst he
    rcases hrow.2 with ⟨he, h0⟩ | ⟨g, cap', cur, he, hB, hg, _⟩
    · cases he
    · cases he; exact ⟨hB, (Array.getElem?_eq_some_iff.1 hg).1⟩
theorem fx_new (w : World) (n : Nat) (hn : n ≤ 1073741824) (hG : ∀ k, G k → k < w.heap.size) :
    Calls Tryz.prog 14 #[.int .i64 (n : Int)] w fun e w' => e = .returned (.tuple #[bp w.heap.size, .int .i64 0]) ∧ Fx G w' w.heap.size (A.new n) ∧ Below w.heap.size w w' := by
  refine (new_ok n hn w).mono ?_
  rintro e w' ⟨he, h1, h2, _⟩
  exact ⟨he, ⟨⟨_, h1, fun k hk hg => by have := hG k hg; omega⟩, fun k hk => Nat.lt_of_lt_of_le (hG k hk) h2.size⟩, h2⟩
end
/-! How many names there may be. -/
theorem spent_top (a : A) : a.spent.top = a.top := by obtain ⟨_, e2, e3, e4, _, _⟩ := spent_eq a; unfold A.top; rw [e2, e3, e4]
theorem do_top (a : A) (c : Ch) : (a.do c).top ≤ a.top + 1 := by
  have h1 := c.on_len a.now
  unfold A.top A.do
  simp only [List.length_append, List.length_singleton]
  omega
theorem try_top {a : A} {k : A → A} {n : Nat} (hk : ∀ b, b.top = a.top → (k b).top ≤ n) (hn : a.top ≤ n) : (a.try k).2.top ≤ n := by
  unfold A.try
  split
  · exact hk _ (spent_top a)
  · show a.spent.top ≤ n; rw [spent_top]; exact hn
theorem create_top (a : A) (s : Bs) : (a.create s).2.top ≤ a.top + 1 := by
  unfold A.create
  split
  · simp
  · split
    · simp
    · split
      · simp
      · refine try_top (fun b hb => ?_) (by omega)
        have := do_top ({ b with files := b.files ++ [([], 0)] }) (.create s b.files.length)
        have e : ({ b with files := b.files ++ [([], 0)] } : A).top = b.top := rfl
        rw [e, hb] at this
        exact this
theorem append_top (a : A) (s : Bs) (l : List Nat) : (a.append s l).2.top = a.top := by
  unfold A.append
  split
  · split
    · rfl
    · split
      · rfl
      · unfold A.try; split
        · exact spent_top a
        · exact spent_top a
  · rfl
theorem sync_top (a : A) (s : Bs) : (a.sync s).2.top = a.top := by
  unfold A.sync
  split
  · unfold A.try; split
    · exact spent_top a
    · exact spent_top a
  · rfl
theorem remove_top (a : A) (s : Bs) : (a.remove s).2.top ≤ a.top + 1 := by
  unfold A.remove
  split
  · refine try_top (fun b hb => ?_) (by omega)
    have := do_top b (.remove s); omega
  · simp
theorem syncDir_top (a : A) : a.syncDir.2.top ≤ a.top := by
  unfold A.syncDir
  refine try_top (fun b hb => ?_) (by omega)
  unfold A.top at hb ⊢
  simp only [List.length_nil]
  omega
theorem crash_top (a : A) (zs : List Int) : (a.crash zs).top ≤ a.top := by
  have h := lastK_len a (pk zs % (a.wait.length + 1))
  have h3 := Nat.mod_lt (pk zs) (show 0 < a.wait.length + 1 by omega)
  show max (lastK a (pk zs % (a.wait.length + 1))).length ((lastK a (pk zs % (a.wait.length + 1))).length + 0) ≤ _
  unfold A.top
  omega
theorem arm_top (a : A) (n : Int) : (a.arm n).top = a.top := rfl
end Go.Proofs.YtadnecgcoceklaaGreatDoor

