/-
  A directory of files as it lies in memory, within a footprint F; what keeps its parts there.
-/
import Derived.Test.YtadnecgcoceklaaGreatDoorFsFsDir
namespace Go.Proofs.YtadnecgcoceklaaGreatDoor
open Go.RowKit Go.Maps

def strB (s : Bs) : ByteArray := ⟨s.toArray⟩
theorem strB_data (s : ByteArray) : strB s.data.toList = s := by unfold strB; simp
theorem strB_list (s : Bs) : (strB s).data.toList = s := by unfold strB; simp
theorem strB_size (s : Bs) : (strB s).size = s.length := by show (s.toArray).size = _; simp
abbrev bp (b : Nat) : Value := .pointer (some ⟨b, 0, none⟩)
def cval (c : Ch) (x : Nat × Nat × Nat) : Value :=
  match c with
  | .create _ _ => .func (.func 72) #[] #[bp x.1, bp x.2.1]
  | .remove _ => .func (.func 89) #[] #[bp x.1]
def BoxAt (w : World) (F : Nat → Prop) (b : Nat) (v : Value) (t : TypeId) : Prop := w.heap[b]? = some (.cells #[v] t (0, 0)) ∧ F b
def ChAt (w : World) (F : Nat → Prop) (blk : Nat → Nat) (c : Ch) (x : Nat × Nat × Nat) : Prop :=
  match c with
  | .create n i => BoxAt w F x.1 (bp (blk i)) 103 ∧ BoxAt w F x.2.1 (.string (strB n)) 9
  | .remove n => BoxAt w F x.1 (.string (strB n)) 9

def kDir : Obj → Bool
  | .map _ _ => true
  | _ => false
def kWait : Obj → Bool
  | .cells _ t _ => t == 135 || t == 103 || t == 9
  | _ => false
def kBox : Obj → Bool
  | .cells _ t _ => t == 103 || t == 9
  | _ => false
def kFile : Obj → Bool
  | .cells _ t _ => t == 105 || t == 5
  | _ => false
/-- Blocks of some kind within F are as they were. -/
def Keeps (k : Obj → Bool) (F : Nat → Prop) (w w' : World) : Prop := ∀ b o, F b → w.heap[b]? = some o → k o = true → w'.heap[b]? = some o
theorem Keeps.refl (k : Obj → Bool) (F : Nat → Prop) (w : World) : Keeps k F w w := fun _ _ _ h _ => h
theorem Keeps.trans {k : Obj → Bool} {F : Nat → Prop} {w w1 w2 : World} (h : Keeps k F w w1) (h' : Keeps k F w1 w2) : Keeps k F w w2 := fun b o hb ho hk => h' b o hb (h b o hb ho hk) hk
theorem Keeps.touch {k : Obj → Bool} {F : Nat → Prop} {w w' : World} {b : Nat} {o : Obj} (h : Touch b w w') (ho : w.heap[b]? = some o) (hk : k o = false) : Keeps k F w w' := fun c x _ hc hx => by
  by_cases e : c = b
  · subst e; rw [ho] at hc; cases hc; rw [hk] at hx; cases hx
  · rw [h.block c e]; exact hc
theorem Keeps.sub {k k' : Obj → Bool} {F : Nat → Prop} {w w' : World} (h : Keeps k' F w w') (hs : ∀ o, k o = true → k' o = true) : Keeps k F w w' := fun b o hb ho hk => h b o hb ho (hs o hk)
theorem kBox_wait (o : Obj) (h : kBox o = true) : kWait o = true := by
  cases o <;> simp [kBox, kWait] at h ⊢
  rcases h with h | h <;> simp [h]
theorem Keeps.grown {k : Obj → Bool} {F : Nat → Prop} {w w' : World} {row : Option Nat} (h : w.grownBy w' row) (hr : ∀ c, row = some c → ∃ o, w.heap[c]? = some o ∧ k o = false) : Keeps k F w w' := fun b o _ ho hk => by
  have hlt : b < w.heap.size := (Array.getElem?_eq_some_iff.1 ho).1
  rw [h.block b hlt (fun e => by
    obtain ⟨o', h1, h2⟩ := hr b e.symm
    rw [ho] at h1; cases h1; rw [hk] at h2; cases h2)]
  exact ho
theorem Keeps.below {k : Obj → Bool} {F : Nat → Prop} {w w' : World} (h : Below w.heap.size w w') : Keeps k F w w' := fun b o _ ho _ => by
  have hlt : b < w.heap.size := (Array.getElem?_eq_some_iff.1 ho).1
  rw [h.block b hlt]; exact ho
theorem Keeps.moves {k : Obj → Bool} {F G G' : Nat → Prop} {w w' : World} (h : Moves G w G' w') (hd : ∀ b, F b → ¬ G b) : Keeps k F w w' := fun b o hb ho _ => by
  have hlt : b < w.heap.size := (Array.getElem?_eq_some_iff.1 ho).1
  rw [h.block b hlt (hd b hb)]; exact ho
theorem Keeps.alloc {k : Obj → Bool} {F : Nat → Prop} {w w' : World} (h : Keeps k F w w') (x : Obj) : Keeps k F w (w'.alloc x) := fun b o hb ho hk => by
  have h1 := h b o hb ho hk
  rw [Below.heap_alloc _ _ _ (Array.getElem?_eq_some_iff.1 h1).1]; exact h1

structure DirsAt (w : World) (F : Nat → Prop) (blk : Nat → Nat) (nm lm : Option Nat) (now last : Dir) : Prop where
  non : nm = none ↔ lm = none
  none_ : nm = none → now = [] ∧ last = []
  n : ∀ b, nm = some b → DirAt w b blk now ∧ F b
  l : ∀ b, lm = some b → DirAt w b blk last ∧ F b
  ne : ∀ b, nm = some b → lm ≠ some b
theorem DirAt.keeps {w w' : World} {F : Nat → Prop} {b : Nat} {blk : Nat → Nat} {d : Dir} (h : DirAt w b blk d) (hF : F b) (hk : Keeps kDir F w w') : DirAt w' b blk d := by
  obtain ⟨es, clock, h1, h2⟩ := h
  exact ⟨es, clock, hk b _ hF h1 rfl, h2⟩
theorem DirsAt.keeps {w w' : World} {F : Nat → Prop} {blk : Nat → Nat} {nm lm : Option Nat} {now last : Dir} (h : DirsAt w F blk nm lm now last) (hk : Keeps kDir F w w') : DirsAt w' F blk nm lm now last :=
  ⟨h.non, h.none_, fun b hb => ⟨(h.n b hb).1.keeps (h.n b hb).2 hk, (h.n b hb).2⟩, fun b hb => ⟨(h.l b hb).1.keeps (h.l b hb).2 hk, (h.l b hb).2⟩, h.ne⟩
theorem DirsAt.mono {w : World} {F F' : Nat → Prop} {blk : Nat → Nat} {nm lm : Option Nat} {now last : Dir} (h : DirsAt w F blk nm lm now last) (hF : ∀ k, F k → F' k) : DirsAt w F' blk nm lm now last :=
  ⟨h.non, h.none_, fun b hb => ⟨(h.n b hb).1, hF _ (h.n b hb).2⟩, fun b hb => ⟨(h.l b hb).1, hF _ (h.l b hb).2⟩, h.ne⟩

structure WaitAt (w : World) (F : Nat → Prop) (blk : Nat → Nat) (wv : Value) (wl : List (Ch × (Nat × Nat × Nat))) : Prop where
  row : w.ownsRow 0 135 1 wv wl.length (wl.map fun p => cval p.1 p.2)
  fr : ∀ k, wv.ownBlock = some k → F k
  ch : ∀ p ∈ wl, ChAt w F blk p.1 p.2
theorem row_keep {w w' : World} {e : TypeId} {v : Value} {n : Nat} {xs : List Value} (h : w.ownsRow 0 e 1 v n xs) (hk : ∀ k o, v.ownBlock = some k → w.heap[k]? = some o → (∃ cur, o = .cells cur e (0, 0)) → w'.heap[k]? = some o) : w'.ownsRow 0 e 1 v n xs := by
  refine ⟨h.1, ?_⟩
  rcases h.2 with h2 | ⟨g, cap, cur, h1, h2, h3, h4⟩
  · exact .inl h2
  · exact .inr ⟨g, cap, cur, h1, h2, hk g _ (by rw [h1]; rfl) h3 ⟨cur, rfl⟩, h4⟩
theorem BoxAt.keeps {w w' : World} {F : Nat → Prop} {b : Nat} {v : Value} {t : TypeId} (h : BoxAt w F b v t) (ht : (t == 103 || t == 9) = true) (hk : Keeps kBox F w w') : BoxAt w' F b v t := ⟨hk b _ h.2 h.1 ht, h.2⟩
theorem ChAt.keeps {w w' : World} {F : Nat → Prop} {blk : Nat → Nat} {c : Ch} {x : Nat × Nat × Nat} (h : ChAt w F blk c x) (hk : Keeps kBox F w w') : ChAt w' F blk c x := by
  cases c with
  | create n i => exact ⟨h.1.keeps rfl hk, h.2.keeps rfl hk⟩
  | remove n => exact BoxAt.keeps h rfl hk
theorem WaitAt.keeps {w w' : World} {F : Nat → Prop} {blk : Nat → Nat} {wv : Value} {wl : List (Ch × (Nat × Nat × Nat))} (h : WaitAt w F blk wv wl) (hk : Keeps kWait F w w') : WaitAt w' F blk wv wl :=
  ⟨row_keep h.row (fun k o hv ho hc => hk k o (h.fr k hv) ho (by obtain ⟨cur, rfl⟩ := hc; rfl)), h.fr, fun p hp => (h.ch p hp).keeps (hk.sub kBox_wait)⟩
theorem ChAt.mono {w : World} {F F' : Nat → Prop} {blk : Nat → Nat} {c : Ch} {x : Nat × Nat × Nat} (h : ChAt w F blk c x) (hF : ∀ k, F k → F' k) : ChAt w F' blk c x := by
  cases c with
  | create n i => exact ⟨⟨h.1.1, hF _ h.1.2⟩, ⟨h.2.1, hF _ h.2.2⟩⟩
  | remove n => exact ⟨h.1, hF _ h.2⟩
theorem WaitAt.mono {w : World} {F F' : Nat → Prop} {blk : Nat → Nat} {wv : Value} {wl : List (Ch × (Nat × Nat × Nat))} (h : WaitAt w F blk wv wl) (hF : ∀ k, F k → F' k) : WaitAt w F' blk wv wl :=
  ⟨h.row, fun k hk => hF k (h.fr k hk), fun p hp => (h.ch p hp).mono hF⟩

structure FilesAt (w : World) (F : Nat → Prop) (blk : Nat → Nat) (bv : Nat → Value) (fs : List Fil) : Prop where
  f : ∀ i, i < fs.length → w.heap[blk i]? = some (.cells #[bv i, .int .i64 ((fs.getD i ([], 0)).2 : Int)] 105 (0, 0)) ∧ F (blk i)
  r : ∀ i, i < fs.length → w.ownsRow 0 5 1 (bv i) (fs.getD i ([], 0)).1.length (u8s (fs.getD i ([], 0)).1) ∧ ∀ k, (bv i).ownBlock = some k → F k
  inj : ∀ i j, i < fs.length → j < fs.length → i ≠ j → blk i ≠ blk j
  sep : ∀ i j, i < fs.length → j < fs.length → i ≠ j → ∀ k, (bv i).ownBlock = some k → (bv j).ownBlock ≠ some k
theorem FilesAt.keeps {w w' : World} {F : Nat → Prop} {blk : Nat → Nat} {bv : Nat → Value} {fs : List Fil} (h : FilesAt w F blk bv fs) (hk : Keeps kFile F w w') : FilesAt w' F blk bv fs :=
  ⟨fun i hi => ⟨hk _ _ (h.f i hi).2 (h.f i hi).1 rfl, (h.f i hi).2⟩, fun i hi => ⟨row_keep (h.r i hi).1 (fun k o hv ho hc => hk k o ((h.r i hi).2 k hv) ho (by obtain ⟨cur, rfl⟩ := hc; rfl)), (h.r i hi).2⟩, h.inj, h.sep⟩
theorem FilesAt.mono {w : World} {F F' : Nat → Prop} {blk : Nat → Nat} {bv : Nat → Value} {fs : List Fil} (h : FilesAt w F blk bv fs) (hF : ∀ k, F k → F' k) : FilesAt w F' blk bv fs :=
  ⟨fun i hi => ⟨(h.f i hi).1, hF _ (h.f i hi).2⟩, fun i hi => ⟨(h.r i hi).1, fun k hk => hF _ ((h.r i hi).2 k hk)⟩, h.inj, h.sep⟩

structure Gh where
  nm : Option Nat
  lm : Option Nat
  wv : Value
  wl : List (Ch × (Nat × Nat × Nat))
  blk : Nat → Nat
  bv : Nat → Value

def pCells (a : A) (g : Gh) : Array Value := #[.int .i64 (a.room : Int), .map g.nm, .map g.lm, g.wv, .bool a.off, .bool a.armed, .int .i64 (a.left : Int)]
structure FsG (w : World) (g : Gh) (pb : Nat) (a : A) (F : Nat → Prop) : Prop where
  hP : w.heap[pb]? = some (.cells (pCells a g) 93 (0, 0))
  hD : DirsAt w F g.blk g.nm g.lm a.now a.last
  hW : WaitAt w F g.blk g.wv g.wl
  hw : g.wl.map (·.1) = a.wait
  hwn : g.nm = none → a.wait = []
  hF : FilesAt w F g.blk g.bv a.files
  fp : F pb
  fl : ∀ k, F k → k < w.heap.size

def Ch.ok (n : Nat) : Ch → Prop
  | .create s i => s.length ≤ 24 ∧ i < n
  | .remove s => s.length ≤ 24
structure A.Ok (a : A) : Prop where
  room : a.room ≤ 1073741824
  left : a.left ≤ 9223372036854775807
  fil : ∀ f ∈ a.files, f.1.length ≤ 1048576 ∧ f.2 ≤ f.1.length ∧ ∀ x ∈ f.1, x < 256
  now : ∀ p ∈ a.now, p.1.length ≤ 24 ∧ p.2 < a.files.length
  last : ∀ p ∈ a.last, p.1.length ≤ 24 ∧ p.2 < a.files.length
  wait : ∀ c ∈ a.wait, c.ok a.files.length
def A.top (a : A) : Nat := max a.now.length (a.last.length + a.wait.length)

/-- The directory a lies at block pb, within F. -/
def FsAt (w : World) (pb : Nat) (a : A) (F : Nat → Prop) : Prop := a.Ok ∧ ∃ g, FsG w g pb a F

section
variable {w w' : World} {g : Gh} {pb : Nat} {a : A} {F F' : Nat → Prop}
theorem FsG.lt (h : FsG w g pb a F) : pb < w.heap.size := h.fl _ h.fp
theorem FsG.cell (h : FsG w g pb a F) (i : Nat) (v : Value) (hi : (pCells a g)[i]? = some v) : w.cell? ⟨pb, i, none⟩ = some v := by
  rw [cell_of_row w pb i _ _ _ h.hP]; exact hi
theorem FsG.c0 (h : FsG w g pb a F) : w.cell? ⟨pb, 0, none⟩ = some (.int .i64 (a.room : Int)) := h.cell 0 _ rfl
theorem FsG.c1 (h : FsG w g pb a F) : w.cell? ⟨pb, 1, none⟩ = some (.map g.nm) := h.cell 1 _ rfl
theorem FsG.c2 (h : FsG w g pb a F) : w.cell? ⟨pb, 2, none⟩ = some (.map g.lm) := h.cell 2 _ rfl
theorem FsG.c3 (h : FsG w g pb a F) : w.cell? ⟨pb, 3, none⟩ = some g.wv := h.cell 3 _ rfl
theorem FsG.c4 (h : FsG w g pb a F) : w.cell? ⟨pb, 4, none⟩ = some (.bool a.off) := h.cell 4 _ rfl
theorem FsG.c5 (h : FsG w g pb a F) : w.cell? ⟨pb, 5, none⟩ = some (.bool a.armed) := h.cell 5 _ rfl
theorem FsG.c6 (h : FsG w g pb a F) : w.cell? ⟨pb, 6, none⟩ = some (.int .i64 (a.left : Int)) := h.cell 6 _ rfl
theorem FsG.fz (h : FsG w g pb a F) (i : Nat) : w.frozen? ⟨pb, i, none⟩ = false := by
  simp [World.frozen?, h.hP]
theorem FsG.keep (h : FsG w g pb a F) (hk : ∀ k, F k → w'.heap[k]? = w.heap[k]?) (hs : w.heap.size ≤ w'.heap.size) : FsG w' g pb a F := by
  have hK : ∀ k, Keeps k F w w' := fun _ b o hb ho _ => (hk b hb).trans ho
  exact ⟨(hk _ h.fp).trans h.hP, h.hD.keeps (hK _), h.hW.keeps (hK _), h.hw, h.hwn, h.hF.keeps (hK _), h.fp, fun k hF => Nat.lt_of_lt_of_le (h.fl k hF) hs⟩
theorem FsG.below (h : FsG w g pb a F) (hb : Below w.heap.size w w') : FsG w' g pb a F := h.keep (fun k hk => hb.block k (h.fl k hk)) hb.size
/-- The struct's own cells alone are turned. -/
theorem FsG.turnP (h : FsG w g pb a F) (ht : Touch pb w w') {a' : A} (hP : w'.heap[pb]? = some (.cells (pCells a' g) 93 (0, 0)))
    (e1 : a'.now = a.now) (e2 : a'.last = a.last) (e3 : a'.wait = a.wait) (e4 : a'.files = a.files) : FsG w' g pb a' F :=
  ⟨hP, by rw [e1, e2]; exact h.hD.keeps (Keeps.touch ht h.hP rfl), h.hW.keeps (Keeps.touch ht h.hP rfl), by rw [e3]; exact h.hw, by rw [e3]; exact h.hwn, by rw [e4]; exact h.hF.keeps (Keeps.touch ht h.hP rfl), h.fp, fun k hk => by rw [ht.size]; exact h.fl k hk⟩
theorem FsG.mono (h : FsG w g pb a F) (hF : ∀ k, F k → F' k) (hl : ∀ k, F' k → k < w.heap.size) : FsG w g pb a F' :=
  ⟨h.hP, h.hD.mono hF, h.hW.mono hF, h.hw, h.hwn, h.hF.mono hF, hF _ h.fp, hl⟩
theorem DirAt.blk {b : Nat} {blk : Nat → Nat} {d : Dir} (h : DirAt w b blk d) : ∃ es clock, w.heap[b]? = some (.map es clock) := by
  obtain ⟨es, clock, h1, _⟩ := h; exact ⟨es, clock, h1⟩
theorem FsG.ne_n (h : FsG w g pb a F) {b : Nat} (hb : g.nm = some b) : pb ≠ b := fun e => by
  obtain ⟨es, c, h1⟩ := (h.hD.n b hb).1.blk
  rw [← e, h.hP] at h1; cases h1
theorem FsG.ne_l (h : FsG w g pb a F) {b : Nat} (hb : g.lm = some b) : pb ≠ b := fun e => by
  obtain ⟨es, c, h1⟩ := (h.hD.l b hb).1.blk
  rw [← e, h.hP] at h1; cases h1
/-- The names are turned. -/
theorem FsG.didNow (h : FsG w g pb a F) {b : Nat} (hb : g.nm = some b) (ht : Touch b w w') {d : Dir} (hd : DirAt w' b g.blk d) : FsG w' g pb { a with now := d } F := by
  obtain ⟨es, c, h1⟩ := (h.hD.n b hb).1.blk
  have hne := h.hD.ne b hb
  refine ⟨(ht.block _ (h.ne_n hb)).trans h.hP, ⟨h.hD.non, fun e => (by rw [hb] at e; cases e), fun b' hb' => ?_, fun b' hb' => ?_, h.hD.ne⟩, h.hW.keeps (Keeps.touch ht h1 rfl), h.hw, h.hwn, h.hF.keeps (Keeps.touch ht h1 rfl), h.fp, fun k hk => by rw [ht.size]; exact h.fl k hk⟩
  · have : b = b' := by rw [hb] at hb'; exact Option.some.inj hb'
    subst this; exact ⟨hd, (h.hD.n b hb).2⟩
  · exact ⟨(h.hD.l b' hb').1.keep (ht.block b' (fun e => hne (by rw [hb', e]))), (h.hD.l b' hb').2⟩
/-- The names that last are turned. -/
theorem FsG.didLast (h : FsG w g pb a F) {b : Nat} (hb : g.lm = some b) (ht : Touch b w w') {d : Dir} (hd : DirAt w' b g.blk d) : FsG w' g pb { a with last := d } F := by
  obtain ⟨es, c, h1⟩ := (h.hD.l b hb).1.blk
  refine ⟨(ht.block _ (h.ne_l hb)).trans h.hP, ⟨h.hD.non, fun e => (by rw [h.hD.non, hb] at e; cases e), fun b' hb' => ?_, fun b' hb' => ?_, h.hD.ne⟩, h.hW.keeps (Keeps.touch ht h1 rfl), h.hw, h.hwn, h.hF.keeps (Keeps.touch ht h1 rfl), h.fp, fun k hk => by rw [ht.size]; exact h.fl k hk⟩
  · exact ⟨(h.hD.n b' hb').1.keep (ht.block b' (fun e => h.hD.ne b' hb' (by rw [hb, e]))), (h.hD.n b' hb').2⟩
  · have : b = b' := by rw [hb] at hb'; exact Option.some.inj hb'
    subst this; exact ⟨hd, (h.hD.l b hb).2⟩
theorem row_block {w : World} {e : TypeId} {v : Value} {n : Nat} {xs : List Value} (h : w.ownsRow 0 e 1 v n xs) {k : Nat} (hk : v.ownBlock = some k) : ∃ cur, w.heap[k]? = some (.cells cur e (0, 0)) := by
  rcases h.2 with ⟨rfl, _⟩ | ⟨g, cap, cur, rfl, _, h3, _⟩
  · cases hk
  · cases hk; exact ⟨cur, h3⟩
/-- One more change waits. -/
theorem FsG.waited (h : FsG w g pb a F) (hnm : g.nm ≠ none) {c : Ch} {x : Nat × Nat × Nat} (hc : ChAt w F g.blk c x) {v : Value} {w2 : World} (hg : w.grownBy w2 g.wv.ownBlock)
    (hr : w2.ownsRow 0 135 1 v (g.wl.length + 1) ((g.wl.map fun p => cval p.1 p.2) ++ [cval c x])) :
    FsG (w2.setCell ⟨pb, 3, none⟩ v) { g with wv := v, wl := g.wl ++ [(c, x)] } pb { a with wait := a.wait ++ [c] } (fun k => F k ∨ v.ownBlock = some k) := by
  have hK : ∀ kk, (∀ cur, kk (.cells cur 135 (0, 0)) = false) → Keeps kk F w w2 := fun kk hkk => Keeps.grown hg (fun k hk => by
    obtain ⟨cur, h1⟩ := row_block h.hW.row hk
    exact ⟨_, h1, hkk cur⟩)
  have hP2 : w2.heap[pb]? = some (.cells (pCells a g) 93 (0, 0)) := (hg.block pb h.lt (fun e => by
    obtain ⟨cur, h1⟩ := row_block h.hW.row e.symm
    rw [h.hP] at h1; cases h1)).trans h.hP
  have ht : Touch pb w2 (w2.setCell ⟨pb, 3, none⟩ v) := Touch.setCell (a := ⟨pb, 3, none⟩) v
  have hKt : ∀ kk, kk (.cells (pCells a g) 93 (0, 0)) = false → ∀ G, Keeps kk G w2 (w2.setCell ⟨pb, 3, none⟩ v) := fun kk h1 G => Keeps.touch ht hP2 h1
  refine ⟨by rw [Go.Joins.block_setCell hP2 v]; rfl, ((h.hD.keeps (hK kDir (fun _ => rfl))).keeps (hKt kDir rfl _)).mono (fun k hk => .inl hk), ⟨?_, fun k hk => .inr hk, fun p hp => ?_⟩, by simp [h.hw], fun e => absurd e hnm, ((h.hF.keeps (hK kFile (fun _ => rfl))).keeps (hKt kFile rfl _)).mono (fun k hk => .inl hk), .inl h.fp, fun k hk => ?_⟩
  · have := row_keep hr (w' := w2.setCell ⟨pb, 3, none⟩ v) (fun k o hv ho hcur => by
      rw [ht.block k (fun e => by
        obtain ⟨cur, rfl⟩ := hcur
        rw [e, hP2] at ho; cases ho)]; exact ho)
    simpa using this
  · rcases List.mem_append.1 hp with hp | hp
    · exact (((h.hW.ch p hp).keeps (hK kBox (fun _ => rfl))).keeps (hKt kBox rfl _)).mono (fun k hk => .inl hk)
    · simp at hp; subst hp
      exact ((hc.keeps (hK kBox (fun _ => rfl))).keeps (hKt kBox rfl _)).mono (fun k hk => .inl hk)
  · rw [ht.size]
    rcases hk with hk | hk
    · exact Nat.lt_of_lt_of_le (h.fl k hk) hg.size
    · obtain ⟨cur, h1⟩ := row_block hr hk
      exact (Array.getElem?_eq_some_iff.1 h1).1
theorem FsAt.keep (h : FsAt w pb a F) (hk : ∀ k, F k → w'.heap[k]? = w.heap[k]?) (hs : w.heap.size ≤ w'.heap.size) : FsAt w' pb a F := by
  obtain ⟨ho, g, hg⟩ := h; exact ⟨ho, g, hg.keep hk hs⟩
theorem FsAt.below (h : FsAt w pb a F) (hb : Below w.heap.size w w') : FsAt w' pb a F := by
  obtain ⟨ho, g, hg⟩ := h; exact ⟨ho, g, hg.below hb⟩
theorem FsAt.fl (h : FsAt w pb a F) : ∀ k, F k → k < w.heap.size := h.2.choose_spec.fl
theorem FsAt.fp (h : FsAt w pb a F) : F pb := h.2.choose_spec.fp
theorem FsAt.lt (h : FsAt w pb a F) : pb < w.heap.size := h.fl _ h.fp
theorem FsAt.moves (h : FsAt w pb a F) {G G' : Nat → Prop} (hM : Moves G w G' w') (hd : ∀ k, F k → ¬ G k) : FsAt w' pb a F := h.keep (fun k hk => hM.block k (h.fl k hk) (hd k hk)) hM.size
end
end Go.Proofs.YtadnecgcoceklaaGreatDoor

