/-
  A log (or a directory alone) and rows of texts, kept apart: each call in that form.
-/
import Derived.Test.YtadnecgcoceklaaGreatDoorWalSL
import Derived.Test.YtadnecgcoceklaaGreatDoorMF
import Derived.Test.YtadnecgcoceklaaGreatDoorWalArg
namespace Go.Proofs.YtadnecgcoceklaaGreatDoor
open Go.RowKit Go.Maps

abbrev Rws := List (Value × List ByteArray)
/-- Rows of texts, apart from one another and from F. -/
structure Rows' (B : Nat) (w : World) (F : Nat → Prop) (L : Rws) : Prop where
  ro : ∀ p ∈ L, RO B w p.1 p.2 ∧ Dj (obf p.1) F
  pw : L.Pairwise fun p q => Dj (obf p.1) (obf q.1)
section
variable {B : Nat} {w w' w2 : World} {F F' : Nat → Prop} {L L' : Rws} {v v' g : Value} {ts ts' T : List ByteArray} {lb pb num num' lim : Nat} {a a' : A}
theorem Rows'.nil : Rows' B w F [] := ⟨(fun _ h => by cases h), List.Pairwise.nil⟩
theorem Rows'.movedF (h : Rows' B w F L) (hM : Moves F w F' w') : Rows' B w' F' L :=
  ⟨fun p hp => ⟨(h.ro p hp).1.moved hM (h.ro p hp).2, ((h.ro p hp).2.symm.moves (h.ro p hp).1.ft hM).symm⟩, h.pw⟩
theorem Rows'.below (h : Rows' B w F L) (hb : Below w.heap.size w w') : Rows' B w' F L := h.movedF (moves_of_below hb)
theorem Rows'.cons_inv (h : Rows' B w F ((v, ts) :: L)) : RO B w v ts ∧ Dj (obf v) F ∧ Rows' B w F L ∧ ∀ p ∈ L, Dj (obf v) (obf p.1) :=
  ⟨(h.ro (v, ts) (by simp)).1, (h.ro (v, ts) (by simp)).2, ⟨fun p hp => h.ro p (by simp [hp]), (List.pairwise_cons.1 h.pw).2⟩, (List.pairwise_cons.1 h.pw).1⟩
theorem Rows'.cons (h : Rows' B w F L) (h1 : RO B w v ts) (h2 : Dj (obf v) F) (h3 : ∀ p ∈ L, Dj (obf v) (obf p.1)) : Rows' B w F ((v, ts) :: L) :=
  ⟨fun p hp => by
    rcases List.mem_cons.1 hp with rfl | hp
    · exact ⟨h1, h2⟩
    · exact h.ro p hp, List.pairwise_cons.2 ⟨h3, h.pw⟩⟩
theorem Rows'.swap {u : Value} {us : List ByteArray} (h : Rows' B w F ((v, ts) :: (u, us) :: L)) : Rows' B w F ((u, us) :: (v, ts) :: L) := by
  obtain ⟨h1, h2, h3, h4⟩ := h.cons_inv
  obtain ⟨g1, g2, g3, g4⟩ := h3.cons_inv
  refine (g3.cons h1 h2 fun p hp => h4 p (by simp [hp])).cons g1 g2 fun p hp => ?_
  rcases List.mem_cons.1 hp with rfl | hp
  · exact (h4 (u, us) (by simp)).symm
  · exact g4 p hp
/-- The first row turns. -/
theorem Rows'.head (h : Rows' B w F ((v, ts) :: L)) (hF : Foot B w F) (h1 : RO B w2 v' ts') (hM : Moves (obf v) w (obf v') w2) : Rows' B w2 F ((v', ts') :: L) := by
  obtain ⟨g1, g2, g3, g4⟩ := h.cons_inv
  refine Rows'.cons ⟨fun p hp => ⟨(g3.ro p hp).1.moved hM (g4 p hp).symm, (g3.ro p hp).2⟩, g3.pw⟩ h1 ?_ fun p hp => ?_
  · exact g2.moves hF hM
  · exact (g4 p hp).moves (g3.ro p hp).1.ft hM
/-- A row that is nil. -/
theorem Rows'.none (h : Rows' B w F L) : Rows' B w F ((.slice none 0 0, []) :: L) := h.cons (RO.nil B w) (fun k hk _ => by cases hk) (fun p _ k hk _ => by cases hk)
/-- A new row, in new memory. -/
theorem Rows'.new (h : Rows' B w F L) (hF : Foot B w F) (hB : B ≤ w.heap.size) (hb : Below w.heap.size w w') (h1 : w'.ownsRow w.heap.size 9 1 g T.length (FR.strV T)) : Rows' B w' F ((g, T) :: L) := by
  have hlt := h1.lt
  refine (h.below hb).cons (RO.of (own_base h1 hB)) (fun k hk hf => ?_) (fun p hp k hk hf => ?_)
  · have := (hlt k hk).1; have := (hF k hf).2; omega
  · have := (hlt k hk).1; have := ((h.ro p hp).1.ft k hf).2; omega

/-- What stands beside a footprint F: rows of texts, and blocks G that are neither's. -/
structure Sep (G : Nat → Prop) (B : Nat) (w : World) (F : Nat → Prop) (L : Rws) : Prop where
  rows : Rows' B w F L
  vb : VB B w
  hB : B ≤ w.heap.size
  gF : Dj G F
  gl : ∀ k, G k → k < w.heap.size
  gR : ∀ p ∈ L, Dj G (obf p.1)
variable {G : Nat → Prop} {u : Value} {us : List ByteArray}
theorem djG (h : Dj G F) (hl : ∀ k, G k → k < w.heap.size) (hM : Moves F w F' w') : Dj G F' := fun k hk hf => by
  rcases hM.foot k hf with h1 | h1
  · exact h k hk h1
  · have := hl k hk; omega
theorem stayG (h : Dj G F) (hM : Moves F w F' w') : Stay G w w' := ⟨hM.os, hM.tape, hM.output, hM.size, fun k hk hg => hM.block k hk (h k hg)⟩
theorem Sep.movedF (h : Sep G B w F L) (hF : Foot B w F) (hM : Moves F w F' w') : Sep G B w' F' L ∧ Below B w w' ∧ Stay G w w' := by
  have hb : Below B w w' := hM.below h.hB fun k hk => (hF k hk).1
  exact ⟨⟨h.rows.movedF hM, h.vb.below hb, Nat.le_trans h.hB hb.size, djG h.gF h.gl hM, fun k hk => Nat.lt_of_lt_of_le (h.gl k hk) hb.size, h.gR⟩, hb, stayG h.gF hM⟩
theorem Sep.below (h : Sep G B w F L) (hb : Below w.heap.size w w') : Sep G B w' F L :=
  ⟨h.rows.below hb, h.vb.below (hb.mono h.hB), Nat.le_trans h.hB hb.size, h.gF, fun k hk => Nat.lt_of_lt_of_le (h.gl k hk) hb.size, h.gR⟩
theorem Sep.head (h : Sep G B w F ((v, ts) :: L)) (hF : Foot B w F) (h1 : RO B w2 v' ts') (hM : Moves (obf v) w (obf v') w2) : Sep G B w2 F ((v', ts') :: L) ∧ Below B w w2 ∧ Stay G w w2 := by
  obtain ⟨g1, g2, g3, g4⟩ := h.rows.cons_inv
  have hb : Below B w w2 := hM.below h.hB fun k hk => (g1.ft k hk).1
  have hg : Dj G (obf v) := h.gR (v, ts) (by simp)
  refine ⟨⟨h.rows.head hF h1 hM, h.vb.below hb, Nat.le_trans h.hB hb.size, h.gF, fun k hk => Nat.lt_of_lt_of_le (h.gl k hk) hb.size, fun p hp => ?_⟩, hb, stayG hg hM⟩
  rcases List.mem_cons.1 hp with rfl | hp
  · exact djG hg h.gl hM
  · exact h.gR p (by simp [hp])
theorem Sep.new (h : Sep G B w F L) (hF : Foot B w F) (hb : Below w.heap.size w w') (h1 : w'.ownsRow w.heap.size 9 1 g T.length (FR.strV T)) : Sep G B w' F ((g, T) :: L) := by
  have hlt := h1.lt
  refine ⟨h.rows.new hF h.hB hb h1, h.vb.below (hb.mono h.hB), Nat.le_trans h.hB hb.size, h.gF, fun k hk => Nat.lt_of_lt_of_le (h.gl k hk) hb.size, fun p hp => ?_⟩
  rcases List.mem_cons.1 hp with rfl | hp
  · intro k hk hf
    have := h.gl k hk; have := (hlt k hf).1; omega
  · exact h.gR p hp
theorem Sep.none (h : Sep G B w F L) : Sep G B w F ((.slice none 0 0, []) :: L) :=
  ⟨h.rows.none, h.vb, h.hB, h.gF, h.gl, fun p hp => by
    rcases List.mem_cons.1 hp with rfl | hp
    · intro k hk hf; cases hf
    · exact h.gR p hp⟩
theorem Sep.swap (h : Sep G B w F ((v, ts) :: (u, us) :: L)) : Sep G B w F ((u, us) :: (v, ts) :: L) :=
  ⟨h.rows.swap, h.vb, h.hB, h.gF, h.gl, fun p hp => h.gR p (by simp at hp ⊢; rcases hp with h | h | h <;> simp [h])⟩
theorem Sep.drop (h : Sep G B w F L) (hs : L'.Sublist L) : Sep G B w F L' :=
  ⟨⟨fun p hp => h.rows.ro p (hs.mem hp), h.rows.pw.sublist hs⟩, h.vb, h.hB, h.gF, h.gl, fun p hp => h.gR p (hs.mem hp)⟩
/-- New blocks, beside all. -/
theorem Sep.own (h : Sep G B w F L) (hF : Foot B w F) (hb : Below w.heap.size w w') {G' : Nat → Prop} (hG : ∀ k, G' k → G k ∨ (w.heap.size ≤ k ∧ k < w'.heap.size)) : Sep G' B w' F L := by
  have hh := h.below hb
  refine ⟨hh.rows, hh.vb, hh.hB, fun k hk hf => ?_, fun k hk => ?_, fun p hp k hk hf => ?_⟩
  · rcases hG k hk with h1 | h1
    · exact h.gF k h1 hf
    · have := (hF k hf).2; omega
  · rcases hG k hk with h1 | h1
    · exact hh.gl k h1
    · exact h1.2
  · rcases hG k hk with h1 | h1
    · exact h.gR p hp k h1 hf
    · have := ((h.rows.ro p hp).1.ft k hf).2; omega
/-- A log and rows. -/
def KW (G : Nat → Prop) (B : Nat) (w : World) (lb pb num lim : Nat) (a : A) (L : Rws) : Prop := ∃ F, SL B w F lb pb num lim a ∧ Sep G B w F L
/-- A directory and rows. -/
def KF (G : Nat → Prop) (B : Nat) (w : World) (pb : Nat) (a : A) (L : Rws) : Prop := ∃ F, SF B w F pb a ∧ Sep G B w F L
theorem KW.kf (h : KW G B w lb pb num lim a L) : KF G B w pb a L := by obtain ⟨F, h1, h2⟩ := h; exact ⟨F, h1.sf, h2⟩
theorem KW.lt (h : KW G B w lb pb num lim a L) : lb < w.heap.size := by obtain ⟨F, h1, _⟩ := h; exact h1.lx.lt
theorem KF.lt (h : KF G B w pb a L) : pb < w.heap.size := by obtain ⟨F, h1, _⟩ := h; exact h1.fx.lt
theorem KW.below (h : KW G B w lb pb num lim a L) (hb : Below w.heap.size w w') : KW G B w' lb pb num lim a L := by
  obtain ⟨F, h1, h2⟩ := h
  exact ⟨F, h1.moved (h2.below hb).vb (moves_of_below (F := fun _ => False) hb) (fun _ _ h => h), h2.below hb⟩
theorem KF.below (h : KF G B w pb a L) (hb : Below w.heap.size w w') : KF G B w' pb a L := by
  obtain ⟨F, h1, h2⟩ := h
  exact ⟨F, h1.moved (moves_of_below (F := fun _ => False) hb) (fun _ _ h => h), h2.below hb⟩
theorem KW.drewN (h : KW G B w lb pb num lim a L) (n : Nat) : KW G B (w.drewN n) lb pb num lim a L := h.below (below_drewN _ _ _)
theorem KF.drewN (h : KF G B w pb a L) (n : Nat) : KF G B (w.drewN n) pb a L := h.below (below_drewN _ _ _)
theorem KW.own (h : KW G B w lb pb num lim a L) (hb : Below w.heap.size w w') {G' : Nat → Prop} (hG : ∀ k, G' k → G k ∨ (w.heap.size ≤ k ∧ k < w'.heap.size)) : KW G' B w' lb pb num lim a L := by
  obtain ⟨F, h1, h2⟩ := h
  exact ⟨F, h1.moved (h2.below hb).vb (moves_of_below (F := fun _ => False) hb) (fun _ _ h => h), h2.own h1.ft hb hG⟩
theorem KW.free (h : KW G B w lb pb num lim a L) : KW (fun _ => False) B w lb pb num lim a L := by
  obtain ⟨F, h1, h2⟩ := h
  exact ⟨F, h1, ⟨h2.rows, h2.vb, h2.hB, (fun _ h _ => h), (fun _ h => h.elim), fun _ _ _ h _ => h⟩⟩
theorem KW.next {F : Nat → Prop} (h1 : SL B w F lb pb num lim a) (h2 : Sep G B w F L) (hl : Lx (GF w F) w' lb pb num' lim a') (hS : Stay (GF w F) w w') : KW G B w' lb pb num' lim a' L ∧ Below B w w' ∧ Stay G w w' := by
  obtain ⟨F', g1, g2, g3⟩ := h1.step h2.vb h2.hB hl hS
  obtain ⟨k1, k2⟩ := h2.movedF h1.ft g2
  exact ⟨⟨F', g1, k1⟩, k2⟩
theorem KF.next {F : Nat → Prop} (h1 : SF B w F pb a) (h2 : Sep G B w F L) (hl : Fx (GF w F) w' pb a') (hS : Stay (GF w F) w w') : KF G B w' pb a' L ∧ Below B w w' ∧ Stay G w w' := by
  obtain ⟨F', g1, g2, g3⟩ := h1.step h2.hB hl hS
  obtain ⟨k1, k2⟩ := h2.movedF h1.ft g2
  exact ⟨⟨F', g1, k1⟩, k2⟩
theorem kw_sync (h : KW G B w lb pb num lim a L) (h1 : 1 ≤ num) (h2 : num ≤ 999999) {z : Int} (hz : a.sync (wnm num) = (z, a')) :
    Calls Tryz.prog 12 #[bp lb] w fun e w' => e = .returned (.int .i64 z) ∧ KW G B w' lb pb num lim a' L ∧ Below B w w' ∧ Stay G w w' := by
  obtain ⟨F, g1, g2⟩ := h
  refine (wSync_any g1.lx h1 h2).mono ?_
  rintro e w' ⟨he, hl, hS⟩
  rw [hz] at he hl
  exact ⟨he, KW.next g1 g2 hl hS⟩
theorem kw_app (h : KW G B w lb pb num lim a L) (h1 : 1 ≤ num) (h2 : num ≤ 999999) (ht : a.top + 1 < 1073741824) (t : ByteArray) (hmx : t.size ≤ 4611686018427387904) (sync : Bool) {z : Int} (hz : wAppend a num lim (natsOf t) sync = (z, a', num')) :
    ∃ cap w2, (convert 9 47 (.string t)).run Tryz.prog w = .ok (.slice (some ⟨w.heap.size, 0, none⟩) t.size cap) w2 ∧ Below w.heap.size w w2 ∧
      Calls Tryz.prog 11 #[bp lb, .slice (some ⟨w.heap.size, 0, none⟩) t.size cap, .bool sync] w2 fun e w' => e = .returned (.int .i64 z) ∧ KW G B w' lb pb num' lim a' L ∧ Below B w w' ∧ Stay G w w' := by
  obtain ⟨F, g1, g2⟩ := h
  obtain ⟨cap, w2, c1, c2, c3⟩ := append_text g1.lx h1 h2 ht t hmx sync
  refine ⟨cap, w2, c1, c2, c3.mono ?_⟩
  rintro e w' ⟨he, hl, hS⟩
  rw [hz] at he hl
  exact ⟨he, KW.next g1 g2 hl hS⟩
theorem kw_arm (h : KW G B w lb pb num lim a L) (n : Int) (hn : -9223372036854775808 ≤ n ∧ n ≤ 9223372036854775807) :
    Calls Tryz.prog 25 #[bp pb, .int .i64 n] w fun e w' => e = .returned (.tuple #[]) ∧ KW G B w' lb pb num lim (a.arm n) L ∧ Below B w w' ∧ Stay G w w' := by
  obtain ⟨F, g1, g2⟩ := h
  refine (fx_arm g1.lx.fx n hn).mono ?_
  rintro e w' ⟨he, hl, hS⟩
  exact ⟨he, KW.next g1 g2 (g1.lx.next hl hS) (hS.mono fun k hk => .inl hk)⟩
theorem kf_crash (h : KF G B w pb a L) (ht : a.top < 1073741824) (hb : Below w.heap.size w w2) {ad : Option Addr} {cap : Nat} {zs : List Int} (hp : PicksG (fun k => w.heap.size ≤ k ∧ k < w2.heap.size) w2 ad zs) {n : Nat} (hn : zs.length = n) :
    Calls Tryz.prog 26 #[bp pb, .slice ad n cap] w2 fun e w' => e = .returned (.tuple #[]) ∧ KF G B w' pb (a.crash zs) L ∧ Below B w w' ∧ Stay G w w' := by
  obtain ⟨F, g1, g2⟩ := h
  refine (fx_crash_in g1.fx ht hb hp hn).mono ?_
  rintro e w' ⟨he, hl, hS⟩
  exact ⟨he, KF.next g1 g2 hl hS⟩
/-- Replay: a new row. -/
theorem kf_replay (h : KF G B w pb a L) (ht : a.top < 1073741824) (fr : Int) {R : List Rec} (hR : wRecs a (wNums a.list) fr = R) (hE : a.listE = 0) (hrc : R.length ≤ 1000000000) {n : Nat} (hn : R.length = n) :
    Calls Tryz.prog 8 #[bp pb, .int .i64 fr] w fun e w' => ∃ ad cap, e = .returned (.tuple #[.slice ad n cap, .int .i64 0]) ∧ KF G B w' pb a ((.slice ad n cap, R.map strOf) :: L) ∧ Below w.heap.size w w' := by
  obtain ⟨F, g1, g2⟩ := h
  subst hR hn
  refine (Replay_any g1.fx (g2.vb.vg g1.ft) ht fr hrc).mono ?_
  rintro e w' ⟨ad, cap, he, hrow, hb⟩
  rw [hE] at he
  exact ⟨ad, cap, he, ⟨F, g1.moved (moves_of_below (F := fun _ => False) hb) (fun _ _ h => h), g2.new g1.ft hb (by rw [List.length_map]; exact hrow)⟩, hb⟩
/-- Numbers: memory of its own. -/
theorem kf_numbers (h : KF G B w pb a L) (ht : a.top < 1073741824) {N : List Nat} (hN : wNums a.list = N) (hE : a.listE = 0) {n : Nat} (hn : N.length = n) :
    Calls Tryz.prog 31 #[bp pb] w fun e w' => ∃ ad cap, e = .returned (.tuple #[.slice ad n cap, .int .i64 0]) ∧ w'.ownsRow w.heap.size 3 1 (.slice ad n cap) n (i64s (natI N)) ∧ KF G B w' pb a L ∧ Below w.heap.size w w' := by
  have hk := h
  obtain ⟨F, g1, g2⟩ := h
  subst hN hn
  refine (Numbers_any g1.fx (g2.vb.vg g1.ft) ht).mono ?_
  rintro e w' ⟨ad, cap, he, hrow, hb⟩
  rw [hE] at he
  exact ⟨ad, cap, he, hrow, hk.below hb, hb⟩
/-- New, on a directory. -/
theorem kf_new (h : KF G B w pb a L) (n l : Int) (hn : -9223372036854775808 ≤ n ∧ n ≤ 9223372036854775807) (ht : a.top + 1 < 1073741824) (hz : wNewR a n l = (0, a')) {n' l' : Nat} (e1 : n.toNat = n') (e2 : l.toNat = l') :
    Calls Tryz.prog 16 #[bp pb, .int .i64 n, .int .i64 l] w fun e w' => ∃ lb, e = .returned (.tuple #[bp lb, .int .i64 0]) ∧ KW G B w' lb pb n' l' a' L ∧ Below B w w' ∧ Stay G w w' := by
  obtain ⟨F, g1, g2⟩ := h
  subst e1 e2
  refine (newQ (New_any g1.fx (g2.vb.vg g1.ft) n l hn ht) hz).mono ?_
  rintro e w' ⟨lb, _, he, hl, hS⟩
  obtain ⟨F', a1, a2, a3⟩ := SL.made g1 g2.vb g2.hB hl hS
  obtain ⟨k1, k2⟩ := g2.movedF g1.ft a2
  exact ⟨lb, he, ⟨F', a1, k1⟩, k2⟩
/-- A directory that is made. -/
theorem kf_made (hB : B ≤ w.heap.size) (hv : VB B w) (n : Nat) (hn : n ≤ 1073741824) :
    Calls Tryz.prog 14 #[.int .i64 (n : Int)] w fun e w' => e = .returned (.tuple #[bp w.heap.size, .int .i64 0]) ∧ KF (fun _ => False) B w' w.heap.size (A.new n) [] ∧ Below w.heap.size w w' := by
  refine (fx_new (G := fun k => k < w.heap.size) w n hn (fun k hk => hk)).mono ?_
  rintro e w' ⟨he, hF, hb⟩
  refine ⟨he, ⟨fun k => w.heap.size ≤ k ∧ k < w'.heap.size, ⟨hF.mono fun k hk => ?_, fun k hk => ⟨by omega, hk.2⟩⟩, ⟨Rows'.nil, hv.below (hb.mono hB), Nat.le_trans hB hb.size, (fun _ h _ => h), (fun _ h => h.elim), fun p hp => by cases hp⟩⟩, hb⟩
  have h1 := hk.1
  have h2 := hk.2
  show k < w.heap.size
  omega
/-- A text more in the first row. -/
theorem KW.row1 (h : KW G B w lb pb num lim a ((v, ts) :: L)) (s : ByteArray) (hl : ts.length ≤ 1000000000) :
    ∃ v' w2, (Builtin.append_ #[23, 23] 23 #[v, .slice (some ⟨w.heap.size, 0, none⟩) 1 1]).run Tryz.prog (w.alloc (.cells #[.string s] 9)) = .ok v' w2 ∧ KW G B w2 lb pb num lim a ((v', ts ++ [s]) :: L) ∧ Below B w w2 ∧ Stay G w w2 := by
  obtain ⟨F, g1, g2⟩ := h
  obtain ⟨r1, r2, r3, r4⟩ := g2.rows.cons_inv
  obtain ⟨v', w2, c1, c2, c3⟩ := r1.app1 g2.hB s hl
  obtain ⟨k1, k2⟩ := g2.head g1.ft c2 c3
  exact ⟨v', w2, c1, ⟨F, g1.moved k1.vb c3 r2.symm, k1⟩, k2⟩
/-- The second row's texts are appended to the first one; the second is nil then. -/
theorem KW.rowR (h : KW G B w lb pb num lim a ((v, ts) :: (u, us) :: L)) (hl : ts.length + us.length ≤ 1000000000) :
    ∃ v' w2, (Builtin.append_ #[23, 23] 23 #[v, u]).run Tryz.prog w = .ok v' w2 ∧ KW G B w2 lb pb num lim a ((v', ts ++ us) :: (.slice none 0 0, []) :: L) ∧ Below B w w2 ∧ Stay G w w2 := by
  obtain ⟨F, g1, g2⟩ := h
  obtain ⟨r1, r2, r3, r4⟩ := g2.rows.cons_inv
  obtain ⟨q1, q2, q3, q4⟩ := r3.cons_inv
  obtain ⟨v', w2, c1, c2, c3⟩ := r1.appR q1 g2.hB hl
  have hd := g2.drop (L' := (v, ts) :: L) (by exact (List.sublist_cons_self _ _).cons_cons _)
  obtain ⟨k1, k2⟩ := hd.head g1.ft c2 c3
  exact ⟨v', w2, c1, ⟨F, g1.moved k1.vb c3 r2.symm, k1.none.swap⟩, k2⟩
theorem KF.row (h : KF G B w pb a L) (hm : (u, us) ∈ L) : RO B w u us := by
  obtain ⟨F, g1, g2⟩ := h
  exact (g2.rows.ro _ hm).1
theorem KF.drop (h : KF G B w pb a L) (hs : L'.Sublist L) : KF G B w pb a L' := by
  obtain ⟨F, g1, g2⟩ := h
  exact ⟨F, g1, g2.drop hs⟩
theorem KW.drop (h : KW G B w lb pb num lim a L) (hs : L'.Sublist L) : KW G B w lb pb num lim a L' := by
  obtain ⟨F, g1, g2⟩ := h
  exact ⟨F, g1, g2.drop hs⟩
theorem KW.none (h : KW G B w lb pb num lim a L) : KW G B w lb pb num lim a ((.slice none 0 0, []) :: L) := by
  obtain ⟨F, g1, g2⟩ := h
  exact ⟨F, g1, g2.none⟩
theorem KW.swap (h : KW G B w lb pb num lim a ((v, ts) :: (u, us) :: L)) : KW G B w lb pb num lim a ((u, us) :: (v, ts) :: L) := by
  obtain ⟨F, g1, g2⟩ := h
  exact ⟨F, g1, g2.swap⟩
end
theorem strs_part0 {w : World} {ad : Option Addr} {cap : Nat} {l : List ByteArray} (h : StrsAt w ad l) : StrsAt w (part ad cap 0) l := by
  rcases h with h | ⟨b, off, e, hl, hc⟩
  · exact .inl h
  · subst e
    refine .inr ⟨b, off, ?_, hl, hc⟩
    unfold part; split
    · rfl
    · simp [addr_add]
theorem run_part_strs {w : World} {a : Option Addr} (len cap q : Nat) (hq : q ≤ cap) :
    (Instr.slice 23 (.slice a len cap) none (some (.int .i64 (q : Int))) none).run Tryz.prog w = .ok (.slice (part a cap 0) q cap) w := by
  have hel : Tryz.prog.elem 23 = 9 := by kernel_rfl
  rw [run_slice_h (P := Tryz.prog) w 23 a len cap (by rw [hel]; exact Tryz.underlying23) .i64 q (by omega) (by omega), hel]
  simp [go_sem, sliced, part]
/-- All texts of two rows in a new one. -/
theorem all_rows {B : Nat} {w : World} {v u : Value} {ts us : List ByteArray} (hv : RO B w v ts) (hu : RO B w u us) (hl : ts.length + us.length ≤ 1000000000) :
    ∃ v1 w1 ad cap w2, (Builtin.append_ #[23, 23] 23 #[.slice (some ⟨w.heap.size, 0, none⟩) 0 0, v]).run Tryz.prog (w.alloc (.cells #[] 9)) = .ok v1 w1 ∧
      (Builtin.append_ #[23, 23] 23 #[v1, u]).run Tryz.prog w1 = .ok (.slice ad (ts ++ us).length cap) w2 ∧ StrsAt w2 ad (ts ++ us) ∧ (ts ++ us).length ≤ cap ∧ Below w.heap.size w w2 := by
  have h0 : (w.alloc (.cells #[] 9)).ownsRow w.heap.size 9 1 (.slice (some ⟨w.heap.size, 0, none⟩) 0 0) 0 (FR.strV []) :=
    ⟨rfl, .inr ⟨w.heap.size, 0, #[], rfl, Nat.le_refl _, heap_alloc_new w _, Nat.le_refl _, Nat.zero_le _, rfl, rfl⟩⟩
  have r0 : RO w.heap.size (w.alloc (.cells #[] 9)) (.slice (some ⟨w.heap.size, 0, none⟩) 0 0) [] := ⟨_, _, rfl, h0⟩
  have hs : w.heap.size ≤ (w.alloc (.cells #[] 9)).heap.size := by simp
  -- rows of w, seen from the new world as rows from any base
  have up : ∀ {x : Value} {xs : List ByteArray} {w' : World}, RO B w x xs → Below w.heap.size w w' → RO 0 w' x xs := fun {x xs w'} hx hb => by
    obtain ⟨ad, cap, rfl, h1⟩ := hx
    exact ⟨ad, cap, rfl, own_base (own_keep h1 hb) (Nat.zero_le _)⟩
  obtain ⟨v1, w1, c1, c2, c3⟩ := appR0 r0 (up hv (bel1 w _)) hs (by simpa using (show ts.length ≤ 1000000000 by omega))
  have hb1 : Below w.heap.size w w1 := (bel1 w _).trans (c3.below hs fun k hk => (r0.ft k hk).1)
  rw [List.nil_append] at c2
  obtain ⟨v2, w2, d1, d2, d3⟩ := appR0 c2 (up hu hb1) hb1.size hl
  have hb2 : Below w.heap.size w w2 := hb1.trans (d3.below hb1.size fun k hk => (c2.ft k hk).1)
  obtain ⟨ad, cap, rfl, e1, e2, _⟩ := d2.strs
  exact ⟨v1, w1, ad, cap, w2, c1, d1, e1, e2, hb2⟩
end Go.Proofs.YtadnecgcoceklaaGreatDoor
