/-
  Two logs side by side, and rows of texts.
-/
import Derived.Test.YtadnecgcoceklaaGreatDoorWalKW
namespace Go.Proofs.YtadnecgcoceklaaGreatDoor
open Go.RowKit Go.Maps

section
variable {G G' : Nat → Prop} {B : Nat} {w w' w2 : World} {F F' F1 F1' F2 : Nat → Prop} {L : Rws} {v : Value} {ts : List ByteArray} {lb pb num num' lim lb2 pb2 num2 lim2 : Nat} {a a' a2 : A}
theorem Sep.other (h : Sep G B w F2 L) (h1 : Sep G B w F1 L) (hF : Foot B w F1) (hM : Moves F1 w F1' w') : Sep G B w' F2 L := by
  obtain ⟨k1, k2, _⟩ := h1.movedF hF hM
  exact ⟨⟨fun p hp => ⟨(k1.rows.ro p hp).1, (h.rows.ro p hp).2⟩, h.rows.pw⟩, k1.vb, k1.hB, h.gF, k1.gl, h.gR⟩
/-- Two logs and rows. -/
def K2 (G : Nat → Prop) (B : Nat) (w : World) (lb pb num lim : Nat) (a : A) (lb2 pb2 num2 lim2 : Nat) (a2 : A) (L : Rws) : Prop :=
  ∃ F1 F2, SL B w F1 lb pb num lim a ∧ SL B w F2 lb2 pb2 num2 lim2 a2 ∧ Dj F1 F2 ∧ Sep G B w F1 L ∧ Sep G B w F2 L
theorem K2.swap (h : K2 G B w lb pb num lim a lb2 pb2 num2 lim2 a2 L) : K2 G B w lb2 pb2 num2 lim2 a2 lb pb num lim a L := by
  obtain ⟨F1, F2, h1, h2, h3, h4, h5⟩ := h
  exact ⟨F2, F1, h2, h1, h3.symm, h5, h4⟩
theorem K2.one (h : K2 G B w lb pb num lim a lb2 pb2 num2 lim2 a2 L) : KW G B w lb pb num lim a L := by
  obtain ⟨F1, F2, h1, h2, h3, h4, h5⟩ := h
  exact ⟨F1, h1, h4⟩
theorem K2.below (h : K2 G B w lb pb num lim a lb2 pb2 num2 lim2 a2 L) (hb : Below w.heap.size w w') : K2 G B w' lb pb num lim a lb2 pb2 num2 lim2 a2 L := by
  obtain ⟨F1, F2, h1, h2, h3, h4, h5⟩ := h
  exact ⟨F1, F2, h1.moved (h4.below hb).vb (moves_of_below (F := fun _ => False) hb) (fun _ _ h => h), h2.moved (h4.below hb).vb (moves_of_below (F := fun _ => False) hb) (fun _ _ h => h), h3, h4.below hb, h5.below hb⟩
theorem K2.drewN (h : K2 G B w lb pb num lim a lb2 pb2 num2 lim2 a2 L) (n : Nat) : K2 G B (w.drewN n) lb pb num lim a lb2 pb2 num2 lim2 a2 L := h.below (below_drewN _ _ _)
theorem K2.own (h : K2 G B w lb pb num lim a lb2 pb2 num2 lim2 a2 L) (hb : Below w.heap.size w w') (hG : ∀ k, G' k → G k ∨ (w.heap.size ≤ k ∧ k < w'.heap.size)) : K2 G' B w' lb pb num lim a lb2 pb2 num2 lim2 a2 L := by
  obtain ⟨F1, F2, h1, h2, h3, h4, h5⟩ := h
  exact ⟨F1, F2, h1.moved (h4.below hb).vb (moves_of_below (F := fun _ => False) hb) (fun _ _ h => h), h2.moved (h4.below hb).vb (moves_of_below (F := fun _ => False) hb) (fun _ _ h => h), h3, h4.own h1.ft hb hG, h5.own h2.ft hb hG⟩
theorem K2.next {F1 F2 : Nat → Prop} (h1 : SL B w F1 lb pb num lim a) (h2 : SL B w F2 lb2 pb2 num2 lim2 a2) (h3 : Dj F1 F2) (h4 : Sep G B w F1 L) (h5 : Sep G B w F2 L) (hl : Lx (GF w F1) w' lb pb num' lim a') (hS : Stay (GF w F1) w w') :
    K2 G B w' lb pb num' lim a' lb2 pb2 num2 lim2 a2 L ∧ Below B w w' ∧ Stay G w w' := by
  obtain ⟨F', g1, g2, g3⟩ := h1.step h4.vb h4.hB hl hS
  obtain ⟨k1, k2⟩ := h4.movedF h1.ft g2
  exact ⟨⟨F', F2, g1, h2.moved k1.vb g2 h3.symm, h3.moves h2.ft g2, k1, h5.other h4 h1.ft g2⟩, k2⟩
theorem k2_app (h : K2 G B w lb pb num lim a lb2 pb2 num2 lim2 a2 L) (h1 : 1 ≤ num) (h2 : num ≤ 999999) (ht : a.top + 1 < 1073741824) (t : ByteArray) (hmx : t.size ≤ 4611686018427387904) (sync : Bool) {z : Int} (hz : wAppend a num lim (natsOf t) sync = (z, a', num')) :
    ∃ cap w2, (convert 9 47 (.string t)).run Tryz.prog w = .ok (.slice (some ⟨w.heap.size, 0, none⟩) t.size cap) w2 ∧ Below w.heap.size w w2 ∧
      Calls Tryz.prog 11 #[bp lb, .slice (some ⟨w.heap.size, 0, none⟩) t.size cap, .bool sync] w2 fun e w' => e = .returned (.int .i64 z) ∧ K2 G B w' lb pb num' lim a' lb2 pb2 num2 lim2 a2 L ∧ Below B w w' ∧ Stay G w w' := by
  obtain ⟨F1, F2, g1, g2, g3, g4, g5⟩ := h
  obtain ⟨cap, w2, c1, c2, c3⟩ := append_text g1.lx h1 h2 ht t hmx sync
  refine ⟨cap, w2, c1, c2, c3.mono ?_⟩
  rintro e w' ⟨he, hl, hS⟩
  rw [hz] at he hl
  exact ⟨he, K2.next g1 g2 g3 g4 g5 hl hS⟩
theorem k2_sync (h : K2 G B w lb pb num lim a lb2 pb2 num2 lim2 a2 L) (h1 : 1 ≤ num) (h2 : num ≤ 999999) {z : Int} (hz : a.sync (wnm num) = (z, a')) :
    Calls Tryz.prog 12 #[bp lb] w fun e w' => e = .returned (.int .i64 z) ∧ K2 G B w' lb pb num lim a' lb2 pb2 num2 lim2 a2 L ∧ Below B w w' ∧ Stay G w w' := by
  obtain ⟨F1, F2, g1, g2, g3, g4, g5⟩ := h
  refine (wSync_any g1.lx h1 h2).mono ?_
  rintro e w' ⟨he, hl, hS⟩
  rw [hz] at he hl
  exact ⟨he, K2.next g1 g2 g3 g4 g5 hl hS⟩
theorem K2.row1 (h : K2 G B w lb pb num lim a lb2 pb2 num2 lim2 a2 ((v, ts) :: L)) (s : ByteArray) (hl : ts.length ≤ 1000000000) :
    ∃ v' w2, (Builtin.append_ #[23, 23] 23 #[v, .slice (some ⟨w.heap.size, 0, none⟩) 1 1]).run Tryz.prog (w.alloc (.cells #[.string s] 9)) = .ok v' w2 ∧ K2 G B w2 lb pb num lim a lb2 pb2 num2 lim2 a2 ((v', ts ++ [s]) :: L) ∧ Below B w w2 ∧ Stay G w w2 := by
  obtain ⟨F1, F2, g1, g2, g3, g4, g5⟩ := h
  obtain ⟨r1, r2, r3, r4⟩ := g4.rows.cons_inv
  obtain ⟨q1, q2, _, _⟩ := g5.rows.cons_inv
  obtain ⟨v', w2, c1, c2, c3⟩ := r1.app1 g4.hB s hl
  obtain ⟨k1, k2⟩ := g4.head g1.ft c2 c3
  obtain ⟨m1, _⟩ := g5.head g2.ft c2 c3
  exact ⟨v', w2, c1, ⟨F1, F2, g1.moved k1.vb c3 r2.symm, g2.moved k1.vb c3 q2.symm, g3, k1, m1⟩, k2⟩
/-- Two directories. -/
def D2 (B : Nat) (w : World) (pb : Nat) (a : A) (pb2 : Nat) (a2 : A) : Prop := ∃ F1 F2, SF B w F1 pb a ∧ SF B w F2 pb2 a2 ∧ Dj F1 F2 ∧ VB B w ∧ B ≤ w.heap.size
/-- A second directory beside the first one. -/
theorem d2_made (h : KF (fun _ => False) B w pb a []) (n : Nat) (hn : n ≤ 1073741824) :
    Calls Tryz.prog 14 #[.int .i64 (n : Int)] w fun e w' => e = .returned (.tuple #[bp w.heap.size, .int .i64 0]) ∧ D2 B w' pb a w.heap.size (A.new n) ∧ Below w.heap.size w w' := by
  obtain ⟨F, h1, h2⟩ := h
  refine (fx_new (G := fun k => k < w.heap.size) w n hn (fun k hk => hk)).mono ?_
  rintro e w' ⟨he, hF, hb⟩
  refine ⟨he, ⟨F, fun k => w.heap.size ≤ k ∧ k < w'.heap.size, h1.moved (moves_of_below (F := fun _ => False) hb) (fun _ _ h => h), ⟨hF.mono fun k hk => ?_, fun k hk => ⟨by have := h2.hB; omega, hk.2⟩⟩, fun k hk hk2 => by have := (h1.ft k hk).2; omega, h2.vb.below (hb.mono h2.hB), Nat.le_trans h2.hB hb.size⟩, hb⟩
  have h1 := hk.1
  have h2 := hk.2
  show k < w.heap.size
  omega
/-- A log on the first directory. -/
def L2 (B : Nat) (w : World) (lb pb num lim : Nat) (a : A) (pb2 : Nat) (a2 : A) : Prop := ∃ F1 F2, SL B w F1 lb pb num lim a ∧ SF B w F2 pb2 a2 ∧ Dj F1 F2 ∧ VB B w ∧ B ≤ w.heap.size
theorem d2_new (h : D2 B w pb a pb2 a2) (n l : Int) (hn : -9223372036854775808 ≤ n ∧ n ≤ 9223372036854775807) (ht : a.top + 1 < 1073741824) (hz : wNewR a n l = (0, a')) {n' l' : Nat} (e1 : n.toNat = n') (e2 : l.toNat = l') :
    Calls Tryz.prog 16 #[bp pb, .int .i64 n, .int .i64 l] w fun e w' => ∃ lb, e = .returned (.tuple #[bp lb, .int .i64 0]) ∧ L2 B w' lb pb n' l' a' pb2 a2 ∧ Below B w w' := by
  obtain ⟨F1, F2, g1, g2, g3, g4, g5⟩ := h
  subst e1 e2
  refine (newQ (New_any g1.fx (g4.vg g1.ft) n l hn ht) hz).mono ?_
  rintro e w' ⟨lb, _, he, hl, hS⟩
  obtain ⟨F', k1, k2, k3⟩ := SL.made g1 g4 g5 hl hS
  have hb : Below B w w' := k2.below g5 fun k hk => (g1.ft k hk).1
  exact ⟨lb, he, ⟨F', F2, k1, g2.moved k2 g3.symm, g3.moves g2.ft k2, g4.below hb, Nat.le_trans g5 hb.size⟩, hb⟩
theorem l2_new (h : L2 B w lb pb num lim a pb2 a2) (n l : Int) (hn : -9223372036854775808 ≤ n ∧ n ≤ 9223372036854775807) (ht : a2.top + 1 < 1073741824) (hz : wNewR a2 n l = (0, a')) {n' l' : Nat} (e1 : n.toNat = n') (e2 : l.toNat = l') :
    Calls Tryz.prog 16 #[bp pb2, .int .i64 n, .int .i64 l] w fun e w' => ∃ lb2, e = .returned (.tuple #[bp lb2, .int .i64 0]) ∧ K2 (fun _ => False) B w' lb pb num lim a lb2 pb2 n' l' a' [] ∧ Below B w w' := by
  obtain ⟨F1, F2, g1, g2, g3, g4, g5⟩ := h
  subst e1 e2
  refine (newQ (New_any g2.fx (g4.vg g2.ft) n l hn ht) hz).mono ?_
  rintro e w' ⟨lb2, _, he, hl, hS⟩
  obtain ⟨F', k1, k2, k3⟩ := SL.made g2 g4 g5 hl hS
  have hb : Below B w w' := k2.below g5 fun k hk => (g2.ft k hk).1
  have hv := g4.below hb
  have hs : ∀ X, Sep (fun _ => False) B w' X [] := fun X => ⟨Rows'.nil, hv, Nat.le_trans g5 hb.size, (fun _ h _ => h), (fun _ h => h.elim), fun p hp => by cases hp⟩
  exact ⟨lb2, he, ⟨F1, F', g1.moved hv k2 g3, k1, (g3.symm.moves g1.ft k2).symm, hs _, hs _⟩, hb⟩
theorem K2.none (h : K2 G B w lb pb num lim a lb2 pb2 num2 lim2 a2 L) : K2 G B w lb pb num lim a lb2 pb2 num2 lim2 a2 ((.slice none 0 0, []) :: L) := by
  obtain ⟨F1, F2, h1, h2, h3, h4, h5⟩ := h
  exact ⟨F1, F2, h1, h2, h3, h4.none, h5.none⟩
theorem K2.lt (h : K2 G B w lb pb num lim a lb2 pb2 num2 lim2 a2 L) : lb < w.heap.size ∧ lb2 < w.heap.size := by
  obtain ⟨F1, F2, h1, h2, _⟩ := h
  exact ⟨h1.lx.lt, h2.lx.lt⟩
theorem KW.ok (h : KW G B w lb pb num lim a L) : a.Ok := by obtain ⟨F, h1, _⟩ := h; exact h1.lx.fx.ok
theorem kf_crash0 (h : KF G B w pb a L) (ht : a.top < 1073741824) :
    Calls Tryz.prog 26 #[bp pb, .slice none 0 0] w fun e w' => e = .returned (.tuple #[]) ∧ KF G B w' pb (a.crash []) L ∧ Below B w w' ∧ Stay G w w' := by
  obtain ⟨F, g1, g2⟩ := h
  refine (fx_crash (zs := []) (cap := 0) (n := 0) g1.fx ht ⟨.inl rfl, (fun _ _ h => by cases h), by decide⟩ rfl).mono ?_
  rintro e w' ⟨he, hl, hS⟩
  exact ⟨he, KF.next g1 g2 hl hS⟩
/-- List, on the first. -/
theorem kw_list (h : KW G B w lb pb num lim a L) (ht : a.top < 1073741824) {N : List Bs} (hN : a.list = N) (hE : a.listE = 0) {n : Nat} (hn : N.length = n) :
    Calls Tryz.prog 37 #[bp pb] w fun e w' => ∃ ad cap, e = .returned (.tuple #[.slice ad n cap, .int .i64 0]) ∧ StrsAt w' ad (N.map strB) ∧ (∀ b off, ad = some ⟨b, off, none⟩ → w.heap.size ≤ b ∧ b < w'.heap.size) ∧ Below w.heap.size w w' := by
  obtain ⟨F, g1, g2⟩ := h
  subst hN hn
  refine (fx_list g1.lx.fx ht).mono ?_
  rintro e w' ⟨ad, cap, he, h1, _, h3, h4, _⟩
  rw [hE] at he
  exact ⟨ad, cap, he, h1, h3, h4⟩
theorem kw_read (h : KW G B w lb pb num lim a L) (s : ByteArray) (x n : Int) {l : List Nat} (hl : a.read s.data.toList x n = l) (hE : a.readE s.data.toList x n = 0) {m : Nat} (hm : l.length = m) :
    Calls Tryz.prog 39 #[bp pb, .string s, .int .i64 x, .int .i64 n] w fun e w' => ∃ ad cap, e = .returned (.tuple #[.slice ad m cap, .int .i64 0]) ∧ Byt w' ad l ∧ (ad = none → l = []) ∧ Below w.heap.size w w' := by
  obtain ⟨F, g1, g2⟩ := h
  subst hl hm
  refine (fx_read g1.lx.fx s x n).mono ?_
  rintro e w' ⟨ad, cap, he, h1, h2, h3, h4, h5, _⟩
  rw [hE] at he
  exact ⟨ad, cap, he, h1, h2, h5⟩
/-- Replay: texts in new memory. -/
theorem kf_replay0 (h : KF G B w pb a L) (ht : a.top < 1073741824) (fr : Int) {R : List Rec} (hR : wRecs a (wNums a.list) fr = R) (hE : a.listE = 0) (hrc : R.length ≤ 1000000000) {n : Nat} (hn : R.length = n) :
    Calls Tryz.prog 8 #[bp pb, .int .i64 fr] w fun e w' => ∃ ad cap, e = .returned (.tuple #[.slice ad n cap, .int .i64 0]) ∧ StrsAt w' ad (R.map strOf) ∧ (∀ b off, ad = some ⟨b, off, none⟩ → w.heap.size ≤ b ∧ b < w'.heap.size) ∧ Below w.heap.size w w' := by
  obtain ⟨F, g1, g2⟩ := h
  subst hR hn
  refine (Replay_any g1.fx (g2.vb.vg g1.ft) ht fr hrc).mono ?_
  rintro e w' ⟨ad, cap, he, hrow, hb⟩
  rw [hE] at he
  exact ⟨ad, cap, he, strs_of_own' hrow, own_new hrow, hb⟩
theorem kf_drop (h : KF G B w pb a L) (ht : 2 * a.top < 1073741824) (bl : Int) {n : Nat} (hz : wDrop a bl = (0, a', n)) :
    Calls Tryz.prog 23 #[bp pb, .int .i64 bl] w fun e w' => e = .returned (.tuple #[.int .i64 (n : Int), .int .i64 0]) ∧ KF G B w' pb a' L ∧ Below B w w' ∧ Stay G w w' := by
  obtain ⟨F, g1, g2⟩ := h
  refine (Drop_any g1.fx (g2.vb.vg g1.ft) ht bl).mono ?_
  rintro e w' ⟨he, hl, hS⟩
  rw [hz] at he hl
  exact ⟨he, KF.next g1 g2 hl hS⟩
theorem kw_number (h : KW G B w lb pb num lim a L) : Calls Tryz.prog 13 #[bp lb] w fun e w' => e = .returned (.int .i64 (num : Int)) ∧ w = w' := by
  obtain ⟨F, g1, g2⟩ := h
  exact Number_any g1.lx
end
end Go.Proofs.YtadnecgcoceklaaGreatDoor
