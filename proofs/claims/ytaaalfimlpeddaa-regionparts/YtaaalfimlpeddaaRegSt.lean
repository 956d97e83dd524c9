/-
  A pool that came into being since some world, call by call.
-/
import Derived.Test.YtaaalfimlpeddaaRegPure
namespace Go.Proofs.Ytaaalfimlpeddaa
open Go.RowKit

/-- A handle in a block of its own. -/
def HAt (w : World) (B : Nat) (r g o l : Int) : Prop := w.heap[B]? = some (.cells #[.int .i64 r, .int .i64 g, .int .i64 o, .int .i64 l] 41 (0, 0))
section
variable {w w' : World} {B : Nat} {r g o l : Int}
theorem HAt.c0 (h : HAt w B r g o l) : w.cell? ⟨B, 0, none⟩ = some (.int .i64 r) := by unfold HAt at h; simp [World.cell?, h]
theorem HAt.c1 (h : HAt w B r g o l) : w.cell? ⟨B, 1, none⟩ = some (.int .i64 g) := by unfold HAt at h; simp [World.cell?, h]
theorem HAt.c2 (h : HAt w B r g o l) : w.cell? ⟨B, 2, none⟩ = some (.int .i64 o) := by unfold HAt at h; simp [World.cell?, h]
theorem HAt.c3 (h : HAt w B r g o l) : w.cell? ⟨B, 3, none⟩ = some (.int .i64 l) := by unfold HAt at h; simp [World.cell?, h]
theorem HAt.lt (h : HAt w B r g o l) : B < w.heap.size := (Array.getElem?_eq_some_iff.1 h).1
theorem HAt.new (w : World) (r g o l : Int) : HAt (w.alloc (.cells #[.int .i64 r, .int .i64 g, .int .i64 o, .int .i64 l] 41)) w.heap.size r g o l := heap_alloc_new w _
theorem HAt.alloc (h : HAt w B r g o l) (x : Obj) : HAt (w.alloc x) B r g o l := (Below.heap_alloc _ _ _ h.lt).trans h
theorem HAt.moves {F F' : Nat → Prop} (h : HAt w B r g o l) (hM : Moves F w F' w') (hF : ¬ F B) : HAt w' B r g o l := (hM.block B h.lt hF).trans h
theorem HAt.grew (h : HAt w B r g o l) (hM : Grew w w') : HAt w' B r g o l := (hM.block B h.lt).trans h
end
/-- A block that lies outside the footprint goes on lying there. -/
theorem Moves.out {F F' : Nat → Prop} {w w' : World} (hM : Moves F w F' w') {B : Nat} (hB : B < w.heap.size) (hF : ¬ F B) : ¬ F' B := fun h => (hM.foot B h).elim hF (fun h => by omega)
theorem PoolAt.outNew {w : World} {S : Ps} {F : Nat → Prop} (h : PoolAt w S F) : ¬ F w.heap.size := fun hf => by have := h.fl _ hf; omega

theorem ReadsB.one (_w : World) (x : Nat) (W : World) (B : Nat) (c : Nat) (h : W.heap[B]? = some (.cells #[.int .u8 x] 5 (0, 0))) : ReadsB W (.slice (some ⟨B, 0, none⟩) 1 c) [x] := by
  refine ⟨some ⟨B, 0, none⟩, c, rfl, fun _ => ⟨_, rfl, fun j u hu => ?_⟩⟩
  match j, hu with
  | 0, hu => simp [u8s] at hu; subst hu; simp [World.cell?, Addr.add, h]

/-- Some bytes are stored. -/
def Ps.stored (S : Ps) (a : Nat) (bs : List Nat) : Ps := { S with bt := putBt S.bt a bs }

/-- A pool that came into being since w0, and what holds of it. -/
structure St (w0 w : World) (S : Ps) (F : Nat → Prop) : Prop where
  at_ : PoolAt w S F
  ok : S.Ok
  mv : Moves (fun _ => False) w0 F w
section
variable {w0 w w' : World} {S : Ps} {F F' : Nat → Prop}
theorem St.alloc (h : St w0 w S F) (x : Obj) : St w0 (w.alloc x) S F := ⟨h.at_.alloc x, h.ok, h.mv.trans (Moves.alloc F w x)⟩
theorem St.grew (h : St w0 w S F) (hg : Grew w w') : St w0 w' S F := ⟨h.at_.grew hg, h.ok, h.mv.trans hg.moves⟩
theorem St.drew (h : St w0 w S F) : St w0 w.drew S F := ⟨h.at_.keep (fun _ _ => rfl) (Nat.le_refl _), h.ok, h.mv.trans (Moves.drew F w)⟩
theorem St.drewN (h : St w0 w S F) (n : Nat) : St w0 (w.drewN n) S F := ⟨h.at_.drewN n, h.ok, h.mv.trans (Moves.drewN F w n)⟩
/-- A store into new memory that isn't the pool's. -/
theorem St.setOut (h : St w0 w S F) {a : Addr} (ha : ¬ F a.block) (hb : w0.heap.size ≤ a.block) (v : Value) : St w0 (w.setCell a v) S F := ⟨h.at_.setOut ha v, h.ok, h.mv.setNew hb v⟩
theorem St.below (h : St w0 w S F) : Grew w0 w := ⟨h.mv.os, h.mv.tape, h.mv.output, h.mv.size, fun k hk => h.mv.block k hk (fun h => h)⟩

theorem St.new (w : World) (s n : Nat) (h1 : 64 ≤ s) (h2 : s ≤ 65536) (h3 : s % 8 = 0) (h4 : 1 ≤ n) (h5 : n ≤ 4096) (h6 : s * n ≤ 4194304) :
    Calls Try.prog 11 #[.int .i64 s, .int .i64 n] w fun e w' => ∃ pb bb tb F, e = .returned (.tuple #[.pointer (some ⟨pb, 0, none⟩), .int .i64 0]) ∧ St w w' (Ps.new s n pb bb tb) F ∧ ∀ k, F k → w.heap.size ≤ k := by
  refine (new_ok s n (s * n) w h1 h2 h3 h4 h5 rfl h6).mono ?_
  rintro e w' ⟨pb, bb, tb, rfl, hS, p1, p2, p3, hg⟩
  have hF : ∀ k, (k = pb ∨ k = bb ∨ k = tb) → w.heap.size ≤ k := fun k hk => by rcases hk with rfl | rfl | rfl <;> assumption
  exact ⟨pb, bb, tb, _, rfl, ⟨hS, Ps.Ok.new h1 h2 h6 h4 h5, ⟨hg.os, hg.tape, hg.output, hg.size, fun k hk _ => hg.block k hk, fun k hk => .inr (hF k hk)⟩⟩, hF⟩

theorem St.make (h : St w0 w S F) (hg : ∀ i, i < 256 → S.gen i < 4611686018427387904) {i : Nat} (hn : S.next = some i) :
    Calls Try.prog 7 #[.pointer (some ⟨S.pb, 0, none⟩)] w fun e w' => e = .returned (.tuple #[.int .i64 i, .int .i64 0]) ∧ St w0 w' (S.made i) F ∧ Moves F w F w' := by
  refine (make_any h.at_ hg).mono ?_
  intro e w' hp
  unfold MakeP at hp
  rw [hn] at hp
  obtain ⟨rfl, hS, hM⟩ := hp
  exact ⟨rfl, ⟨hS, h.ok.made hn, h.mv.trans hM⟩, hM⟩

theorem St.allocNew (h : St w0 w S F) {i n al : Nat} (hi : i < 256) (hlv : S.live i = true) (h1 : 1 ≤ n) (h2 : n ≤ S.size) (hal : alB al = true) (hfit : S.fits i n al = false) {j : Nat} (hid : S.idle = some j) :
    Calls Try.prog 16 #[.pointer (some ⟨S.pb, 0, none⟩), .int .i64 i, .int .i64 n, .int .i64 al] w fun e w' =>
      e = .returned (.tuple #[Hv i (S.gen i) ((S.sl i).length * S.size : Nat) n, .int .i64 0]) ∧ ∃ v F', St w0 w' ((S.handed i j v).filled i ((S.sl i).length * S.size + n)) F' ∧ Moves F w F' w' := by
  obtain ⟨hj, ht⟩ := S.idle_some hid
  refine (alloc_new h.at_ h.ok hi hlv h1 h2 hal hfit hid hj).mono ?_
  rintro e w' ⟨rfl, v, F', hS, hM⟩
  refine ⟨rfl, v, F', ⟨hS, (h.ok.handed hi hlv hj ht).filled ?_, h.mv.trans hM⟩, hM⟩
  have : ((S.handed i j v).sl i).length = (S.sl i).length + 1 := by simp [Ps.handed]
  rw [this, Nat.add_mul, Nat.one_mul]
  exact Nat.add_le_add_left h2 _

theorem St.allocFit (h : St w0 w S F) {i n al : Nat} (hi : i < 256) (hlv : S.live i = true) (h1 : 1 ≤ n) (h2 : n ≤ S.size) (hal : alB al = true) (hfit : S.fits i n al = true) :
    Calls Try.prog 16 #[.pointer (some ⟨S.pb, 0, none⟩), .int .i64 i, .int .i64 n, .int .i64 al] w fun e w' =>
      e = .returned (.tuple #[Hv i (S.gen i) (S.from i al) n, .int .i64 0]) ∧ St w0 w' (S.filled i (S.from i al + n)) F ∧ Moves F w F w' := by
  refine (alloc_fit h.at_ h.ok hi hlv h1 h2 hal hfit).mono ?_
  rintro e w' ⟨rfl, hS, hM⟩
  exact ⟨rfl, ⟨hS, h.ok.filled (fits_le h.ok hfit), h.mv.trans hM⟩, hM⟩

theorem St.store (h : St w0 w S F) {i o l at_ : Nat} {v : Value} {bs : List Nat} (hi : i < 256) (hlv : S.live i = true) (h1 : 1 ≤ l) (h2 : o + l ≤ S.fill i) (h3 : o % S.size + l ≤ S.size)
    (hv : ReadsB w v bs) (hb : ∀ x, x ∈ bs → x < 256) (hat : at_ + bs.length ≤ l) :
    Calls Try.prog 22 #[.pointer (some ⟨S.pb, 0, none⟩), Hv i (S.gen i) o l, .int .i64 at_, v] w fun e w' => e = .returned (.int .i64 0) ∧ St w0 w' (S.stored (S.addr i o + at_) bs) F ∧ Moves F w F w' := by
  refine (store_ok h.at_ h.ok hi hlv h1 h2 h3 hv hat).mono ?_
  rintro e w' ⟨rfl, hS, hM⟩
  exact ⟨rfl, ⟨hS, h.ok.stored _ hb, h.mv.trans hM⟩, hM⟩

theorem St.free (h : St w0 w S F) {i : Nat} (hi : i < 256) (hlv : S.live i = true) :
    Calls Try.prog 10 #[.pointer (some ⟨S.pb, 0, none⟩), .int .i64 i] w fun e w' => e = .returned (.int .i64 0) ∧ St w0 w' (S.freed i) F ∧ Moves F w F w' := by
  refine (free_ok h.at_ h.ok hi hlv).mono ?_
  rintro e w' ⟨rfl, hS, hM⟩
  exact ⟨rfl, ⟨hS, h.ok.freed hi, h.mv.trans hM⟩, hM⟩
end

end Go.Proofs.Ytaaalfimlpeddaa
