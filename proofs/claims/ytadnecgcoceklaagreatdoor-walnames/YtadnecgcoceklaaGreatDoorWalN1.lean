/-
  What is told of a log's files; a log that is dropped from its beginning; a crash of what is synced.
-/
import Derived.Test.YtadnecgcoceklaaGreatDoorWalKA
namespace Go.Proofs.YtadnecgcoceklaaGreatDoor
open Go.RowKit FR.Frm

section
variable {a b : A} {lo n m : Nat} {ix : Nat → Nat} {fl gl : Nat → Fil} {R : Nat → List Rec} {cur : List Rec} {k t : Nat}
theorem WD.nums (h : WD a lo n ix fl) (ho : a.off = false) : wNums a.list = (List.range n).map fun p => lo + p := by
  unfold A.list
  rw [if_neg (by rw [ho]; simp), h.now]
  exact wDir_nums h.lo1 h.hi
theorem WD.readAt (h : WD a lo n ix fl) (ho : a.off = false) {p : Nat} (hp : p < n) (hb : (fl p).1.length ≤ 1048576) : a.readE (wnm (lo + p)) 0 1048576 = 0 ∧ a.read (wnm (lo + p)) 0 1048576 = (fl p).1 := by
  obtain ⟨e1, e2⟩ := h.find hp
  obtain ⟨r1, r2⟩ := readE_ok (a := a) (s := wnm (lo + p)) (x := 0) (n := 1048576) e1 (by omega) ho
  refine ⟨r1, ?_⟩
  rw [r2, e2, h.file p hp]
  show ((fl p).1.drop 0).take 1048576 = _
  rw [List.drop_zero, List.take_of_length_le hb]
theorem WD.recs (h : WD a lo n ix fl) (ho : a.off = false) (hb : ∀ p, p < n → (fl p).1.length ≤ 1048576) (fr : Int) :
    wRecs a (wNums a.list) fr = ((List.range n).filter fun p => decide (fr ≤ ((lo + p : Nat) : Int))).flatMap fun p => recsOf (fl p).1 := by
  unfold wRecs
  rw [h.nums ho, List.filter_map, List.flatMap_map]
  refine flatMap_congr' fun p hp => ?_
  have := List.mem_range.1 (List.mem_filter.1 hp).1
  rw [(h.readAt ho this (hb p this)).2]
theorem WD.recs_all (h : WD a lo n ix fl) (ho : a.off = false) (hb : ∀ p, p < n → (fl p).1.length ≤ 1048576) {fr : Int} (hfr : fr ≤ (lo : Int)) :
    wRecs a (wNums a.list) fr = (List.range n).flatMap fun p => recsOf (fl p).1 := by
  rw [h.recs ho hb]
  congr 1
  rw [List.filter_eq_self]
  intro p _
  simp; omega
theorem KI.told (h : KI a lo m ix fl R cur k) : ((List.range (m + 1)).flatMap fun p => recsOf (fl p).1) = toldB m R ++ cur := by
  rw [List.range_succ, List.flatMap_append]
  congr 1
  · exact flatMap_congr' fun p hp => (h.cl p (List.mem_range.1 hp)).2
  · simp [h.op.by_, recs_lay]
theorem WD.congr (h : WD a lo n ix fl) (e : ∀ p, p < n → gl p = fl p) : WD a lo n ix gl := ⟨h.lo1, h.hi, h.now, h.inj, h.lt, fun p hp => by rw [e p hp]; exact h.file p hp⟩
theorem crash_on (a : A) (zs : List Int) : On (a.crash zs) ∧ (a.crash zs).room = a.room ∧ (a.crash zs).last = (a.crash zs).now ∧ (a.crash zs).wait = [] := ⟨⟨rfl, rfl⟩, rfl, rfl, rfl⟩
/-- What was synced stays. -/
theorem KI.crash_full (h : KI a lo m ix fl R cur cur.length) (zs : List Int) : KI (a.crash zs) lo m ix fl R cur cur.length := by
  obtain ⟨K, hK, e1, e2, e3⟩ := crash_eq a zs
  have hK0 : K = 0 := by rw [h.wait] at hK; simpa using hK
  subst hK0
  have e0 : lastK a 0 = wDir lo (m + 1) ix := by
    show a.last = _
    rw [h.last, h.wd.now]
  rw [e0] at e1 e2
  obtain ⟨gl, hg, hq⟩ := h.wd.crash (Nat.le_refl _) e1 e2
  have hfull : (fl m).2 = (fl m).1.length := by
    have h1 := h.op.k1
    rw [endN_all, ← h.op.by_] at h1
    have := h.op.k2; omega
  have hgp : ∀ p, p < m + 1 → fl p = gl p := fun p hp => by
    obtain ⟨q, hq⟩ := hq p hp
    rw [hq, cutQ_done]
    by_cases e : p = m
    · subst e; exact hfull
    · exact (h.cl p (by omega)).1
  exact ⟨hg.congr hgp, rfl, rfl, h.cl, h.op, h.byt⟩
/-- The first file is removed. -/
theorem WD.remove (h : WD a lo (n + 1) ix fl) (ho : On a) : (a.remove (wnm lo)).1 = 0 ∧ On (a.remove (wnm lo)).2 ∧ WD (a.remove (wnm lo)).2 (lo + 1) n (fun p => ix (p + 1)) (fun p => fl (p + 1)) ∧ (a.remove (wnm lo)).2.room = a.room := by
  have hf := (h.find (p := 0) (by omega)).1
  rw [Nat.add_zero] at hf
  rw [remove_try hf]
  rcases pow_try a (fun a => a.do (.remove (wnm lo))) with ⟨h0, b, hb, e1, e2, e3, e4, e5, e6⟩ | ⟨_, hn, _⟩
  · refine ⟨h0, by rw [hb]; exact e6 ho, ?_, by rw [hb]; exact e5⟩
    rw [hb]
    have hb' := h.same (b := b) e1 e4
    have hh := h.hi
    refine ⟨by omega, by omega, ?_, fun p q hp hq e => ?_, fun p hp => hb'.lt (p + 1) (by omega), fun p hp => hb'.file (p + 1) (by omega)⟩
    · show Dir.del b.now (wnm lo) = _
      rw [hb'.now, wDir_del h.hi]
    · have := h.inj (p + 1) (q + 1) (by omega) (by omega) e; omega
  · exact absurd ho hn
theorem range_shift (lo n : Nat) : ((List.range (n + 1)).map fun p => lo + p) = lo :: (List.range n).map fun p => lo + 1 + p := by
  rw [List.range_succ_eq_map, List.map_cons, List.map_map]
  congr 1
  exact List.map_congr_left fun p _ => by simp; omega
theorem WD.dropL : ∀ {n lo : Nat} {a : A} {ix : Nat → Nat} {fl : Nat → Fil} (_ : WD a lo n ix fl) (_ : On a) (bl : Nat) (_ : lo ≤ bl) (_ : bl ≤ lo + n) (k : Nat),
    ∃ a', wDropL a ((List.range n).map fun p => lo + p) (bl : Int) k = (0, a', k + (bl - lo)) ∧ On a' ∧ WD a' bl (lo + n - bl) (fun p => ix (p + (bl - lo))) (fun p => fl (p + (bl - lo)))
  | 0, lo, a, ix, fl, h, ho, bl, h1, h2, k => by
    obtain rfl : bl = lo := by omega
    exact ⟨a, by simp [wDropL], ho, by simpa using h⟩
  | n + 1, lo, a, ix, fl, h, ho, bl, h1, h2, k => by
    rw [range_shift]
    unfold wDropL
    by_cases hb : (bl : Int) ≤ (lo : Int)
    · obtain rfl : bl = lo := by omega
      rw [if_pos hb]
      exact ⟨a, by simp, ho, by simpa using h⟩
    · rw [if_neg hb]
      obtain ⟨r1, r2, r3, _⟩ := h.remove ho
      rw [if_pos r1]
      obtain ⟨a', e1, e2, e3⟩ := WD.dropL r3 r2 bl (by omega) (by omega) (k + 1)
      refine ⟨a', by rw [e1]; congr 2; omega, e2, ?_⟩
      rw [show lo + 1 + n - bl = lo + (n + 1) - bl by omega] at e3
      have ec : ∀ p, p + (bl - (lo + 1)) + 1 = p + (bl - lo) := fun p => by omega
      simpa only [ec] using e3
theorem on_syncDir (h : On a) : a.syncDir.1 = 0 ∧ On a.syncDir.2 ∧ a.syncDir.2.now = a.now ∧ a.syncDir.2.files = a.files ∧ a.syncDir.2.room = a.room := by
  have e : a.syncDir = (0, { a with last := a.now, wait := [] }) := on_try h.1 h.2 _
  rw [e]; exact ⟨rfl, h, rfl, rfl, rfl⟩
/-- Drop, with the power on. -/
theorem WD.drop (h : WD a lo n ix fl) (ho : On a) {bl : Nat} (h1 : lo ≤ bl) (h2 : bl ≤ lo + n) :
    ∃ a', wDrop a (bl : Int) = (0, a', bl - lo) ∧ On a' ∧ WD a' bl (lo + n - bl) (fun p => ix (p + (bl - lo))) (fun p => fl (p + (bl - lo))) := by
  obtain ⟨a', e1, e2, e3⟩ := h.dropL ho bl h1 h2 0
  have hE : a.listE = 0 := by unfold A.listE; rw [if_neg (by rw [ho.1]; simp)]
  rw [Nat.zero_add] at e1
  unfold wDrop
  rw [if_pos hE, h.nums ho.1, e1]
  by_cases h0 : bl - lo = 0
  · refine ⟨a', ?_, e2, e3⟩
    simp [h0]
  · obtain ⟨s1, s2, s3, s4, _⟩ := on_syncDir e2
    refine ⟨a'.syncDir.2, ?_, s2, e3.same s3 s4⟩
    simp [h0, s1]
/-- A new log in an empty directory. -/
theorem KI.start (room lo : Nat) (h1 : 1 ≤ lo) (h2 : lo < 1000000) :
    (wBegin (A.new room) lo).1 = 0 ∧ On (wBegin (A.new room) lo).2 ∧ (wBegin (A.new room) lo).2.room = room ∧ ∃ ix fl, KI (wBegin (A.new room) lo).2 lo 0 ix fl (fun _ => []) [] 0 ∧ tot 1 fl = 0 ∧ fl 0 = ([], 0) := by
  have hw : WD (A.new room) lo 0 (fun _ => 0) (fun _ => ([], 0)) := ⟨h1, by omega, rfl, (fun p q hp => by omega), (fun p hp => by omega), fun p hp => by omega⟩
  have hon : On (A.new room) := ⟨rfl, rfl⟩
  rcases KI.begin (R := fun _ => []) hw rfl rfl (fun p hp => by omega) (by omega) (by omega) with ⟨g0, g1, g2, ix', fl', g3, g4, g5, _⟩ | ⟨_, hn, _⟩
  · rw [Nat.add_zero] at g0 g1 g2 g3
    exact ⟨g0, g1 hon, g2, ix', fl', g3, g4, g5⟩
  · exact absurd hon hn
end
end Go.Proofs.YtadnecgcoceklaaGreatDoor
