/-
  The files of a log in a directory: names one behind the other, each with a file of its own; each call on them.
-/
import Derived.Test.YtadnecgcoceklaaGreatDoorWalPure
import Derived.Test.YtadnecgcoceklaaGreatDoorFsFsZ6
import Derived.Test.YtadnecgcoceklaaGreatDoorFsFsZ1
namespace Go.Proofs.YtadnecgcoceklaaGreatDoor
open Go.RowKit

/-- The names lo, lo + 1 .. (so many) and their files. -/
def wDir (lo n : Nat) (ix : Nat → Nat) : Dir := (List.range n).map fun p => (wnm (lo + p), ix p)
theorem wDir_succ (lo n : Nat) (ix : Nat → Nat) : wDir lo (n + 1) ix = wDir lo n ix ++ [(wnm (lo + n), ix n)] := by
  unfold wDir; rw [List.range_succ, List.map_append]; rfl
theorem wDir_congr {lo n : Nat} {ix jx : Nat → Nat} (h : ∀ p, p < n → ix p = jx p) : wDir lo n ix = wDir lo n jx := by
  unfold wDir
  exact List.map_congr_left fun p hp => by rw [h p (List.mem_range.1 hp)]
theorem wDir_length (lo n : Nat) (ix : Nat → Nat) : (wDir lo n ix).length = n := by unfold wDir; simp
theorem wDir_cons (lo n : Nat) (ix : Nat → Nat) : wDir lo (n + 1) ix = (wnm lo, ix 0) :: wDir (lo + 1) n (fun p => ix (p + 1)) := by
  unfold wDir
  rw [List.range_succ_eq_map, List.map_cons, List.map_map]
  simp only [Nat.add_zero, List.cons.injEq, true_and]
  exact List.map_congr_left fun p _ => by simp; rw [Nat.add_assoc, Nat.add_comm 1]
theorem look_app {d e : Dir} {k : Bs} : Dir.look (d ++ e) k = (Dir.look d k).or (Dir.look e k) := by
  unfold Dir.look
  rw [List.find?_append]
  cases List.find? (fun p => p.1 == k) d <;> rfl
theorem wDir_look {lo n : Nat} {ix : Nat → Nat} (h : lo + n ≤ 1000000) {p : Nat} (hp : p < n) : Dir.look (wDir lo n ix) (wnm (lo + p)) = some (ix p) := by
  induction n with
  | zero => omega
  | succ n ih =>
    rw [wDir_succ, look_app]
    by_cases e : p = n
    · subst e
      have hno : Dir.look (wDir lo p ix) (wnm (lo + p)) = none := by
        unfold Dir.look
        rw [List.find?_eq_none.2]
        · rfl
        · intro x hx
          unfold wDir at hx
          obtain ⟨q, hq, rfl⟩ := List.mem_map.1 hx
          have := List.mem_range.1 hq
          simp only [beq_iff_eq]
          intro e
          have := wnm_inj (by omega) (by omega) e
          omega
      rw [hno]
      simp [Dir.look]
    · rw [ih (by omega) (by omega)]; rfl
theorem wDir_none {lo n m : Nat} {ix : Nat → Nat} (h : lo + n ≤ 1000000) (hm : m < 1000000) (hn : m < lo ∨ lo + n ≤ m) : Dir.look (wDir lo n ix) (wnm m) = none := by
  unfold Dir.look
  rw [List.find?_eq_none.2]
  · rfl
  · intro x hx
    unfold wDir at hx
    obtain ⟨q, hq, rfl⟩ := List.mem_map.1 hx
    have := List.mem_range.1 hq
    simp only [beq_iff_eq]
    intro e
    have := wnm_inj (by omega) hm e
    omega
theorem ins_last {d : Dir} {k : Bs} {i : Nat} (h : ∀ x ∈ d, bytesBefore k x.1 = false) : Dir.ins (k, i) d = d ++ [(k, i)] := by
  induction d with
  | nil => rfl
  | cons y r ih =>
    unfold Dir.ins
    rw [if_neg (by rw [h y (by simp)]; simp), ih (fun x hx => h x (by simp [hx]))]; rfl
theorem before_asymm : ∀ {a b : Bs}, bytesBefore a b = true → bytesBefore b a = false
  | [], [], h => by simp [bytesBefore] at h
  | [], _ :: _, _ => rfl
  | _ :: _, [], h => by simp [bytesBefore] at h
  | a :: r, b :: s, h => by
    simp only [bytesBefore, Bool.or_eq_true, Bool.and_eq_true, decide_eq_true_eq, beq_iff_eq] at h
    simp only [bytesBefore, Bool.or_eq_false_iff, Bool.and_eq_false_iff, decide_eq_false_iff_not, beq_eq_false_iff_ne, ne_eq]
    rcases h with h | ⟨rfl, h⟩
    · exact ⟨fun h' => by rw [UInt8.lt_iff_toNat_lt] at h h'; omega, .inl fun e => by subst e; rw [UInt8.lt_iff_toNat_lt] at h; omega⟩
    · exact ⟨fun h' => by rw [UInt8.lt_iff_toNat_lt] at h'; omega, .inr (before_asymm h)⟩
/-- The next name. -/
theorem wDir_put {lo n i : Nat} {ix : Nat → Nat} (h : lo + n < 1000000) : Dir.put (wDir lo n ix) (wnm (lo + n)) i = wDir lo (n + 1) (fun p => if p = n then i else ix p) := by
  have hd : Dir.del (wDir lo n ix) (wnm (lo + n)) = wDir lo n ix := by
    unfold Dir.del
    rw [List.filter_eq_self]
    intro x hx
    unfold wDir at hx
    obtain ⟨q, hq, rfl⟩ := List.mem_map.1 hx
    have := List.mem_range.1 hq
    simp only [Bool.not_eq_true', beq_eq_false_iff_ne, ne_eq]
    intro e
    have := wnm_inj (by omega) (by omega) e
    omega
  unfold Dir.put
  rw [hd, ins_last]
  · rw [wDir_succ, if_pos rfl]
    congr 1
    exact wDir_congr fun p hp => by rw [if_neg (by omega)]
  · intro x hx
    unfold wDir at hx
    obtain ⟨q, hq, rfl⟩ := List.mem_map.1 hx
    have := List.mem_range.1 hq
    exact before_asymm (wnm_lt (by omega) (by omega))
/-- The first name goes. -/
theorem wDir_del {lo n : Nat} {ix : Nat → Nat} (h : lo + (n + 1) ≤ 1000000) : Dir.del (wDir lo (n + 1) ix) (wnm lo) = wDir (lo + 1) n (fun p => ix (p + 1)) := by
  rw [wDir_cons]
  unfold Dir.del
  rw [List.filter_cons_of_neg (by simp), List.filter_eq_self]
  intro x hx
  unfold wDir at hx
  obtain ⟨q, hq, rfl⟩ := List.mem_map.1 hx
  have := List.mem_range.1 hq
  simp only [Bool.not_eq_true', beq_eq_false_iff_ne, ne_eq]
  intro e
  have := wnm_inj (by omega) (by omega) e
  omega
theorem wDir_nums {lo n : Nat} {ix : Nat → Nat} (h1 : 1 ≤ lo) (h : lo + n ≤ 1000000) : wNums ((wDir lo n ix).map (·.1)) = (List.range n).map fun p => lo + p := by
  unfold wNums wDir
  rw [List.map_map, List.filterMap_map]
  have e : ∀ l : List Nat, (∀ p ∈ l, p < n) → l.filterMap ((numOf ∘ (fun x : Bs × Nat => x.1) ∘ fun p => (wnm (lo + p), ix p))) = l.map fun p => lo + p := by
    intro l
    induction l with
    | nil => intro _; rfl
    | cons p l ih =>
      intro hl
      have hp := hl p (by simp)
      rw [List.filterMap_cons, show (numOf ∘ (fun x : Bs × Nat => x.1) ∘ fun p => (wnm (lo + p), ix p)) p = some (lo + p) from numOf_wnm (by omega) (by omega), List.map_cons]
      simp only
      rw [ih (fun q hq => hl q (by simp [hq]))]
  exact e _ (fun p hp => List.mem_range.1 hp)

/-- A directory that holds just a log's files; what they hold. -/
structure WD (a : A) (lo n : Nat) (ix : Nat → Nat) (fl : Nat → Fil) : Prop where
  lo1 : 1 ≤ lo
  hi : lo + n ≤ 1000000
  now : a.now = wDir lo n ix
  inj : ∀ p q, p < n → q < n → ix p = ix q → p = q
  lt : ∀ p, p < n → ix p < a.files.length
  file : ∀ p, p < n → a.file (ix p) = fl p
section
variable {a b : A} {lo n : Nat} {ix : Nat → Nat} {fl : Nat → Fil}
theorem WD.same (h : WD a lo n ix fl) (e1 : b.now = a.now) (e2 : b.files = a.files) : WD b lo n ix fl :=
  ⟨h.lo1, h.hi, e1.trans h.now, h.inj, (by rw [e2]; exact h.lt), fun p hp => by unfold A.file; rw [e2]; exact h.file p hp⟩
theorem WD.look (h : WD a lo n ix fl) {p : Nat} (hp : p < n) : Dir.look a.now (wnm (lo + p)) = some (ix p) := by rw [h.now]; exact wDir_look h.hi hp
theorem WD.find (h : WD a lo n ix fl) {p : Nat} (hp : p < n) : a.findE (wnm (lo + p)) = 0 ∧ a.idx (wnm (lo + p)) = ix p :=
  ⟨findE_ok (wnm_nm _) (h.look hp), by unfold A.idx; rw [h.look hp]; rfl⟩
def tot (n : Nat) (fl : Nat → Fil) : Nat := ((List.range n).map fun p => (fl p).1.length).sum
theorem tot_succ (n : Nat) (fl : Nat → Fil) : tot (n + 1) fl = tot n fl + (fl n).1.length := by
  unfold tot; rw [List.range_succ, List.map_append, List.sum_append]; simp
theorem tot_congr {n : Nat} {fl gl : Nat → Fil} (h : ∀ p, p < n → (fl p).1.length = (gl p).1.length) : tot n fl = tot n gl := by
  unfold tot
  rw [List.map_congr_left fun p hp => h p (List.mem_range.1 hp)]
theorem tot_le {n : Nat} {fl gl : Nat → Fil} (h : ∀ p, p < n → (fl p).1.length ≤ (gl p).1.length) : tot n fl ≤ tot n gl := by
  induction n with
  | zero => exact Nat.le_refl _
  | succ n ih =>
    rw [tot_succ, tot_succ]
    have := ih fun p hp => h p (by omega)
    have := h n (by omega)
    omega
theorem tot_one {n : Nat} {fl : Nat → Fil} {p : Nat} (hp : p < n) : (fl p).1.length ≤ tot n fl := by
  induction n with
  | zero => omega
  | succ n ih =>
    rw [tot_succ]
    by_cases e : p = n
    · subst e; omega
    · have := ih (by omega); omega
theorem WD.used (h : WD a lo n ix fl) : a.used = tot n fl := by
  unfold A.used tot
  rw [h.now]; unfold wDir
  rw [List.map_map]
  congr 1
  exact List.map_congr_left fun p hp => by show (a.file (ix p)).1.length = _; rw [h.file p (List.mem_range.1 hp)]
theorem WD.set (h : WD a lo n ix fl) {p : Nat} (hp : p < n) (f : Fil) : WD (a.setFile (ix p) f) lo n ix (upd fl p f) :=
  ⟨h.lo1, h.hi, h.now, h.inj, (fun q hq => by show ix q < (a.files.set (ix p) f).length; rw [List.length_set]; exact h.lt q hq), fun q hq => by
    unfold upd
    by_cases e : q = p
    · subst e; rw [if_pos rfl]; exact file_set_eq (h.lt q hq)
    · rw [if_neg e, file_set_ne (fun e' => e (h.inj q p hq hp e'.symm))]; exact h.file q hq⟩
def On (a : A) : Prop := a.off = false ∧ a.armed = false
/-- The power is asked for. -/
def Pow (a : A) (r : Int × A) (k : A → A) : Prop :=
  (r.1 = 0 ∧ ∃ b, r.2 = k b ∧ b.now = a.now ∧ b.last = a.last ∧ b.wait = a.wait ∧ b.files = a.files ∧ b.room = a.room ∧ (On a → On b)) ∨
  (r.1 = 4 ∧ ¬ On a ∧ r.2.now = a.now ∧ r.2.last = a.last ∧ r.2.wait = a.wait ∧ r.2.files = a.files ∧ r.2.room = a.room)
theorem pow_try (a : A) (k : A → A) : Pow a (a.try k) k := by
  obtain ⟨e1, e2, e3, e4, e5, _⟩ := spent_eq a
  unfold A.try
  rcases spendE_cases a with h | h
  · rw [if_pos h]; exact .inl ⟨rfl, _, rfl, e2, e3, e4, e5, e1, (fun ho => by rw [(on_spent ho.1 ho.2).2]; exact ho)⟩
  · rw [if_neg (by rw [h]; decide)]; exact .inr ⟨h, (fun ho => by rw [(on_spent ho.1 ho.2).1] at h; cases h), e2, e3, e4, e5, e1⟩
theorem WD.create (h : WD a lo n ix fl) (hn : n < 400) (hi : lo + n < 1000000) :
    Pow a (a.create (wnm (lo + n))) fun a => ({ a with files := a.files ++ [([], 0)] } : A).do (.create (wnm (lo + n)) a.files.length) := by
  rw [create_try (wnm_nm _) (by rw [h.now]; exact wDir_none (by omega) hi (.inr (Nat.le_refl _))), if_neg (by rw [h.now, wDir_length]; omega)]
  exact pow_try a _
theorem WD.created (h : WD a lo n ix fl) (hi : lo + n < 1000000) : WD (({ a with files := a.files ++ [([], 0)] } : A).do (.create (wnm (lo + n)) a.files.length)) lo (n + 1) (fun p => if p = n then a.files.length else ix p) (fun p => if p = n then ([], 0) else fl p) := by
  have hf : ∀ k, k < a.files.length → (({ a with files := a.files ++ [([], 0)] } : A).do (.create (wnm (lo + n)) a.files.length)).file k = a.file k := fun k hk => by
    show (a.files ++ [([], 0)]).getD k ([], 0) = a.files.getD k ([], 0)
    rw [List.getD_eq_getElem?_getD, List.getD_eq_getElem?_getD, List.getElem?_append_left hk]
  refine ⟨h.lo1, by omega, ?_, fun p q hp hq e => ?_, fun p hp => ?_, fun p hp => ?_⟩
  · show Dir.put a.now (wnm (lo + n)) a.files.length = _
    rw [h.now, wDir_put hi]
  · split at e <;> split at e
    · omega
    · have := h.lt q (by omega); omega
    · have := h.lt p (by omega); omega
    · exact h.inj p q (by omega) (by omega) e
  · show _ < (a.files ++ [([], 0)]).length
    rw [List.length_append, List.length_singleton]
    split
    · omega
    · have := h.lt p (by omega); omega
  · split
    · show (a.files ++ [([], 0)]).getD a.files.length ([], 0) = _
      rw [List.getD_eq_getElem?_getD, List.getElem?_append_right (Nat.le_refl _)]; simp
    · rw [hf _ (h.lt p (by omega))]; exact h.file p (by omega)
theorem WD.append (h : WD a lo n ix fl) {p : Nat} (hp : p < n) {l : List Nat} (h1 : (fl p).1.length + l.length ≤ 1048576) (h2 : tot n fl + l.length ≤ a.room) :
    Pow a (a.append (wnm (lo + p)) l) fun a => a.setFile (a.idx (wnm (lo + p))) ((a.file (a.idx (wnm (lo + p)))).1 ++ l, (a.file (a.idx (wnm (lo + p)))).2) := by
  obtain ⟨e1, e2⟩ := h.find hp
  rw [append_try e1 (by rw [e2, h.file p hp]; omega) (by rw [h.used]; omega)]
  exact pow_try a _
theorem WD.sync (h : WD a lo n ix fl) {p : Nat} (hp : p < n) :
    Pow a (a.sync (wnm (lo + p))) fun a => a.setFile (a.idx (wnm (lo + p))) ((a.file (a.idx (wnm (lo + p)))).1, (a.file (a.idx (wnm (lo + p)))).1.length) := by
  rw [sync_try (h.find hp).1]
  exact pow_try a _
theorem WD.setAt (h : WD a lo n ix fl) {p : Nat} (hp : p < n) (g : Fil → Fil) : WD (a.setFile (a.idx (wnm (lo + p))) (g (a.file (a.idx (wnm (lo + p)))))) lo n ix (upd fl p (g (fl p))) := by
  rw [(h.find hp).2, h.file p hp]
  exact h.set hp _
end
end Go.Proofs.YtadnecgcoceklaaGreatDoor
