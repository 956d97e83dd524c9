/-
  Texts laid together: WalNm WalPure WalDir WalCut WalKI WalKA WalN1.
-/
import Derived.Test.YtadnecgcoceklaaGreatDoorME
import Derived.Lib.ItoaNum
import Derived.Lib.AtoiAll
import Derived.Lib.Strings
import Derived.Test.YtadnecgcoceklaaGreatDoorMD
import Derived.Test.YtadnecgcoceklaaGreatDoorMA
import Derived.Test.YtadnecgcoceklaaGreatDoorMC
/-
  A log's file's name: six digits and .log.
-/
namespace Go.Proofs.YtadnecgcoceklaaGreatDoor
open Go.RowKit

def dgt (q : Nat) : UInt8 := UInt8.ofNat (48 + q % 10)
theorem dgt_nat (q : Nat) : (dgt q).toNat = 48 + q % 10 := by
  unfold dgt; rw [UInt8.toNat_ofNat']; omega
theorem dgt_eq {p q : Nat} : dgt p = dgt q ↔ p % 10 = q % 10 := by
  constructor
  · intro h; have := congrArg UInt8.toNat h; rw [dgt_nat, dgt_nat] at this; omega
  · intro h; unfold dgt; rw [h]
theorem dgt_lt {p q : Nat} (h : p % 10 < q % 10) : dgt p < dgt q := by
  rw [UInt8.lt_iff_toNat_lt, dgt_nat, dgt_nat]; omega
def wnm (n : Nat) : Bs := [dgt (n / 100000), dgt (n / 10000), dgt (n / 1000), dgt (n / 100), dgt (n / 10), dgt n, 46, 108, 111, 103]
def wName (n : Int) : Bs := if n < 1 ∨ 999999 < n then [] else wnm n.toNat
theorem wName_in {n : Nat} (h1 : 1 ≤ n) (h2 : n ≤ 999999) : wName (n : Int) = wnm n := by
  unfold wName; rw [if_neg (by omega), Int.toNat_natCast]
theorem wnm_length (n : Nat) : (wnm n).length = 10 := rfl
theorem inNm_dgt (q : Nat) : inNm (dgt q).toNat = true := by
  rw [dgt_nat]; unfold inNm
  have h : q % 10 < 10 := Nat.mod_lt _ (by omega)
  have e1 : decide (48 ≤ 48 + q % 10) = true := by simp
  have e2 : decide (48 + q % 10 ≤ 57) = true := by simp; omega
  rw [e1, e2]; simp
theorem wnm_nm (n : Nat) : isNm (wnm n) = true := by
  unfold isNm
  have e : ((wnm n).all fun c => inNm c.toNat) = true := by
    simp only [wnm, List.all_cons, inNm_dgt, Bool.true_and]
    decide
  rw [e]; rfl
theorem wnm_inj {m n : Nat} (hm : m < 1000000) (hn : n < 1000000) (h : wnm m = wnm n) : m = n := by
  simp only [wnm, List.cons.injEq, dgt_eq, and_true] at h
  omega
theorem before_eq {a : UInt8} {r s : Bs} : bytesBefore (a :: r) (a :: s) = bytesBefore r s := by
  simp [bytesBefore]
theorem before_lt {a b : UInt8} {r s : Bs} (h : a < b) : bytesBefore (a :: r) (b :: s) = true := by
  simp [bytesBefore, h]
theorem wnm_lt {m n : Nat} (h : m < n) (hn : n < 1000000) : bytesBefore (wnm m) (wnm n) = true := by
  unfold wnm
  by_cases h5 : m / 100000 < n / 100000
  · exact before_lt (dgt_lt (by omega))
  · rw [show dgt (m / 100000) = dgt (n / 100000) from dgt_eq.2 (by omega), before_eq]
    by_cases h4 : m / 10000 < n / 10000
    · exact before_lt (dgt_lt (by omega))
    · rw [show dgt (m / 10000) = dgt (n / 10000) from dgt_eq.2 (by omega), before_eq]
      by_cases h3 : m / 1000 < n / 1000
      · exact before_lt (dgt_lt (by omega))
      · rw [show dgt (m / 1000) = dgt (n / 1000) from dgt_eq.2 (by omega), before_eq]
        by_cases h2 : m / 100 < n / 100
        · exact before_lt (dgt_lt (by omega))
        · rw [show dgt (m / 100) = dgt (n / 100) from dgt_eq.2 (by omega), before_eq]
          by_cases h1 : m / 10 < n / 10
          · exact before_lt (dgt_lt (by omega))
          · rw [show dgt (m / 10) = dgt (n / 10) from dgt_eq.2 (by omega), before_eq]
            exact before_lt (dgt_lt (by omega))
theorem decDigits_ge {u : Nat} (h : 10 ≤ u) : Lib.decDigits u = Lib.decDigits (u / 10) ++ [dgt u] := by
  rw [Lib.decDigits, dif_neg (by omega)]; rfl
theorem digits_seven {n : Nat} (h : n < 1000000) : Lib.decDigits (1000000 + n) = [49, dgt (n / 100000), dgt (n / 10000), dgt (n / 1000), dgt (n / 100), dgt (n / 10), dgt n] := by
  rw [decDigits_ge (by omega), decDigits_ge (by omega), decDigits_ge (by omega), decDigits_ge (by omega), decDigits_ge (by omega), decDigits_ge (by omega)]
  have e0 : (1000000 + n) / 10 / 10 / 10 / 10 / 10 / 10 = 1 := by omega
  rw [e0, Lib.decDigits, dif_pos (by omega)]
  rw [show dgt (1000000 + n) = dgt n from dgt_eq.2 (by omega), show dgt ((1000000 + n) / 10) = dgt (n / 10) from dgt_eq.2 (by omega), show dgt ((1000000 + n) / 10 / 10) = dgt (n / 100) from dgt_eq.2 (by omega),
    show dgt ((1000000 + n) / 10 / 10 / 10) = dgt (n / 1000) from dgt_eq.2 (by omega), show dgt ((1000000 + n) / 10 / 10 / 10 / 10) = dgt (n / 10000) from dgt_eq.2 (by omega),
    show dgt ((1000000 + n) / 10 / 10 / 10 / 10 / 10) = dgt (n / 100000) from dgt_eq.2 (by omega)]
  rfl
def dotLog : Bs := [46, 108, 111, 103]
/-- The number that a name tells. -/
def numOf (s : Bs) : Option Nat :=
  match Lib.atoiAll (Lib.trimSuffix s dotLog) with
  | .ok v => if wName v = s then some v.toNat else none
  | _ => none
theorem trim_wnm (n : Nat) : Lib.trimSuffix (wnm n) dotLog = [dgt (n / 100000), dgt (n / 10000), dgt (n / 1000), dgt (n / 100), dgt (n / 10), dgt n] := by
  unfold Lib.trimSuffix Lib.hasSuffix
  rw [if_pos]
  · rfl
  · rw [List.isSuffixOf_iff_suffix]
    exact ⟨[dgt (n / 100000), dgt (n / 10000), dgt (n / 1000), dgt (n / 100), dgt (n / 10), dgt n], rfl⟩
theorem parse_step {acc q : Nat} {r : List UInt8} (h : acc < 100000000) : Lib.parseUint10 acc (dgt q :: r) = Lib.parseUint10 (acc * 10 + q % 10) r := by
  have hq : q % 10 < 10 := Nat.mod_lt _ (by omega)
  rw [Lib.parseUint10, dgt_nat, if_pos ⟨by omega, by omega⟩, if_neg (by omega), if_neg (by omega), Nat.add_sub_cancel_left]
theorem atoi_digits {n : Nat} (h : n < 1000000) : Lib.atoiAll [dgt (n / 100000), dgt (n / 10000), dgt (n / 1000), dgt (n / 100), dgt (n / 10), dgt n] = .ok (n : Int) := by
  have h0 := dgt_nat (n / 100000)
  have hm : Lib.parseMag [dgt (n / 100000), dgt (n / 10000), dgt (n / 1000), dgt (n / 100), dgt (n / 10), dgt n] = .ok n := by
    unfold Lib.parseMag
    rw [if_neg (by simp), parse_step (by omega), parse_step (by omega), parse_step (by omega), parse_step (by omega), parse_step (by omega), parse_step (by omega), Lib.parseUint10]
    congr 1; omega
  unfold Lib.atoiAll
  have hc : (dgt (n / 100000)).toNat ≠ 43 ∧ (dgt (n / 100000)).toNat ≠ 45 := by omega
  simp only [hc.1, hc.2, or_self, if_false, hm]
  rw [if_neg (by omega), if_neg (by simp)]
theorem numOf_wnm {n : Nat} (h1 : 1 ≤ n) (h2 : n ≤ 999999) : numOf (wnm n) = some n := by
  unfold numOf
  rw [trim_wnm, atoi_digits (by omega)]
  simp only [wName_in h1 h2, if_true, Int.toNat_natCast]
theorem numOf_some {s : Bs} {n : Nat} (h : numOf s = some n) (hs : s ≠ []) : s = wnm n ∧ 1 ≤ n ∧ n ≤ 999999 := by
  unfold numOf at h
  split at h
  · rename_i v _
    split at h
    · rename_i hw
      injection h with h
      unfold wName at hw
      split at hw
      · exact absurd hw.symm hs
      · subst h
        exact ⟨hw.symm, by omega, by omega⟩
    · cases h
  · cases h
end Go.Proofs.YtadnecgcoceklaaGreatDoor

/-
  A log, as the document tells it: each call as a function of the directory of files.
-/
namespace Go.Proofs.YtadnecgcoceklaaGreatDoor
open Go.RowKit

abbrev Rec := List Nat
def wBegin (a : A) (n : Nat) : Int × A := if (a.create (wnm n)).1 = 0 then (a.create (wnm n)).2.syncDir else a.create (wnm n)
def wGoOn (a : A) (num : Nat) : Int × A × Nat :=
  if num = 999999 then (12, a, num)
  else if (a.sync (wnm num)).1 = 0 then
    if (wBegin (a.sync (wnm num)).2 (num + 1)).1 = 0 then (0, (wBegin (a.sync (wnm num)).2 (num + 1)).2, num + 1)
    else ((wBegin (a.sync (wnm num)).2 (num + 1)).1, (wBegin (a.sync (wnm num)).2 (num + 1)).2, num)
  else ((a.sync (wnm num)).1, (a.sync (wnm num)).2, num)
def wPut (a : A) (num p : Nat) (rec : Rec) (sync : Bool) : Int × A :=
  if (a.append (wnm num) (FR.Frm.frameL p rec)).1 = 0 ∧ sync = true then (a.append (wnm num) (FR.Frm.frameL p rec)).2.sync (wnm num) else a.append (wnm num) (FR.Frm.frameL p rec)
def wAppend (a : A) (num lim : Nat) (rec : Rec) (sync : Bool) : Int × A × Nat :=
  if 300000 < rec.length then (14, a, num)
  else if a.sizeE (wnm num) = 0 then
    if lim ≤ a.size (wnm num) then
      if (wGoOn a num).1 = 0 then ((wPut (wGoOn a num).2.1 (wGoOn a num).2.2 0 rec sync).1, (wPut (wGoOn a num).2.1 (wGoOn a num).2.2 0 rec sync).2, (wGoOn a num).2.2)
      else wGoOn a num
    else ((wPut a num (a.size (wnm num)) rec sync).1, (wPut a num (a.size (wnm num)) rec sync).2, num)
  else (a.sizeE (wnm num), a, num)
/-- The numbers of the logs' files. -/
def wNums (l : List Bs) : List Nat := l.filterMap numOf
def recsOf (b : List Nat) : List Rec := (FR.Frm.scanR 0 b 0 [] false).1
/-- The records of the files from a number on. -/
def wRecs (a : A) (l : List Nat) (fr : Int) : List Rec := (l.filter fun n : Nat => decide (fr ≤ (n : Int))).flatMap fun n => recsOf (a.read (wnm n) 0 1048576)
/-- The files below a number go, one by one: how many are gone, the error. -/
def wDropL (a : A) : List Nat → Int → Nat → Int × A × Nat
  | [], _, k => (0, a, k)
  | n :: l, b, k => if b ≤ (n : Int) then (0, a, k) else if (a.remove (wnm n)).1 = 0 then wDropL (a.remove (wnm n)).2 l b (k + 1) else ((a.remove (wnm n)).1, (a.remove (wnm n)).2, k)
def wDrop (a : A) (b : Int) : Int × A × Nat :=
  if a.listE = 0 then
    if (wDropL a (wNums a.list) b 0).1 = 0 then
      if (wDropL a (wNums a.list) b 0).2.2 = 0 then (0, (wDropL a (wNums a.list) b 0).2.1, 0)
      else if (wDropL a (wNums a.list) b 0).2.1.syncDir.1 = 0 then (0, (wDropL a (wNums a.list) b 0).2.1.syncDir.2, (wDropL a (wNums a.list) b 0).2.2)
      else ((wDropL a (wNums a.list) b 0).2.1.syncDir.1, (wDropL a (wNums a.list) b 0).2.1.syncDir.2, 0)
    else ((wDropL a (wNums a.list) b 0).1, (wDropL a (wNums a.list) b 0).2.1, 0)
  else (a.listE, a, 0)
end Go.Proofs.YtadnecgcoceklaaGreatDoor

/-
  The files of a log in a directory: names one behind the other, each with a file of its own; each call on them.
-/
namespace Go.Proofs.YtadnecgcoceklaaGreatDoor
open Go.RowKit

/-- The names lo, lo + 1 .. (so many) and their files. -/
def wDir (lo n : Nat) (ix : Nat → Nat) : Dir := (List.range n).map fun p => (wnm (lo + p), ix p)
theorem wDir_succ (lo n : Nat) (ix : Nat → Nat) : wDir lo (n + 1) ix = wDir lo n ix ++ [(wnm (lo + n), ix n)] := by
  unfold wDir; rw [List.range_succ, List.map_append]; rfl
theorem wDir_congr {lo n : Nat} {ix jx : Nat → Nat} (h : ∀ p, p < n → ix p = jx p) : wDir lo n ix = wDir lo n jx := by
  unfold wDir
  exact List.map_congr_left fun p hp => by rw [h p (List.mem_range.1 hp)]
theorem wDir_length (lo n : Nat) (ix : Nat → Nat) : (wDir lo n ix).length = n := by unfold wDir; simp
theorem wDir_cons (lo n : Nat) (ix : Nat → Nat) : wDir lo (n + 1) ix = (wnm lo, ix 0) :: wDir (lo + 1) n (fun p => ix (p + 1)) := by
  unfold wDir
  rw [List.range_succ_eq_map, List.map_cons, List.map_map]
  simp only [Nat.add_zero, List.cons.injEq, true_and]
  exact List.map_congr_left fun p _ => by simp; rw [Nat.add_assoc, Nat.add_comm 1]
theorem look_app {d e : Dir} {k : Bs} : Dir.look (d ++ e) k = (Dir.look d k).or (Dir.look e k) := by
  unfold Dir.look
  rw [List.find?_append]
  cases List.find? (fun p => p.1 == k) d <;> rfl
theorem wDir_look {lo n : Nat} {ix : Nat → Nat} (h : lo + n ≤ 1000000) {p : Nat} (hp : p < n) : Dir.look (wDir lo n ix) (wnm (lo + p)) = some (ix p) := by
  induction n with
  | zero => omega
  | succ n ih =>
    rw [wDir_succ, look_app]
    by_cases e : p = n
    · subst e
      have hno : Dir.look (wDir lo p ix) (wnm (lo + p)) = none := by
        unfold Dir.look
        rw [List.find?_eq_none.2]
        · rfl
        · intro x hx
          unfold wDir at hx
          obtain ⟨q, hq, rfl⟩ := List.mem_map.1 hx
          have := List.mem_range.1 hq
          simp only [beq_iff_eq]
          intro e
          have := wnm_inj (by omega) (by omega) e
          omega
      rw [hno]
      simp [Dir.look]
    · rw [ih (by omega) (by omega)]; rfl
theorem wDir_none {lo n m : Nat} {ix : Nat → Nat} (h : lo + n ≤ 1000000) (hm : m < 1000000) (hn : m < lo ∨ lo + n ≤ m) : Dir.look (wDir lo n ix) (wnm m) = none := by
  unfold Dir.look
  rw [List.find?_eq_none.2]
  · rfl
  · intro x hx
    unfold wDir at hx
    obtain ⟨q, hq, rfl⟩ := List.mem_map.1 hx
    have := List.mem_range.1 hq
    simp only [beq_iff_eq]
    intro e
    have := wnm_inj (by omega) hm e
    omega
theorem ins_last {d : Dir} {k : Bs} {i : Nat} (h : ∀ x ∈ d, bytesBefore k x.1 = false) : Dir.ins (k, i) d = d ++ [(k, i)] := by
  induction d with
  | nil => rfl
  | cons y r ih =>
    unfold Dir.ins
    rw [if_neg (by rw [h y (by simp)]; simp), ih (fun x hx => h x (by simp [hx]))]; rfl
theorem before_asymm : ∀ {a b : Bs}, bytesBefore a b = true → bytesBefore b a = false
  | [], [], h => by simp [bytesBefore] at h
  | [], _ :: _, _ => rfl
  | _ :: _, [], h => by simp [bytesBefore] at h
  | a :: r, b :: s, h => by
    simp only [bytesBefore, Bool.or_eq_true, Bool.and_eq_true, decide_eq_true_eq, beq_iff_eq] at h
    simp only [bytesBefore, Bool.or_eq_false_iff, Bool.and_eq_false_iff, decide_eq_false_iff_not, beq_eq_false_iff_ne, ne_eq]
    rcases h with h | ⟨rfl, h⟩
    · exact ⟨fun h' => by rw [UInt8.lt_iff_toNat_lt] at h h'; omega, .inl fun e => by subst e; rw [UInt8.lt_iff_toNat_lt] at h; omega⟩
    · exact ⟨fun h' => by rw [UInt8.lt_iff_toNat_lt] at h'; omega, .inr (before_asymm h)⟩
/-- The next name. -/
theorem wDir_put {lo n i : Nat} {ix : Nat → Nat} (h : lo + n < 1000000) : Dir.put (wDir lo n ix) (wnm (lo + n)) i = wDir lo (n + 1) (fun p => if p = n then i else ix p) := by
  have hd : Dir.del (wDir lo n ix) (wnm (lo + n)) = wDir lo n ix := by
    unfold Dir.del
    rw [List.filter_eq_self]
    intro x hx
    unfold wDir at hx
    obtain ⟨q, hq, rfl⟩ := List.mem_map.1 hx
    have := List.mem_range.1 hq
    simp only [Bool.not_eq_true', beq_eq_false_iff_ne, ne_eq]
    intro e
    have := wnm_inj (by omega) (by omega) e
    omega
  unfold Dir.put
  rw [hd, ins_last]
  · rw [wDir_succ, if_pos rfl]
    congr 1
    exact wDir_congr fun p hp => by rw [if_neg (by omega)]
  · intro x hx
    unfold wDir at hx
    obtain ⟨q, hq, rfl⟩ := List.mem_map.1 hx
    have := List.mem_range.1 hq
    exact before_asymm (wnm_lt (by omega) (by omega))
/-- The first name goes. -/
theorem wDir_del {lo n : Nat} {ix : Nat → Nat} (h : lo + (n + 1) ≤ 1000000) : Dir.del (wDir lo (n + 1) ix) (wnm lo) = wDir (lo + 1) n (fun p => ix (p + 1)) := by
  rw [wDir_cons]
  unfold Dir.del
  rw [List.filter_cons_of_neg (by simp), List.filter_eq_self]
  intro x hx
  unfold wDir at hx
  obtain ⟨q, hq, rfl⟩ := List.mem_map.1 hx
  have := List.mem_range.1 hq
  simp only [Bool.not_eq_true', beq_eq_false_iff_ne, ne_eq]
  intro e
  have := wnm_inj (by omega) (by omega) e
  omega
theorem wDir_nums {lo n : Nat} {ix : Nat → Nat} (h1 : 1 ≤ lo) (h : lo + n ≤ 1000000) : wNums ((wDir lo n ix).map (·.1)) = (List.range n).map fun p => lo + p := by
  unfold wNums wDir
  rw [List.map_map, List.filterMap_map]
  have e : ∀ l : List Nat, (∀ p ∈ l, p < n) → l.filterMap ((numOf ∘ (fun x : Bs × Nat => x.1) ∘ fun p => (wnm (lo + p), ix p))) = l.map fun p => lo + p := by
    intro l
    induction l with
    | nil => intro _; rfl
    | cons p l ih =>
      intro hl
      have hp := hl p (by simp)
      rw [List.filterMap_cons, show (numOf ∘ (fun x : Bs × Nat => x.1) ∘ fun p => (wnm (lo + p), ix p)) p = some (lo + p) from numOf_wnm (by omega) (by omega), List.map_cons]
      simp only
      rw [ih (fun q hq => hl q (by simp [hq]))]
  exact e _ (fun p hp => List.mem_range.1 hp)

/-- A directory that holds just a log's files; what they hold. -/
structure WD (a : A) (lo n : Nat) (ix : Nat → Nat) (fl : Nat → Fil) : Prop where
  lo1 : 1 ≤ lo
  hi : lo + n ≤ 1000000
  now : a.now = wDir lo n ix
  inj : ∀ p q, p < n → q < n → ix p = ix q → p = q
  lt : ∀ p, p < n → ix p < a.files.length
  file : ∀ p, p < n → a.file (ix p) = fl p
section
variable {a b : A} {lo n : Nat} {ix : Nat → Nat} {fl : Nat → Fil}
theorem WD.same (h : WD a lo n ix fl) (e1 : b.now = a.now) (e2 : b.files = a.files) : WD b lo n ix fl :=
  ⟨h.lo1, h.hi, e1.trans h.now, h.inj, (by rw [e2]; exact h.lt), fun p hp => by unfold A.file; rw [e2]; exact h.file p hp⟩
theorem WD.look (h : WD a lo n ix fl) {p : Nat} (hp : p < n) : Dir.look a.now (wnm (lo + p)) = some (ix p) := by rw [h.now]; exact wDir_look h.hi hp
theorem WD.find (h : WD a lo n ix fl) {p : Nat} (hp : p < n) : a.findE (wnm (lo + p)) = 0 ∧ a.idx (wnm (lo + p)) = ix p :=
  ⟨findE_ok (wnm_nm _) (h.look hp), by unfold A.idx; rw [h.look hp]; rfl⟩
def tot (n : Nat) (fl : Nat → Fil) : Nat := ((List.range n).map fun p => (fl p).1.length).sum
theorem tot_succ (n : Nat) (fl : Nat → Fil) : tot (n + 1) fl = tot n fl + (fl n).1.length := by
  unfold tot; rw [List.range_succ, List.map_append, List.sum_append]; simp
theorem tot_congr {n : Nat} {fl gl : Nat → Fil} (h : ∀ p, p < n → (fl p).1.length = (gl p).1.length) : tot n fl = tot n gl := by
  unfold tot
  rw [List.map_congr_left fun p hp => h p (List.mem_range.1 hp)]
theorem tot_le {n : Nat} {fl gl : Nat → Fil} (h : ∀ p, p < n → (fl p).1.length ≤ (gl p).1.length) : tot n fl ≤ tot n gl := by
  induction n with
  | zero => exact Nat.le_refl _
  | succ n ih =>
    rw [tot_succ, tot_succ]
    have := ih fun p hp => h p (by omega)
    have := h n (by omega)
    omega
theorem tot_one {n : Nat} {fl : Nat → Fil} {p : Nat} (hp : p < n) : (fl p).1.length ≤ tot n fl := by
  induction n with
  | zero => omega
  | succ n ih =>
    rw [tot_succ]
    by_cases e : p = n
    · subst e; omega
    · have := ih (by omega); omega
theorem WD.used (h : WD a lo n ix fl) : a.used = tot n fl := by
  unfold A.used tot
  rw [h.now]; unfold wDir
  rw [List.map_map]
  congr 1
  exact List.map_congr_left fun p hp => by show (a.file (ix p)).1.length = _; rw [h.file p (List.mem_range.1 hp)]
theorem WD.set (h : WD a lo n ix fl) {p : Nat} (hp : p < n) (f : Fil) : WD (a.setFile (ix p) f) lo n ix (upd fl p f) :=
  ⟨h.lo1, h.hi, h.now, h.inj, (fun q hq => by show ix q < (a.files.set (ix p) f).length; rw [List.length_set]; exact h.lt q hq), fun q hq => by
    unfold upd
    by_cases e : q = p
    · subst e; rw [if_pos rfl]; exact file_set_eq (h.lt q hq)
    · rw [if_neg e, file_set_ne (fun e' => e (h.inj q p hq hp e'.symm))]; exact h.file q hq⟩
def On (a : A) : Prop := a.off = false ∧ a.armed = false
/-- The power is asked for. -/
def Pow (a : A) (r : Int × A) (k : A → A) : Prop :=
  (r.1 = 0 ∧ ∃ b, r.2 = k b ∧ b.now = a.now ∧ b.last = a.last ∧ b.wait = a.wait ∧ b.files = a.files ∧ b.room = a.room ∧ (On a → On b)) ∨
  (r.1 = 4 ∧ ¬ On a ∧ r.2.now = a.now ∧ r.2.last = a.last ∧ r.2.wait = a.wait ∧ r.2.files = a.files ∧ r.2.room = a.room)
theorem pow_try (a : A) (k : A → A) : Pow a (a.try k) k := by
  obtain ⟨e1, e2, e3, e4, e5, _⟩ := spent_eq a
  unfold A.try
  rcases spendE_cases a with h | h
  · rw [if_pos h]; exact .inl ⟨rfl, _, rfl, e2, e3, e4, e5, e1, (fun ho => by rw [(on_spent ho.1 ho.2).2]; exact ho)⟩
  · rw [if_neg (by rw [h]; decide)]; exact .inr ⟨h, (fun ho => by rw [(on_spent ho.1 ho.2).1] at h; cases h), e2, e3, e4, e5, e1⟩
theorem WD.create (h : WD a lo n ix fl) (hn : n < 400) (hi : lo + n < 1000000) :
    Pow a (a.create (wnm (lo + n))) fun a => ({ a with files := a.files ++ [([], 0)] } : A).do (.create (wnm (lo + n)) a.files.length) := by
  rw [create_try (wnm_nm _) (by rw [h.now]; exact wDir_none (by omega) hi (.inr (Nat.le_refl _))), if_neg (by rw [h.now, wDir_length]; omega)]
  exact pow_try a _
theorem WD.created (h : WD a lo n ix fl) (hi : lo + n < 1000000) : WD (({ a with files := a.files ++ [([], 0)] } : A).do (.create (wnm (lo + n)) a.files.length)) lo (n + 1) (fun p => if p = n then a.files.length else ix p) (fun p => if p = n then ([], 0) else fl p) := by
  have hf : ∀ k, k < a.files.length → (({ a with files := a.files ++ [([], 0)] } : A).do (.create (wnm (lo + n)) a.files.length)).file k = a.file k := fun k hk => by
    show (a.files ++ [([], 0)]).getD k ([], 0) = a.files.getD k ([], 0)
    rw [List.getD_eq_getElem?_getD, List.getD_eq_getElem?_getD, List.getElem?_append_left hk]
  refine ⟨h.lo1, by omega, ?_, fun p q hp hq e => ?_, fun p hp => ?_, fun p hp => ?_⟩
  · show Dir.put a.now (wnm (lo + n)) a.files.length = _
    rw [h.now, wDir_put hi]
  · split at e <;> split at e
    · omega
    · have := h.lt q (by omega); omega
    · have := h.lt p (by omega); omega
    · exact h.inj p q (by omega) (by omega) e
  · show _ < (a.files ++ [([], 0)]).length
    rw [List.length_append, List.length_singleton]
    split
    · omega
    · have := h.lt p (by omega); omega
  · split
    · show (a.files ++ [([], 0)]).getD a.files.length ([], 0) = _
      rw [List.getD_eq_getElem?_getD, List.getElem?_append_right (Nat.le_refl _)]; simp
    · rw [hf _ (h.lt p (by omega))]; exact h.file p (by omega)
theorem WD.append (h : WD a lo n ix fl) {p : Nat} (hp : p < n) {l : List Nat} (h1 : (fl p).1.length + l.length ≤ 1048576) (h2 : tot n fl + l.length ≤ a.room) :
    Pow a (a.append (wnm (lo + p)) l) fun a => a.setFile (a.idx (wnm (lo + p))) ((a.file (a.idx (wnm (lo + p)))).1 ++ l, (a.file (a.idx (wnm (lo + p)))).2) := by
  obtain ⟨e1, e2⟩ := h.find hp
  rw [append_try e1 (by rw [e2, h.file p hp]; omega) (by rw [h.used]; omega)]
  exact pow_try a _
theorem WD.sync (h : WD a lo n ix fl) {p : Nat} (hp : p < n) :
    Pow a (a.sync (wnm (lo + p))) fun a => a.setFile (a.idx (wnm (lo + p))) ((a.file (a.idx (wnm (lo + p)))).1, (a.file (a.idx (wnm (lo + p)))).1.length) := by
  rw [sync_try (h.find hp).1]
  exact pow_try a _
theorem WD.setAt (h : WD a lo n ix fl) {p : Nat} (hp : p < n) (g : Fil → Fil) : WD (a.setFile (a.idx (wnm (lo + p))) (g (a.file (a.idx (wnm (lo + p)))))) lo n ix (upd fl p (g (fl p))) := by
  rw [(h.find hp).2, h.file p hp]
  exact h.set hp _
end
end Go.Proofs.YtadnecgcoceklaaGreatDoor

/-
  What a crash leaves of a log's files.
-/
namespace Go.Proofs.YtadnecgcoceklaaGreatDoor
open Go.RowKit FR.Frm

def cutQ (f : Fil) (q : Nat) : Fil := if f.2 < f.1.length then cutF f q else f
theorem getD_set_eq' {α : Type} {l : List α} {i : Nat} {x d : α} (h : i < l.length) : (l.set i x).getD i d = x := by
  rw [List.getD_eq_getElem?_getD, List.getElem?_set_self h]; rfl
theorem getD_set_ne' {α : Type} {l : List α} {i j : Nat} {x d : α} (h : i ≠ j) : (l.set i x).getD j d = l.getD j d := by
  rw [List.getD_eq_getElem?_getD, List.getElem?_set_ne h, ← List.getD_eq_getElem?_getD]
theorem cutAll_len : ∀ (d : Dir) (fs : List Fil) (zs : List Int), (cutAll d fs zs).length = fs.length
  | [], _, _ => rfl
  | p :: d, fs, zs => by
    unfold cutAll
    split
    · rw [cutAll_len d, List.length_set]
    · exact cutAll_len d fs zs
theorem cutAll_out : ∀ (d : Dir) (fs : List Fil) (zs : List Int) (i : Nat), (∀ x ∈ d, x.2 ≠ i) → (cutAll d fs zs).getD i ([], 0) = fs.getD i ([], 0)
  | [], _, _, _, _ => rfl
  | p :: d, fs, zs, i, h => by
    unfold cutAll
    split
    · rw [cutAll_out d _ _ i (fun x hx => h x (by simp [hx])), getD_set_ne' (h p (by simp))]
    · exact cutAll_out d fs zs i (fun x hx => h x (by simp [hx]))
/-- Each file is cut by a pick of its own, or isn't. -/
theorem cutAll_in : ∀ (d : Dir) (fs : List Fil) (zs : List Int), (d.map (·.2)).Nodup → (∀ x ∈ d, x.2 < fs.length) → ∀ x ∈ d, ∃ q, (cutAll d fs zs).getD x.2 ([], 0) = cutQ (fs.getD x.2 ([], 0)) q
  | [], _, _, _, _, x, hx => by cases hx
  | p :: d, fs, zs, hn, hl, x, hx => by
    rw [List.map_cons, List.nodup_cons] at hn
    have hp : ∀ y ∈ d, y.2 ≠ p.2 := fun y hy e => hn.1 (by rw [← e]; exact List.mem_map.2 ⟨y, hy, rfl⟩)
    rcases List.mem_cons.1 hx with rfl | hx'
    · unfold cutAll
      split
      · rename_i h
        rw [cutAll_out d _ _ _ hp, getD_set_eq' (hl x (by simp))]
        exact ⟨_, by unfold cutQ; rw [if_pos h]⟩
      · rename_i h
        rw [cutAll_out d _ _ _ hp]
        exact ⟨0, by unfold cutQ; rw [if_neg h]⟩
    · unfold cutAll
      split
      · obtain ⟨q, hq⟩ := cutAll_in d (fs.set p.2 (cutF (fs.getD p.2 ([], 0)) (pk zs))) zs.tail hn.2 (fun y hy => by rw [List.length_set]; exact hl y (by simp [hy])) x hx'
        exact ⟨q, by rw [hq, getD_set_ne' (fun e => hp x hx' e.symm)]⟩
      · exact cutAll_in d fs zs hn.2 (fun y hy => hl y (by simp [hy])) x hx'
theorem cutQ_done {f : Fil} (h : f.2 = f.1.length) (q : Nat) : cutQ f q = f := by unfold cutQ; rw [if_neg (by omega)]
theorem wh_ge {n : Nat} {hs : List Rec} {c k : Nat} (hk : k ≤ hs.length) (h : endN n hs k ≤ c) : k ≤ whN n hs c := by
  obtain ⟨g0, g1, g2⟩ := wh_spec n hs c
  rcases Nat.lt_or_ge (whN n hs c) k with h1 | h1
  · have := g2 (by omega)
    have := endN_mono n hs (j := whN n hs c + 1) (k := k) h1 hk
    omega
  · exact h1
/-- A file that is written: its records, of which the first k last. -/
structure Opn (f : Fil) (cur : List Rec) (k : Nat) : Prop where
  by_ : f.1 = layL 0 cur
  k1 : endN 0 cur k ≤ f.2
  k2 : f.2 ≤ f.1.length
  k3 : k ≤ cur.length
theorem recs_lay (cur : List Rec) : recsOf (layL 0 cur) = cur := by
  have h := scan_take 0 cur (layL 0 cur).length
  rw [List.take_length] at h
  unfold recsOf
  rw [h]
  have := wh_ge (n := 0) (hs := cur) (c := (layL 0 cur).length) (Nat.le_refl _) (by rw [endN_all]; exact Nat.le_refl _)
  exact List.take_of_length_le this
theorem set_last (l : List Nat) (y : Nat) (h : l ≠ []) : l.set (l.length - 1) y = spoil l y := by
  unfold spoil
  rw [← List.concat_eq_append]
  obtain ⟨x, z, rfl⟩ : ∃ x z, l = x ++ [z] := ⟨l.dropLast, l.getLast h, (List.dropLast_concat_getLast h).symm⟩
  rw [List.dropLast_concat, List.length_append, List.length_singleton, Nat.add_sub_cancel, List.set_append_right _ _ (Nat.le_refl _), Nat.sub_self]
  simp
theorem xor85 (x : Nat) (h : x < 256) : x ^^^ 85 < 256 ∧ x ^^^ 85 ≠ x := by
  have key : ∀ y : Fin 256, y.val ^^^ 85 < 256 ∧ y.val ^^^ 85 ≠ y.val := by decide +kernel
  exact key ⟨x, h⟩
theorem Opn.cut {f : Fil} {cur : List Rec} {k : Nat} (h : Opn f cur k) (hb : ∀ r ∈ cur, ∀ x ∈ r, x < 256) (q : Nat) :
    (cutQ f q).2 = (cutQ f q).1.length ∧ (cutQ f q).1.length ≤ f.1.length ∧ ∃ j, k ≤ j ∧ j ≤ cur.length ∧ recsOf (cutQ f q).1 = cur.take j := by
  obtain ⟨h1, h2, h3, h4⟩ := h
  have hby := layL_byte 0 cur hb
  unfold cutQ
  by_cases hlt : f.2 < f.1.length
  · rw [if_pos hlt]
    unfold cutF
    obtain ⟨m, hm⟩ : ∃ m, q % (f.1.length - f.2 + 1) = m := ⟨_, rfl⟩
    have hml : m ≤ f.1.length - f.2 := by have := Nat.mod_lt q (show 0 < f.1.length - f.2 + 1 by omega); omega
    simp only [hm]
    have htl : (f.1.take (f.2 + m)).length = f.2 + m := by rw [List.length_take]; omega
    have hw := (wh_spec 0 cur (f.2 + m)).1
    have hw1 := (wh_spec 0 cur (f.2 + m - 1)).1
    split
    · rename_i hc
      refine ⟨by show f.2 + m = (List.set _ _ _).length; rw [List.length_set, htl], by show (List.set _ _ _).length ≤ _; rw [List.length_set, htl]; omega, ?_⟩
      refine ⟨whN 0 cur (f.2 + m - 1), wh_ge h4 (by omega), hw1, ?_⟩
      have hne : f.1.take (f.2 + m) ≠ [] := by rw [← List.length_pos_iff]; omega
      have hs : (f.1.take (f.2 + m)).set (f.2 + m - 1) ((f.1.take (f.2 + m)).getD (f.2 + m - 1) 0 ^^^ 85) = spoil (f.1.take (f.2 + m)) ((f.1.take (f.2 + m)).getD (f.2 + m - 1) 0 ^^^ 85) := by
        rw [← set_last _ _ hne, htl]
      show recsOf ((f.1.take (f.2 + m)).set (f.2 + m - 1) _) = _
      rw [hs]
      have hx : (f.1.take (f.2 + m)).getD (f.2 + m - 1) 0 = (f.1.take (f.2 + m)).getLast hne := by
        rw [List.getLast_eq_getElem, List.getD_eq_getElem?_getD, List.getElem?_eq_getElem (by omega)]
        simp [htl]
      have hx2 : (f.1.take (f.2 + m)).getLast hne < 256 := hby _ (by rw [← h1]; exact List.mem_of_mem_take (List.getLast_mem hne))
      have hl? : (f.1.take (f.2 + m)).getLast? = some ((f.1.take (f.2 + m)).getLast hne) := List.getLast?_eq_some_getLast hne
      rw [hx]
      obtain ⟨z, hz⟩ : ∃ z, (f.1.take (f.2 + m)).getLast hne = z := ⟨_, rfl⟩
      rw [hz] at hx2 hl? ⊢
      obtain ⟨y1, y2⟩ := xor85 z hx2
      rw [h1] at hl? ⊢
      unfold recsOf
      refine scan_spoil_lay 0 cur (f.2 + m) _ hb (by omega) (by rw [← h1]; omega) y1 ?_
      rw [hl?]
      intro e
      exact y2 (Option.some.inj e).symm
    · refine ⟨by show f.2 + m = (List.take _ _).length; rw [htl], by show (List.take _ _).length ≤ _; rw [htl]; omega, whN 0 cur (f.2 + m), wh_ge h4 (by omega), hw, ?_⟩
      show recsOf (f.1.take (f.2 + m)) = _
      rw [h1]
      unfold recsOf
      rw [scan_take]
  · rw [if_neg hlt]
    exact ⟨by omega, Nat.le_refl _, cur.length, h4, Nat.le_refl _, by rw [h1, recs_lay, List.take_length]⟩
theorem WD.nodup {a : A} {lo n : Nat} {ix : Nat → Nat} {fl : Nat → Fil} (h : WD a lo n ix fl) : ((wDir lo n ix).map (·.2)).Nodup := by
  unfold wDir
  rw [List.map_map]
  have key : ∀ n, (∀ p q, p < n → q < n → ix p = ix q → p = q) → ((List.range n).map ix).Nodup := by
    intro n
    induction n with
    | zero => intro _; exact List.nodup_nil
    | succ n ih =>
      intro hi
      rw [List.range_succ, List.map_append, List.nodup_append]
      refine ⟨ih fun p q hp hq => hi p q (by omega) (by omega), by simp, ?_⟩
      intro x hx y hy e
      obtain ⟨p, hp, rfl⟩ := List.mem_map.1 hx
      simp at hy
      subst hy
      have h1 := List.mem_range.1 hp
      have := hi p n (by omega) (by omega) e
      omega
  exact key n h.inj
/-- Behind a crash that leaves just these names. -/
theorem WD.crash {a : A} {lo n : Nat} {ix : Nat → Nat} {fl : Nat → Fil} (h : WD a lo n ix fl) {n' : Nat} (hn : n' ≤ n) {zs : List Int} (hnow : (a.crash zs).now = wDir lo n' ix) (hfs : (a.crash zs).files = cutAll (wDir lo n' ix) a.files zs.tail) :
    ∃ gl, WD (a.crash zs) lo n' ix gl ∧ ∀ p, p < n' → ∃ q, gl p = cutQ (fl p) q := by
  have hnd : ((wDir lo n' ix).map (·.2)).Nodup := WD.nodup (a := { a with now := wDir lo n' ix }) (lo := lo) (fl := fl) ⟨h.lo1, by have := h.hi; omega, rfl, fun p q hp hq => h.inj p q (by omega) (by omega), fun p hp => h.lt p (by omega), fun p hp => h.file p (by omega)⟩
  refine ⟨fun p => (a.crash zs).file (ix p), ⟨h.lo1, by have := h.hi; omega, hnow, fun p q hp hq => h.inj p q (by omega) (by omega), fun p hp => by rw [hfs, cutAll_len]; exact h.lt p (by omega), fun _ _ => rfl⟩, fun p hp => ?_⟩
  have hm : (wnm (lo + p), ix p) ∈ wDir lo n' ix := List.mem_map.2 ⟨p, List.mem_range.2 hp, rfl⟩
  obtain ⟨q, hq⟩ := cutAll_in (wDir lo n' ix) a.files zs.tail hnd (fun x hx => by
    obtain ⟨r, hr, rfl⟩ := List.mem_map.1 hx
    exact h.lt r (by have := List.mem_range.1 hr; omega)) _ hm
  refine ⟨q, ?_⟩
  show (a.crash zs).file (ix p) = _
  unfold A.file
  rw [hfs, hq]
  have := h.file p (by omega)
  unfold A.file at this
  rw [this]
end Go.Proofs.YtadnecgcoceklaaGreatDoor

/-
  A log's files: all but the last one last wholly; what each call makes of them; what a crash leaves.
-/
namespace Go.Proofs.YtadnecgcoceklaaGreatDoor
open Go.RowKit FR.Frm

structure KI (a : A) (lo m : Nat) (ix : Nat → Nat) (fl : Nat → Fil) (R : Nat → List Rec) (cur : List Rec) (k : Nat) : Prop where
  wd : WD a lo (m + 1) ix fl
  last : a.last = a.now
  wait : a.wait = []
  cl : ∀ p, p < m → (fl p).2 = (fl p).1.length ∧ recsOf (fl p).1 = R p
  op : Opn (fl m) cur k
  byt : ∀ r ∈ cur, ∀ x ∈ r, x < 256
/-- All that was told by the files ahead. -/
def toldB (m : Nat) (R : Nat → List Rec) : List Rec := (List.range m).flatMap R
theorem toldB_succ (m : Nat) (R : Nat → List Rec) : toldB (m + 1) R = toldB m R ++ R m := by
  unfold toldB; rw [List.range_succ, List.flatMap_append]; simp
theorem flatMap_congr' {R R' : Nat → List Rec} : ∀ {l : List Nat}, (∀ p ∈ l, R p = R' p) → l.flatMap R = l.flatMap R'
  | [], _ => rfl
  | a :: l, h => by rw [List.flatMap_cons, List.flatMap_cons, h a (by simp), flatMap_congr' fun p hp => h p (by simp [hp])]
theorem toldB_congr {m : Nat} {R R' : Nat → List Rec} (h : ∀ p, p < m → R p = R' p) : toldB m R = toldB m R' :=
  flatMap_congr' fun p hp => h p (List.mem_range.1 hp)
/-- Whatever the picks, a crash leaves files that tell the first of T, no fewer than S. -/
def CI (a : A) (lo S : Nat) (T : List Rec) (t N : Nat) : Prop :=
  ∀ zs, ∃ n ix fl R, 1 ≤ n ∧ n ≤ N ∧ WD (a.crash zs) lo n ix fl ∧ (∀ p, p < n → (fl p).2 = (fl p).1.length ∧ recsOf (fl p).1 = R p) ∧ tot n fl ≤ t ∧ ∃ j, S ≤ j ∧ j ≤ T.length ∧ toldB n R = T.take j
theorem CI.more {a : A} {lo S : Nat} {T : List Rec} {t N : Nat} (h : CI a lo S T t N) {T' : List Rec} {t' N' : Nat} (hT : T = T'.take T.length) (ht : t ≤ t') (hN : N ≤ N') : CI a lo S T' t' N' := fun zs => by
  obtain ⟨n, ix, fl, R, h1, h2, h3, h4, h5, j, h6, h7, h8⟩ := h zs
  have hl : T.length ≤ T'.length := by
    have := congrArg List.length hT
    rw [List.length_take] at this; omega
  refine ⟨n, ix, fl, R, h1, by omega, h3, h4, by omega, j, h6, by omega, ?_⟩
  rw [h8]
  conv => lhs; rw [hT, List.take_take, Nat.min_eq_left h7]
theorem CI.less {a : A} {lo S : Nat} {T : List Rec} {t N : Nat} (h : CI a lo S T t N) {S' : Nat} (hS : S' ≤ S) : CI a lo S' T t N := fun zs => by
  obtain ⟨n, ix, fl, R, h1, h2, h3, h4, h5, j, h6, h7⟩ := h zs
  exact ⟨n, ix, fl, R, h1, h2, h3, h4, h5, j, by omega, h7⟩
theorem take_pre {T U : List Rec} : T = (T ++ U).take T.length := by rw [List.take_left']; rfl
section
variable {a b : A} {lo m : Nat} {ix : Nat → Nat} {fl : Nat → Fil} {R : Nat → List Rec} {cur : List Rec} {k t : Nat}
theorem KI.same (h : KI a lo m ix fl R cur k) (e1 : b.now = a.now) (e2 : b.last = a.last) (e3 : b.wait = a.wait) (e4 : b.files = a.files) : KI b lo m ix fl R cur k :=
  ⟨h.wd.same e1 e4, by rw [e1, e2]; exact h.last, by rw [e3]; exact h.wait, h.cl, h.op, h.byt⟩
theorem KI.crash (h : KI a lo m ix fl R cur k) (ht : tot (m + 1) fl ≤ t) : CI a lo ((toldB m R).length + k) (toldB m R ++ cur) t (m + 1) := fun zs => by
  obtain ⟨K, hK, e1, e2, e3⟩ := crash_eq a zs
  have hK0 : K = 0 := by rw [h.wait] at hK; simpa using hK
  subst hK0
  have e0 : lastK a 0 = wDir lo (m + 1) ix := by
    show a.last = _
    rw [h.last, h.wd.now]
  rw [e0] at e1 e2
  obtain ⟨gl, hg, hq⟩ := h.wd.crash (Nat.le_refl _) e1 e2
  obtain ⟨q, hqm⟩ := hq m (by omega)
  obtain ⟨c1, c2, j, c3, c4, c5⟩ := h.op.cut h.byt q
  have hgp : ∀ p, p < m → gl p = fl p := fun p hp => by
    obtain ⟨q, hq⟩ := hq p (by omega)
    rw [hq, cutQ_done (h.cl p hp).1]
  refine ⟨m + 1, ix, gl, fun p => if p = m then cur.take j else R p, by omega, Nat.le_refl _, hg, fun p hp => ?_, ?_, (toldB m R).length + j, by omega, by rw [List.length_append]; omega, ?_⟩
  · dsimp only
    by_cases e : p = m
    · subst e; rw [if_pos rfl, hqm]; exact ⟨c1, c5⟩
    · rw [if_neg e, hgp p (by omega)]; exact h.cl p (by omega)
  · refine Nat.le_trans (tot_le fun p hp => ?_) ht
    by_cases e : p = m
    · subst e; rw [hqm]; exact c2
    · rw [hgp p (by omega)]; exact Nat.le_refl _
  · rw [toldB_succ, if_pos rfl, toldB_congr (R' := R) (fun p hp => by rw [if_neg (by omega)])]
    rw [List.take_length_add_append]
theorem Opn.app {f : Fil} {cur : List Rec} {k : Nat} (h : Opn f cur k) (rec : Rec) : Opn (f.1 ++ frameL f.1.length rec, f.2) (cur ++ [rec]) k := by
  obtain ⟨h1, h2, h3, h4⟩ := h
  refine ⟨?_, ?_, ?_, by rw [List.length_append]; omega⟩
  · show f.1 ++ _ = _
    rw [layL_snoc, ← h1, Nat.zero_add]
  · show endN 0 (cur ++ [rec]) k ≤ f.2
    have : endN 0 (cur ++ [rec]) k = endN 0 cur k := by unfold endN; rw [List.take_append_of_le_length h4]
    omega
  · show f.2 ≤ (f.1 ++ _).length
    rw [List.length_append]; omega
theorem Opn.sync {f : Fil} {cur : List Rec} {k : Nat} (h : Opn f cur k) : Opn (f.1, f.1.length) cur cur.length :=
  ⟨h.by_, by show endN 0 cur cur.length ≤ f.1.length; rw [endN_all, h.by_]; exact Nat.le_refl _, Nat.le_refl _, Nat.le_refl _⟩
theorem KI.setLast (h : KI a lo m ix fl R cur k) (g : Fil → Fil) {cur' : List Rec} {k' : Nat} (ho : Opn (g (fl m)) cur' k') (hb : ∀ r ∈ cur', ∀ x ∈ r, x < 256) :
    KI (a.setFile (a.idx (wnm (lo + m))) (g (a.file (a.idx (wnm (lo + m)))))) lo m ix (upd fl m (g (fl m))) R cur' k' :=
  ⟨h.wd.setAt (by omega) g, h.last, h.wait, fun p hp => by unfold upd; rw [if_neg (by omega)]; exact h.cl p hp, by unfold upd; rw [if_pos rfl]; exact ho, hb⟩
theorem tot_upd {n : Nat} {fl : Nat → Fil} {f : Fil} {d : Nat} {p : Nat} (hf : f.1.length ≤ (fl p).1.length + d) : tot n (upd fl p f) ≤ tot n fl + d := by
  induction n with
  | zero => show (0 : Nat) ≤ _; omega
  | succ n ih =>
    rw [tot_succ, tot_succ]
    by_cases e : n = p
    · subst e
      have h1 : tot n (upd fl n f) = tot n fl := tot_congr fun q hq => by unfold upd; rw [if_neg (by omega)]
      have h2 : upd fl n f n = f := by unfold upd; rw [if_pos rfl]
      rw [h1, h2]; omega
    · have h2 : upd fl p f n = fl n := by unfold upd; rw [if_neg e]
      rw [h2]; omega
theorem KI.sync (h : KI a lo m ix fl R cur k) :
    ((a.sync (wnm (lo + m))).1 = 0 ∧ (On a → On (a.sync (wnm (lo + m))).2) ∧ (a.sync (wnm (lo + m))).2.room = a.room ∧ KI (a.sync (wnm (lo + m))).2 lo m ix (upd fl m ((fl m).1, (fl m).1.length)) R cur cur.length) ∨
    ((a.sync (wnm (lo + m))).1 = 4 ∧ ¬ On a ∧ (a.sync (wnm (lo + m))).2.room = a.room ∧ KI (a.sync (wnm (lo + m))).2 lo m ix fl R cur k) := by
  rcases h.wd.sync (p := m) (by omega) with ⟨h0, b, hb, e1, e2, e3, e4, e5, e6⟩ | ⟨h4, hn, e1, e2, e3, e4, e5⟩
  · refine .inl ⟨h0, ?_, ?_, ?_⟩
    · rw [hb]; exact fun ho => e6 ho
    · rw [hb]; exact e5
    · rw [hb]
      exact (h.same e1 e2 e3 e4).setLast (fun f => (f.1, f.1.length)) h.op.sync h.byt
  · exact .inr ⟨h4, hn, e5, h.same e1 e2 e3 e4⟩
/-- A record more at the end, synced or not. -/
theorem KI.put (h : KI a lo m ix fl R cur k) {rec : Rec} (hb : ∀ x ∈ rec, x < 256) (hl : rec.length ≤ 900) (hr : t + 1828 ≤ a.room) (ht : tot (m + 1) fl ≤ t) (ht2 : t + 1828 ≤ 1048576) (sync : Bool) :
    ((wPut a (lo + m) (fl m).1.length rec sync).1 = 0 ∧ (On a → On (wPut a (lo + m) (fl m).1.length rec sync).2) ∧ (wPut a (lo + m) (fl m).1.length rec sync).2.room = a.room ∧
      ∃ fl' k', KI (wPut a (lo + m) (fl m).1.length rec sync).2 lo m ix fl' R (cur ++ [rec]) k' ∧ k ≤ k' ∧ (sync = true → k' = cur.length + 1) ∧ tot (m + 1) fl' ≤ t + 1828 ∧ ∀ p, p < m → fl' p = fl p) ∨
    ((wPut a (lo + m) (fl m).1.length rec sync).1 = 4 ∧ ¬ On a ∧ (wPut a (lo + m) (fl m).1.length rec sync).2.room = a.room ∧ CI (wPut a (lo + m) (fl m).1.length rec sync).2 lo ((toldB m R).length + k) ((toldB m R ++ cur) ++ [rec]) (t + 1828) (m + 1)) := by
  have hfl := frameL_len (fl m).1.length rec
  have h1 := tot_one (fl := fl) (n := m + 1) (p := m) (by omega)
  have hbc : ∀ r ∈ cur ++ [rec], ∀ x ∈ r, x < 256 := fun r hr' => by
    rcases List.mem_append.1 hr' with h' | h'
    · exact h.byt r h'
    · simp at h'; subst h'; exact hb
  unfold wPut
  rcases h.wd.append (p := m) (l := frameL (fl m).1.length rec) (by omega) (by omega) (by omega) with ⟨h0, b, hbq, e1, e2, e3, e4, e5, e6⟩ | ⟨h4, hn, e1, e2, e3, e4, e5⟩
  · have hK : KI (a.append (wnm (lo + m)) (frameL (fl m).1.length rec)).2 lo m ix (upd fl m ((fl m).1 ++ frameL (fl m).1.length rec, (fl m).2)) R (cur ++ [rec]) k := by
      rw [hbq]
      exact (h.same e1 e2 e3 e4).setLast (fun f => (f.1 ++ frameL (fl m).1.length rec, f.2)) (h.op.app rec) hbc
    have htt : tot (m + 1) (upd fl m ((fl m).1 ++ frameL (fl m).1.length rec, (fl m).2)) ≤ t + 1828 := by
      have := tot_upd (n := m + 1) (fl := fl) (p := m) (f := ((fl m).1 ++ frameL (fl m).1.length rec, (fl m).2)) (d := 1828) (by show ((fl m).1 ++ _).length ≤ _; rw [List.length_append]; omega)
      omega
    have hroom : (a.append (wnm (lo + m)) (frameL (fl m).1.length rec)).2.room = a.room := by rw [hbq]; exact e5
    have hon : On a → On (a.append (wnm (lo + m)) (frameL (fl m).1.length rec)).2 := by rw [hbq]; exact fun ho => e6 ho
    by_cases hs : sync = true
    · rw [if_pos ⟨h0, hs⟩]
      rcases hK.sync with ⟨g0, g1, g2, g3⟩ | ⟨g4, g1, g2, g3⟩
      · refine .inl ⟨g0, fun ho => g1 (hon ho), by rw [g2, hroom], _, _, g3, by rw [List.length_append]; have := h.op.k3; omega, fun _ => by rw [List.length_append]; rfl, ?_, fun p hp => by unfold upd; rw [if_neg (by omega), if_neg (by omega)]⟩
        refine Nat.le_trans (Nat.le_of_eq (tot_congr fun p hp => ?_)) htt
        unfold upd
        by_cases e : p = m <;> simp [e]
      · refine .inr ⟨g4, fun ho => g1 (hon ho), by rw [g2, hroom], ?_⟩
        rw [List.append_assoc]
        exact g3.crash htt
    · rw [if_neg (fun h' => hs h'.2)]
      exact .inl ⟨h0, hon, hroom, _, _, hK, Nat.le_refl _, fun h' => absurd h' hs, htt, fun p hp => by unfold upd; rw [if_neg (by omega)]⟩
  · rw [if_neg (fun h' => by rw [h4] at h'; exact absurd h'.1 (by decide))]
    refine .inr ⟨h4, hn, e5, ?_⟩
    exact ((h.same e1 e2 e3 e4).crash (t := t) ht).more take_pre (by omega) (Nat.le_refl _)
end
end Go.Proofs.YtadnecgcoceklaaGreatDoor

/-
  A log's next file; Append.
-/
namespace Go.Proofs.YtadnecgcoceklaaGreatDoor
open Go.RowKit FR.Frm

theorem recs_nil : recsOf [] = [] := recs_lay []
section
variable {a b : A} {lo m : Nat} {ix : Nat → Nat} {fl : Nat → Fil} {R : Nat → List Rec} {cur : List Rec} {k t : Nat}
/-- The next file is there, its name doesn't last yet. -/
theorem CI.pending (h : WD a lo (m + 1) ix fl) (hl : a.last = wDir lo m ix) (hw : a.wait = [.create (wnm (lo + m)) (ix m)]) (hc : ∀ p, p < m → (fl p).2 = (fl p).1.length ∧ recsOf (fl p).1 = R p) (hf : fl m = ([], 0)) (hm : 1 ≤ m) (ht : tot (m + 1) fl ≤ t) :
    CI a lo (toldB m R).length (toldB m R) t (m + 1) := fun zs => by
  obtain ⟨K, hK, e1, e2, e3⟩ := crash_eq a zs
  rw [hw] at hK
  have hK1 : K ≤ 1 := by simpa using hK
  have hcl : ∀ p, p < m + 1 → (fl p).2 = (fl p).1.length := fun p hp => by
    by_cases e : p = m
    · subst e; rw [hf]; rfl
    · exact (hc p (by omega)).1
  have htm : tot m fl ≤ t := by rw [tot_succ] at ht; omega
  rcases (show K = 0 ∨ K = 1 by omega) with rfl | rfl
  · have e0 : lastK a 0 = wDir lo m ix := hl
    rw [e0] at e1 e2
    obtain ⟨gl, hg, hq⟩ := h.crash (n' := m) (by omega) e1 e2
    have hgp : ∀ p, p < m → gl p = fl p := fun p hp => by
      obtain ⟨q, hq⟩ := hq p hp
      rw [hq, cutQ_done (hcl p (by omega))]
    exact ⟨m, ix, gl, R, hm, by omega, hg, fun p hp => by rw [hgp p hp]; exact hc p hp, by rw [tot_congr fun p hp => by rw [hgp p hp]]; exact htm, _, Nat.le_refl _, Nat.le_refl _, List.take_length.symm⟩
  · have e0 : lastK a 1 = wDir lo (m + 1) ix := by
      rw [lastK_succ (c := .create (wnm (lo + m)) (ix m)) (by rw [hw]; rfl)]
      show Dir.put (lastK a 0) _ _ = _
      have : lastK a 0 = wDir lo m ix := hl
      have hh := h.hi
      rw [this, wDir_put (by omega)]
      exact wDir_congr fun p hp => by split; next e => rw [e]
                                      next e => rfl
    rw [e0] at e1 e2
    obtain ⟨gl, hg, hq⟩ := h.crash (n' := m + 1) (Nat.le_refl _) e1 e2
    have hgp : ∀ p, p < m + 1 → gl p = fl p := fun p hp => by
      obtain ⟨q, hq⟩ := hq p hp
      rw [hq, cutQ_done (hcl p hp)]
    refine ⟨m + 1, ix, gl, fun p => if p = m then [] else R p, by omega, Nat.le_refl _, hg, fun p hp => ?_, by rw [tot_congr fun p hp => by rw [hgp p hp]]; exact ht, (toldB m R).length, Nat.le_refl _, Nat.le_refl _, ?_⟩
    · rw [hgp p hp]
      dsimp only
      by_cases e : p = m
      · subst e; rw [if_pos rfl, hf]; exact ⟨rfl, recs_nil⟩
      · rw [if_neg e]; exact hc p (by omega)
    · rw [toldB_succ, if_pos rfl, List.append_nil, toldB_congr (R' := R) (fun p hp => by rw [if_neg (by omega)]), List.take_length]
theorem KI.begin (h : WD a lo m ix fl) (hl : a.last = a.now) (hw : a.wait = []) (hc : ∀ p, p < m → (fl p).2 = (fl p).1.length ∧ recsOf (fl p).1 = R p) (hi : lo + m < 1000000) (hm : m < 400) :
    ((wBegin a (lo + m)).1 = 0 ∧ (On a → On (wBegin a (lo + m)).2) ∧ (wBegin a (lo + m)).2.room = a.room ∧
      ∃ ix' fl', KI (wBegin a (lo + m)).2 lo m ix' fl' R [] 0 ∧ tot (m + 1) fl' = tot m fl ∧ fl' m = ([], 0) ∧ ∀ p, p < m → fl' p = fl p) ∨
    ((wBegin a (lo + m)).1 = 4 ∧ ¬ On a ∧ (wBegin a (lo + m)).2.room = a.room ∧
      (((wBegin a (lo + m)).2.now = a.now ∧ (wBegin a (lo + m)).2.last = a.last ∧ (wBegin a (lo + m)).2.wait = a.wait ∧ (wBegin a (lo + m)).2.files = a.files) ∨
       ∃ ix' fl', WD (wBegin a (lo + m)).2 lo (m + 1) ix' fl' ∧ (wBegin a (lo + m)).2.last = wDir lo m ix' ∧ (wBegin a (lo + m)).2.wait = [.create (wnm (lo + m)) (ix' m)] ∧ (∀ p, p < m → fl' p = fl p) ∧ fl' m = ([], 0) ∧ tot (m + 1) fl' = tot m fl)) := by
  unfold wBegin
  rcases h.create hm hi with ⟨h0, b, hbq, e1, e2, e3, e4, e5, e6⟩ | ⟨h4, hn, e1, e2, e3, e4, e5⟩
  · rw [if_pos h0]
    have hb := (h.same e1 e4).created hi
    have hcon : On a → On ((a.create (wnm (lo + m))).2) := by rw [hbq]; exact fun ho => e6 ho
    have hrc : (a.create (wnm (lo + m))).2.room = a.room := by rw [hbq]; exact e5
    have hwd : WD (a.create (wnm (lo + m))).2 lo (m + 1) (fun p => if p = m then b.files.length else ix p) (fun p => if p = m then ([], 0) else fl p) := by rw [hbq]; exact hb
    have hlast : (a.create (wnm (lo + m))).2.last = wDir lo m (fun p => if p = m then b.files.length else ix p) := by
      rw [hbq]
      show b.last = _
      rw [e2, hl, h.now]
      exact wDir_congr fun p hp => by rw [if_neg (by omega)]
    have hwait : (a.create (wnm (lo + m))).2.wait = [.create (wnm (lo + m)) b.files.length] := by
      rw [hbq]
      show b.wait ++ [_] = _
      rw [e3, hw]; rfl
    have htot : tot (m + 1) (fun p => if p = m then (([], 0) : Fil) else fl p) = tot m fl := by
      rw [tot_succ, if_pos rfl, tot_congr (gl := fl) (fun p hp => by rw [if_neg (by omega)])]; rfl
    generalize (a.create (wnm (lo + m))).2 = c at *
    rcases pow_try c (fun a => { a with last := a.now, wait := [] }) with ⟨g0, d, hd, f1, f2, f3, f4, f5, f6⟩ | ⟨g4, hn, f1, f2, f3, f4, f5⟩
    · refine .inl ⟨g0, fun ho => ?_, ?_, (fun p => if p = m then b.files.length else ix p), (fun p => if p = m then ([], 0) else fl p), ⟨?_, ?_, ?_, fun p hp => ?_, ?_, (fun r hr => by cases hr)⟩, htot, if_pos rfl, fun p hp => if_neg (by omega)⟩
      · show On (c.try _).2
        rw [hd]; exact f6 (hcon ho)
      · show (c.try _).2.room = _
        rw [hd]; show d.room = _; rw [f5, hrc]
      · show WD (c.try _).2 _ _ _ _
        rw [hd]; exact hwd.same f1 f4
      · show (c.try _).2.last = (c.try _).2.now
        rw [hd]
      · show (c.try _).2.wait = []
        rw [hd]
      · rw [if_neg (by omega)]; exact hc p hp
      · rw [if_pos rfl]; exact ⟨rfl, Nat.le_refl _, Nat.le_refl _, Nat.le_refl _⟩
    · refine .inr ⟨g4, fun ho => hn (hcon ho), f5.trans hrc, .inr ⟨_, _, hwd.same f1 f4, f2.trans hlast, f3.trans (by rw [hwait, if_pos rfl]), fun p hp => if_neg (by omega), if_pos rfl, htot⟩⟩
  · rw [if_neg (by rw [h4]; decide)]
    exact .inr ⟨h4, hn, e5, .inl ⟨e1, e2, e3, e4⟩⟩
theorem KI.roll (h : KI a lo m ix fl R cur k) (hi : lo + m + 1 < 1000000) (hm : m + 1 < 400) (ht : tot (m + 1) fl ≤ t) :
    ((wGoOn a (lo + m)).1 = 0 ∧ (wGoOn a (lo + m)).2.2 = lo + (m + 1) ∧ (On a → On (wGoOn a (lo + m)).2.1) ∧ (wGoOn a (lo + m)).2.1.room = a.room ∧
      ∃ ix' fl', KI (wGoOn a (lo + m)).2.1 lo (m + 1) ix' fl' (upd R m cur) [] 0 ∧ tot (m + 2) fl' ≤ t ∧ fl' (m + 1) = ([], 0) ∧ ∀ p, p < m + 1 → (fl' p).1 = (fl p).1) ∨
    ((wGoOn a (lo + m)).1 = 4 ∧ ¬ On a ∧ (wGoOn a (lo + m)).2.1.room = a.room ∧ CI (wGoOn a (lo + m)).2.1 lo ((toldB m R).length + k) (toldB m R ++ cur) t (m + 2)) := by
  have hk := h.op.k3
  unfold wGoOn
  rw [if_neg (by omega)]
  rcases h.sync with ⟨h0, h1, h2, h3⟩ | ⟨h4, h1, h2, h3⟩
  · rw [if_pos h0]
    generalize (a.sync (wnm (lo + m))).2 = s at *
    have hwd := h3.wd
    have htot : tot (m + 1) (upd fl m ((fl m).1, (fl m).1.length)) ≤ t := Nat.le_trans (Nat.le_of_eq (tot_congr fun p hp => by unfold upd; by_cases e : p = m <;> simp [e])) ht
    have hcl : ∀ p, p < m + 1 → (upd fl m ((fl m).1, (fl m).1.length) p).2 = (upd fl m ((fl m).1, (fl m).1.length) p).1.length ∧ recsOf (upd fl m ((fl m).1, (fl m).1.length) p).1 = upd R m cur p := fun p hp => by
      unfold upd
      by_cases e : p = m
      · subst e; rw [if_pos rfl, if_pos rfl]; exact ⟨rfl, by show recsOf (fl p).1 = _; rw [h.op.by_, recs_lay]⟩
      · rw [if_neg e, if_neg e]; exact h.cl p (by omega)
    have htold : toldB (m + 1) (upd R m cur) = toldB m R ++ cur := by
      rw [toldB_succ, toldB_congr (R' := R) (fun p hp => by unfold upd; rw [if_neg (by omega)])]
      unfold upd; rw [if_pos rfl]
    have hb1 : ∀ p, p < m + 1 → (upd fl m ((fl m).1, (fl m).1.length) p).1 = (fl p).1 := fun p hp => by unfold upd; by_cases e : p = m <;> simp [e]
    rcases KI.begin (m := m + 1) h3.wd h3.last h3.wait hcl (by omega) hm with ⟨g0, g1, g2, ix', fl', g3, g4, g5, g6⟩ | ⟨g4, g1, g2, g3⟩
    · have e : lo + m + 1 = lo + (m + 1) := by omega
      rw [e, if_pos g0]
      exact .inl ⟨rfl, rfl, fun ho => g1 (h1 ho), g2.trans h2, ix', fl', g3, by rw [g4]; exact htot, g5, fun p hp => by rw [g6 p hp]; exact hb1 p hp⟩
    · have e : lo + m + 1 = lo + (m + 1) := by omega
      rw [e, if_neg (by rw [g4]; decide)]
      refine .inr ⟨g4, fun ho => g1 (h1 ho), g2.trans h2, ?_⟩
      rcases g3 with ⟨f1, f2, f3, f4⟩ | ⟨ix', fl', f1, f2, f3, f4, f5, f6⟩
      · have := (h3.same f1 f2 f3 f4).crash htot
        exact (this.less (by omega)).more List.take_length.symm (Nat.le_refl _) (by omega)
      · have := CI.pending (R := upd R m cur) f1 f2 f3 (fun p hp => by rw [f4 p hp]; exact hcl p hp) f5 (by omega) (by rw [f6]; exact htot)
        rw [htold] at this
        exact this.less (by rw [List.length_append]; omega)
  · rw [if_neg (by rw [h4]; decide)]
    exact .inr ⟨h4, h1, h2, (h3.crash ht).more List.take_length.symm (Nat.le_refl _) (by omega)⟩
/-- Append. -/
theorem KI.app (h : KI a lo m ix fl R cur k) {rec : Rec} (hb : ∀ x ∈ rec, x < 256) (hl : rec.length ≤ 900) (hi : lo + m + 1 < 1000000) (hm : m + 1 < 400) (hr : t + 1828 ≤ a.room) (ht : tot (m + 1) fl ≤ t) (ht2 : t + 1828 ≤ 1048576) (lim : Nat) (sync : Bool) :
    ((wAppend a (lo + m) lim rec sync).1 = 0 ∧ (On a → On (wAppend a (lo + m) lim rec sync).2.1) ∧ (wAppend a (lo + m) lim rec sync).2.1.room = a.room ∧
      ((¬ lim ≤ (fl m).1.length ∧ (wAppend a (lo + m) lim rec sync).2.2 = lo + m ∧ ∃ fl' k', KI (wAppend a (lo + m) lim rec sync).2.1 lo m ix fl' R (cur ++ [rec]) k' ∧ k ≤ k' ∧ (sync = true → k' = cur.length + 1) ∧ tot (m + 1) fl' ≤ t + 1828 ∧ ∀ p, p < m → fl' p = fl p) ∨
       (lim ≤ (fl m).1.length ∧ (wAppend a (lo + m) lim rec sync).2.2 = lo + (m + 1) ∧ ∃ ix' fl' k', KI (wAppend a (lo + m) lim rec sync).2.1 lo (m + 1) ix' fl' (upd R m cur) [rec] k' ∧ (sync = true → k' = 1) ∧ tot (m + 2) fl' ≤ t + 1828 ∧ ∀ p, p < m + 1 → (fl' p).1 = (fl p).1))) ∨
    ((wAppend a (lo + m) lim rec sync).1 = 4 ∧ ¬ On a ∧ (wAppend a (lo + m) lim rec sync).2.1.room = a.room ∧ CI (wAppend a (lo + m) lim rec sync).2.1 lo ((toldB m R).length + k) ((toldB m R ++ cur) ++ [rec]) (t + 1828) (m + 2)) := by
  have hk := h.op.k3
  unfold wAppend
  rw [if_neg (by omega)]
  obtain ⟨e1, e2⟩ := h.wd.find (p := m) (by omega)
  have hfm := h.wd.file m (by omega)
  by_cases ho : a.off = false
  · obtain ⟨s1, s2⟩ := sizeE_ok e1 ho
    rw [if_pos s1, s2, e2, hfm]
    by_cases hlim : lim ≤ (fl m).1.length
    · rw [if_pos hlim]
      rcases h.roll hi hm ht with ⟨g0, g1, g2, g3, ix', fl', g4, g5, g6, g7⟩ | ⟨g4, g1, g2, g3⟩
      · rw [if_pos g0, g1]
        generalize (wGoOn a (lo + m)).2.1 = s at *
        have hp := g4.put hb hl (by rw [g3]; exact hr) g5 ht2 sync
        rw [g6] at hp
        have hz : (([], 0) : Fil).1.length = 0 := rfl
        rw [hz] at hp
        have htold : toldB (m + 1) (upd R m cur) = toldB m R ++ cur := by
          rw [toldB_succ, toldB_congr (R' := R) (fun p hp => by unfold upd; rw [if_neg (by omega)])]
          unfold upd; rw [if_pos rfl]
        rcases hp with ⟨p0, p1, p2, fl2, k2, p3, p4, p5, p6, p7⟩ | ⟨p4, p1, p2, p3⟩
        · exact .inl ⟨p0, fun ho => p1 (g2 ho), p2.trans g3, .inr ⟨hlim, rfl, ix', fl2, k2, p3, p5, p6, fun p hp => by rw [p7 p hp]; exact g7 p hp⟩⟩
        · refine .inr ⟨p4, fun ho => p1 (g2 ho), p2.trans g3, ?_⟩
          rw [htold, List.append_nil] at p3
          exact p3.less (by rw [List.length_append]; omega)
      · rw [if_neg (by rw [g4]; decide)]
        exact .inr ⟨g4, g1, g2, g3.more take_pre (by omega) (Nat.le_refl _)⟩
    · rw [if_neg hlim]
      rcases h.put hb hl hr ht ht2 sync with ⟨p0, p1, p2, fl2, k2, p3, p4, p5, p6, p7⟩ | ⟨p4, p1, p2, p3⟩
      · exact .inl ⟨p0, p1, p2, .inl ⟨hlim, rfl, fl2, k2, p3, p4, p5, p6, p7⟩⟩
      · exact .inr ⟨p4, p1, p2, p3.more List.take_length.symm (Nat.le_refl _) (by omega)⟩
  · have ho' : a.off = true := by simpa using ho
    obtain ⟨s1, s2⟩ := sizeE_off e1 ho'
    rw [if_neg (by rw [s1]; decide), s1]
    exact .inr ⟨rfl, fun hon => ho hon.1, rfl, (h.crash ht).more take_pre (by omega) (by omega)⟩
end
end Go.Proofs.YtadnecgcoceklaaGreatDoor

/-
  What is told of a log's files; a log that is dropped from its beginning; a crash of what is synced.
-/
namespace Go.Proofs.YtadnecgcoceklaaGreatDoor
open Go.RowKit FR.Frm

section
variable {a b : A} {lo n m : Nat} {ix : Nat → Nat} {fl gl : Nat → Fil} {R : Nat → List Rec} {cur : List Rec} {k t : Nat}
theorem WD.nums (h : WD a lo n ix fl) (ho : a.off = false) : wNums a.list = (List.range n).map fun p => lo + p := by
  unfold A.list
  rw [if_neg (by rw [ho]; simp), h.now]
  exact wDir_nums h.lo1 h.hi
theorem WD.readAt (h : WD a lo n ix fl) (ho : a.off = false) {p : Nat} (hp : p < n) (hb : (fl p).1.length ≤ 1048576) : a.readE (wnm (lo + p)) 0 1048576 = 0 ∧ a.read (wnm (lo + p)) 0 1048576 = (fl p).1 := by
  obtain ⟨e1, e2⟩ := h.find hp
  obtain ⟨r1, r2⟩ := readE_ok (a := a) (s := wnm (lo + p)) (x := 0) (n := 1048576) e1 (by omega) ho
  refine ⟨r1, ?_⟩
  rw [r2, e2, h.file p hp]
  show ((fl p).1.drop 0).take 1048576 = _
  rw [List.drop_zero, List.take_of_length_le hb]
theorem WD.recs (h : WD a lo n ix fl) (ho : a.off = false) (hb : ∀ p, p < n → (fl p).1.length ≤ 1048576) (fr : Int) :
    wRecs a (wNums a.list) fr = ((List.range n).filter fun p => decide (fr ≤ ((lo + p : Nat) : Int))).flatMap fun p => recsOf (fl p).1 := by
  unfold wRecs
  rw [h.nums ho, List.filter_map, List.flatMap_map]
  refine flatMap_congr' fun p hp => ?_
  have := List.mem_range.1 (List.mem_filter.1 hp).1
  rw [(h.readAt ho this (hb p this)).2]
theorem WD.recs_all (h : WD a lo n ix fl) (ho : a.off = false) (hb : ∀ p, p < n → (fl p).1.length ≤ 1048576) {fr : Int} (hfr : fr ≤ (lo : Int)) :
    wRecs a (wNums a.list) fr = (List.range n).flatMap fun p => recsOf (fl p).1 := by
  rw [h.recs ho hb]
  congr 1
  rw [List.filter_eq_self]
  intro p _
  simp; omega
theorem KI.told (h : KI a lo m ix fl R cur k) : ((List.range (m + 1)).flatMap fun p => recsOf (fl p).1) = toldB m R ++ cur := by
  rw [List.range_succ, List.flatMap_append]
  congr 1
  · exact flatMap_congr' fun p hp => (h.cl p (List.mem_range.1 hp)).2
  · simp [h.op.by_, recs_lay]
theorem WD.congr (h : WD a lo n ix fl) (e : ∀ p, p < n → gl p = fl p) : WD a lo n ix gl := ⟨h.lo1, h.hi, h.now, h.inj, h.lt, fun p hp => by rw [e p hp]; exact h.file p hp⟩
theorem crash_on (a : A) (zs : List Int) : On (a.crash zs) ∧ (a.crash zs).room = a.room ∧ (a.crash zs).last = (a.crash zs).now ∧ (a.crash zs).wait = [] := ⟨⟨rfl, rfl⟩, rfl, rfl, rfl⟩
/-- What was synced stays. -/
theorem KI.crash_full (h : KI a lo m ix fl R cur cur.length) (zs : List Int) : KI (a.crash zs) lo m ix fl R cur cur.length := by
  obtain ⟨K, hK, e1, e2, e3⟩ := crash_eq a zs
  have hK0 : K = 0 := by rw [h.wait] at hK; simpa using hK
  subst hK0
  have e0 : lastK a 0 = wDir lo (m + 1) ix := by
    show a.last = _
    rw [h.last, h.wd.now]
  rw [e0] at e1 e2
  obtain ⟨gl, hg, hq⟩ := h.wd.crash (Nat.le_refl _) e1 e2
  have hfull : (fl m).2 = (fl m).1.length := by
    have h1 := h.op.k1
    rw [endN_all, ← h.op.by_] at h1
    have := h.op.k2; omega
  have hgp : ∀ p, p < m + 1 → fl p = gl p := fun p hp => by
    obtain ⟨q, hq⟩ := hq p hp
    rw [hq, cutQ_done]
    by_cases e : p = m
    · subst e; exact hfull
    · exact (h.cl p (by omega)).1
  exact ⟨hg.congr hgp, rfl, rfl, h.cl, h.op, h.byt⟩
/-- The first file is removed. -/
theorem WD.remove (h : WD a lo (n + 1) ix fl) (ho : On a) : (a.remove (wnm lo)).1 = 0 ∧ On (a.remove (wnm lo)).2 ∧ WD (a.remove (wnm lo)).2 (lo + 1) n (fun p => ix (p + 1)) (fun p => fl (p + 1)) ∧ (a.remove (wnm lo)).2.room = a.room := by
  have hf := (h.find (p := 0) (by omega)).1
  rw [Nat.add_zero] at hf
  rw [remove_try hf]
  rcases pow_try a (fun a => a.do (.remove (wnm lo))) with ⟨h0, b, hb, e1, e2, e3, e4, e5, e6⟩ | ⟨_, hn, _⟩
  · refine ⟨h0, by rw [hb]; exact e6 ho, ?_, by rw [hb]; exact e5⟩
    rw [hb]
    have hb' := h.same (b := b) e1 e4
    have hh := h.hi
    refine ⟨by omega, by omega, ?_, fun p q hp hq e => ?_, fun p hp => hb'.lt (p + 1) (by omega), fun p hp => hb'.file (p + 1) (by omega)⟩
    · show Dir.del b.now (wnm lo) = _
      rw [hb'.now, wDir_del h.hi]
    · have := h.inj (p + 1) (q + 1) (by omega) (by omega) e; omega
  · exact absurd ho hn
theorem range_shift (lo n : Nat) : ((List.range (n + 1)).map fun p => lo + p) = lo :: (List.range n).map fun p => lo + 1 + p := by
  rw [List.range_succ_eq_map, List.map_cons, List.map_map]
  congr 1
  exact List.map_congr_left fun p _ => by simp; omega
theorem WD.dropL : ∀ {n lo : Nat} {a : A} {ix : Nat → Nat} {fl : Nat → Fil} (_ : WD a lo n ix fl) (_ : On a) (bl : Nat) (_ : lo ≤ bl) (_ : bl ≤ lo + n) (k : Nat),
    ∃ a', wDropL a ((List.range n).map fun p => lo + p) (bl : Int) k = (0, a', k + (bl - lo)) ∧ On a' ∧ WD a' bl (lo + n - bl) (fun p => ix (p + (bl - lo))) (fun p => fl (p + (bl - lo)))
  | 0, lo, a, ix, fl, h, ho, bl, h1, h2, k => by
    obtain rfl : bl = lo := by omega
    exact ⟨a, by simp [wDropL], ho, by simpa using h⟩
  | n + 1, lo, a, ix, fl, h, ho, bl, h1, h2, k => by
    rw [range_shift]
    unfold wDropL
    by_cases hb : (bl : Int) ≤ (lo : Int)
    · obtain rfl : bl = lo := by omega
      rw [if_pos hb]
      exact ⟨a, by simp, ho, by simpa using h⟩
    · rw [if_neg hb]
      obtain ⟨r1, r2, r3, _⟩ := h.remove ho
      rw [if_pos r1]
      obtain ⟨a', e1, e2, e3⟩ := WD.dropL r3 r2 bl (by omega) (by omega) (k + 1)
      refine ⟨a', by rw [e1]; congr 2; omega, e2, ?_⟩
      rw [show lo + 1 + n - bl = lo + (n + 1) - bl by omega] at e3
      have ec : ∀ p, p + (bl - (lo + 1)) + 1 = p + (bl - lo) := fun p => by omega
      simpa only [ec] using e3
theorem on_syncDir (h : On a) : a.syncDir.1 = 0 ∧ On a.syncDir.2 ∧ a.syncDir.2.now = a.now ∧ a.syncDir.2.files = a.files ∧ a.syncDir.2.room = a.room := by
  have e : a.syncDir = (0, { a with last := a.now, wait := [] }) := on_try h.1 h.2 _
  rw [e]; exact ⟨rfl, h, rfl, rfl, rfl⟩
/-- Drop, with the power on. -/
theorem WD.drop (h : WD a lo n ix fl) (ho : On a) {bl : Nat} (h1 : lo ≤ bl) (h2 : bl ≤ lo + n) :
    ∃ a', wDrop a (bl : Int) = (0, a', bl - lo) ∧ On a' ∧ WD a' bl (lo + n - bl) (fun p => ix (p + (bl - lo))) (fun p => fl (p + (bl - lo))) := by
  obtain ⟨a', e1, e2, e3⟩ := h.dropL ho bl h1 h2 0
  have hE : a.listE = 0 := by unfold A.listE; rw [if_neg (by rw [ho.1]; simp)]
  rw [Nat.zero_add] at e1
  unfold wDrop
  rw [if_pos hE, h.nums ho.1, e1]
  by_cases h0 : bl - lo = 0
  · refine ⟨a', ?_, e2, e3⟩
    simp [h0]
  · obtain ⟨s1, s2, s3, s4, _⟩ := on_syncDir e2
    refine ⟨a'.syncDir.2, ?_, s2, e3.same s3 s4⟩
    simp [h0, s1]
/-- A new log in an empty directory. -/
theorem KI.start (room lo : Nat) (h1 : 1 ≤ lo) (h2 : lo < 1000000) :
    (wBegin (A.new room) lo).1 = 0 ∧ On (wBegin (A.new room) lo).2 ∧ (wBegin (A.new room) lo).2.room = room ∧ ∃ ix fl, KI (wBegin (A.new room) lo).2 lo 0 ix fl (fun _ => []) [] 0 ∧ tot 1 fl = 0 ∧ fl 0 = ([], 0) := by
  have hw : WD (A.new room) lo 0 (fun _ => 0) (fun _ => ([], 0)) := ⟨h1, by omega, rfl, (fun p q hp => by omega), (fun p hp => by omega), fun p hp => by omega⟩
  have hon : On (A.new room) := ⟨rfl, rfl⟩
  rcases KI.begin (R := fun _ => []) hw rfl rfl (fun p hp => by omega) (by omega) (by omega) with ⟨g0, g1, g2, ix', fl', g3, g4, g5, _⟩ | ⟨_, hn, _⟩
  · rw [Nat.add_zero] at g0 g1 g2 g3
    exact ⟨g0, g1 hon, g2, ix', fl', g3, g4, g5⟩
  · exact absurd hon hn
end
end Go.Proofs.YtadnecgcoceklaaGreatDoor

