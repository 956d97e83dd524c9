/-
  What Build answers.
-/
import Derived.Test.YtfgcdmgbgadkgaaBlBuild
import Derived.Test.YtfgcdmgbgadkgaaBlCount
namespace Go.Proofs.Ytfgcdmgbgadkgaa
open Go.RowKit

def FreshE (w : World) (L : List Nat) (E : Int) (e : Ending) (w' : World) : Prop := ∃ a cap, e = .returned (.tuple #[.slice a L.length cap, .int .i64 E]) ∧ Byt w' a L ∧ (a = none → L = []) ∧ L.length ≤ cap ∧ Below w.heap.size w w'
/-- Texts that lie in memory. -/
def Strs (w : World) (a : Option Addr) (ss : List ByteArray) : Prop :=
  ss = [] ∨ ∃ b off, a = some ⟨b, off, none⟩ ∧ b < w.heap.size ∧ ∀ i (_ : i < ss.length), w.cell? ⟨b, off + i, none⟩ = some (.string ss[i])
theorem Strs.keep {w w' : World} {a : Option Addr} {ss : List ByteArray} (h : Strs w a ss) (hb : Below w.heap.size w w') : Strs w' a ss := by
  rcases h with h | ⟨b, off, rfl, hlt, hc⟩
  · exact .inl h
  · exact .inr ⟨b, off, rfl, Nat.lt_of_lt_of_le hlt hb.size, fun i hi => (hb.cell (p := ⟨b, off + i, none⟩) hlt).trans (hc i hi)⟩
theorem Strs.at {w : World} {a : Option Addr} {ss : List ByteArray} (h : Strs w a ss) {k : Nat} (hk : k < ss.length) : ∃ b off, a = some ⟨b, off, none⟩ ∧ w.cell? ⟨b, off + k, none⟩ = some (.string ss[k]) := by
  rcases h with h | ⟨b, off, rfl, _, hc⟩
  · subst h; simp at hk
  · exact ⟨b, off, rfl, hc k hk⟩
def cntOf (bits : Nat) : Nat := min (max (bits * 69 / 100) 1) 30
def sizOf (n bits : Nat) : Nat := (max (n * bits) 64 + 7) / 8
theorem cntOf_le (bits : Nat) : 1 ≤ cntOf bits ∧ cntOf bits ≤ 30 := by unfold cntOf; omega
theorem sizOf_le (n bits : Nat) (hn : n ≤ 100000) (hb : bits ≤ 64) : 8 ≤ sizOf n bits ∧ sizOf n bits ≤ 800001 := by
  have : n * bits ≤ 100000 * 64 := Nat.mul_le_mul hn hb
  unfold sizOf; omega
def probesOf (h c b : Nat) : List Nat := (List.range c).map fun i => probeN h i b
def allP (ks : List (List Nat)) (c b : Nat) : List Nat := ks.flatMap fun k => probesOf (hashN k) c b
def hasP (P : List Nat) (m : Nat) : Bool := P.contains m
def fillF (P : List Nat) (size c : Nat) (i : Nat) : Nat := if i < size then byteS (hasP P) i else c
def u8f (g : Nat → Nat) (i : Nat) : Value := .int .u8 (g i : Int)
def buildL (ks : List (List Nat)) (bits : Nat) : List Nat :=
  (List.range (sizOf ks.length bits)).map (byteS (hasP (allP ks (cntOf bits) (8 * sizOf ks.length bits)))) ++ [cntOf bits]
def buildR (ks : List (List Nat)) (bits : Int) : List Nat := if 1 ≤ bits ∧ bits ≤ 64 then buildL ks bits.toNat else []
def buildE (bits : Int) : Int := if 1 ≤ bits ∧ bits ≤ 64 then 0 else 1
theorem buildL_length (ks : List (List Nat)) (bits : Nat) : (buildL ks bits).length = sizOf ks.length bits + 1 := by simp [buildL]
theorem buildL_byte (ks : List (List Nat)) (bits : Nat) : ∀ x ∈ buildL ks bits, x < 256 := by
  intro x hx
  simp only [buildL, List.mem_append, List.mem_map, List.mem_singleton] at hx
  rcases hx with ⟨j, _, rfl⟩ | rfl
  · exact byteS_lt _ _
  · have := cntOf_le bits; omega
theorem hasP_snoc (P : List Nat) (n m : Nat) : hasP (P ++ [n]) m = (hasP P m || m == n) := by
  rw [Bool.eq_iff_iff]; simp [hasP]
theorem fill_snoc (P : List Nat) (n size c i : Nat) (hn : n < 8 * size) : fillF (P ++ [n]) size c i = if i = n / 8 then fillF P size c (n / 8) ||| 2 ^ (n % 8) else fillF P size c i := by
  have e : byteS (hasP (P ++ [n])) i = byteS (fun m => hasP P m || m == n) i := byteS_congr (fun k _ => hasP_snoc P n _)
  unfold fillF
  rw [e, byteS_put]
  by_cases h : i = n / 8
  · subst h
    have h2 : n / 8 < size := by omega
    simp [h2]
  · simp [h]
theorem fill_nil (size c i : Nat) (hi : i < size) : fillF [] size c i = 0 := by
  unfold fillF; rw [if_pos hi, ← byteS_none i]
  exact byteS_congr (fun k _ => by simp [hasP])
theorem probesOf_snoc (h c b : Nat) : probesOf h (c + 1) b = probesOf h c b ++ [probeN h c b] := by simp [probesOf, List.range_succ]
theorem allP_snoc (ks : List (List Nat)) (k c b : Nat) (hk : k < ks.length) : allP (ks.take (k + 1)) c b = allP (ks.take k) c b ++ probesOf (hashN ks[k]) c b := by
  rw [List.take_succ_eq_append_getElem hk]; unfold allP; rw [List.flatMap_append, List.flatMap_cons, List.flatMap_nil, List.append_nil]
theorem probeN_lt (h i b : Nat) (hb : 0 < b) : probeN h i b < b := Nat.mod_lt _ hb
theorem run_max2 {P : Program} {w : World} (ts : Array TypeId) (t : TypeId) (x y r : Int) (hr : r = max x y) :
    (Builtin.max_ ts t #[.int .i64 x, .int .i64 y]).run P w = .ok (.int .i64 r) w := by
  subst hr
  simp only [Builtin.max_, List.foldlM_cons, List.foldlM_nil, Sem.run_bind, Sem.run_pure, Builtin.max2, Result.andThen]
  repeat' split
  all_goals simp_all
  all_goals omega
theorem run_min2 {P : Program} {w : World} (ts : Array TypeId) (t : TypeId) (x y r : Int) (hr : r = min x y) :
    (Builtin.min_ ts t #[.int .i64 x, .int .i64 y]).run P w = .ok (.int .i64 r) w := by
  subst hr
  simp only [Builtin.min_, List.foldlM_cons, List.foldlM_nil, Sem.run_bind, Sem.run_pure, Builtin.min2, Result.andThen]
  repeat' split
  all_goals simp_all
  all_goals omega
theorem or8 (a b : Nat) (ha : a < 256) (hb : b < 256) : bits .or .u8 (a : Int) (b : Int) = ((a ||| b : Nat) : Int) := by
  show IntKind.u8.wrap ((BitVec.ofInt 8 (a : Int) ||| BitVec.ofInt 8 (b : Int)).toNat : Int) = _
  have h := or_lt ha hb
  rw [BitVec.toNat_or, BitVec.ofInt_natCast, BitVec.ofInt_natCast, BitVec.toNat_ofNat, BitVec.toNat_ofNat, Nat.mod_eq_of_lt (by omega), Nat.mod_eq_of_lt (by omega)]
  simp [IntKind.wrap, IntKind.bits, IntKind.signed]; omega
end Go.Proofs.Ytfgcdmgbgadkgaa
