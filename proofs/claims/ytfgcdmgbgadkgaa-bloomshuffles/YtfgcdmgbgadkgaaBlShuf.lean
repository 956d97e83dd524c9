/-
  Keys in another order, and some of them twice: plain parts; texts that are appended.
-/
import Derived.Test.YtfgcdmgbgadkgaaBlMrg
namespace Go.Proofs.Ytfgcdmgbgadkgaa
open Go.RowKit

theorem mem_allP (ks : List (List Nat)) (c b p : Nat) : hasP (allP ks c b) p = true ↔ ∃ k ∈ ks, p ∈ probesOf (hashN k) c b := by
  unfold hasP allP; rw [List.contains_iff_mem, List.mem_flatMap]
theorem build_same (k1 k2 : List (List Nat)) (B : Nat) (hl : k1.length = k2.length) (h : ∀ k, k ∈ k1 ↔ k ∈ k2) : buildL k1 B = buildL k2 B := by
  unfold buildL
  rw [hl]
  congr 1
  apply List.map_congr_left
  intro j _
  apply byteS_congr
  intro k _
  rw [Bool.eq_iff_iff, mem_allP, mem_allP]
  exact ⟨fun ⟨x, hx, hp⟩ => ⟨x, (h x).1 hx, hp⟩, fun ⟨x, hx, hp⟩ => ⟨x, (h x).2 hx, hp⟩⟩
theorem build_sub (k1 k2 : List (List Nat)) (B j : Nat) (hl : k1.length = k2.length) (h : ∀ k, k ∈ k1 → k ∈ k2) (hj : j < sizOf k2.length B) (t : Nat) (ht : ((buildL k1 B).getD j 0).testBit t = true) : ((buildL k2 B).getD j 0).testBit t = true := by
  rw [build_at k1 B j (by rw [hl]; exact hj), byteS_test, Bool.and_eq_true, mem_allP] at ht
  rw [build_at k2 B j hj, byteS_test, Bool.and_eq_true, mem_allP]
  obtain ⟨h1, x, hx, hp⟩ := ht
  exact ⟨h1, x, h x hx, by rw [← hl]; exact hp⟩
theorem andnot_zero (c a : Nat) (h : ∀ t, c.testBit t = true → a.testBit t = true) : bits .andNot .u8 (c : Int) (a : Int) = 0 := by
  have key : (BitVec.ofInt 8 (c : Int) &&& ~~~(BitVec.ofInt 8 (a : Int))) = 0#8 := by
    apply BitVec.eq_of_getLsbD_eq
    intro i hi
    rw [BitVec.getLsbD_and, BitVec.getLsbD_not, BitVec.ofInt_natCast, BitVec.ofInt_natCast, BitVec.getLsbD_ofNat, BitVec.getLsbD_ofNat]
    have := h i
    cases hci : c.testBit i
    · simp
    · simp [this hci]
  show IntKind.u8.wrap ((BitVec.ofInt 8 (c : Int) &&& ~~~(BitVec.ofInt 8 (a : Int))).toNat : Int) = 0
  rw [key]; rfl
/-- Texts picked. -/
def pickL (ss : List ByteArray) (f : Nat → Nat) (i : Nat) : List ByteArray := (List.range i).map fun j => ss.getD (f j) ⟨#[]⟩
theorem pickL_snoc (ss : List ByteArray) (f : Nat → Nat) (i : Nat) : pickL ss f (i + 1) = pickL ss f i ++ [ss.getD (f i) ⟨#[]⟩] := by simp [pickL, List.range_succ]
theorem pickL_length (ss : List ByteArray) (f : Nat → Nat) (i : Nat) : (pickL ss f i).length = i := by simp [pickL]
theorem sgetD {ss : List ByteArray} {k : Nat} (h : k < ss.length) : ss.getD k ⟨#[]⟩ = ss[k] := by
  rw [List.getD_eq_getElem?_getD, List.getElem?_eq_getElem h]; rfl
theorem pick_sub (ss : List ByteArray) (f : Nat → Nat) (n : Nat) (hn : ss.length = n) (hf : ∀ j, j < n → f j < n) : ∀ s ∈ pickL ss f n, s ∈ ss := by
  intro s hs
  unfold pickL at hs
  obtain ⟨j, hj, rfl⟩ := List.mem_map.1 hs
  rw [sgetD (by rw [hn]; exact hf j (List.mem_range.1 hj))]
  exact List.getElem_mem _
theorem pick_back (ss : List ByteArray) (n : Nat) (hn : ss.length = n) : ∀ s ∈ ss, s ∈ pickL ss (fun j => n - 1 - j) n := by
  intro s hs
  obtain ⟨i, hi, rfl⟩ := List.getElem_of_mem hs
  unfold pickL
  refine List.mem_map.2 ⟨n - 1 - i, List.mem_range.2 (by omega), ?_⟩
  show ss.getD (n - 1 - (n - 1 - i)) ⟨#[]⟩ = _
  rw [show n - 1 - (n - 1 - i) = i by omega, sgetD hi]
theorem Try.info9 : (Try.prog.info? 9).map (fun i => (i.zero, i.size, i.bytes)) = some (some (.string ⟨#[]⟩), 1, 16) := by kernel_rfl
def strV (l : List ByteArray) : List Value := l.map fun s => Value.string s
def Apart (v u : Value) : Prop := ∀ g, v.ownBlock = some g → u.ownBlock ≠ some g
theorem Apart.symm {v u : Value} (h : Apart v u) : Apart u v := fun g hu hv => h g hv hu
/-- A text appended to a row of one's own, beside another row. -/
theorem appS (B : Nat) (w0 wr : World) (v u : Value) (ys zs : List ByteArray) (n m : Nat) (s : ByteArray) (hown : wr.ownsRow B 9 1 v n (strV ys)) (hu : wr.ownsRow B 9 1 u m (strV zs)) (hap : Apart v u) (hb : Below B w0 wr) (hB : B ≤ w0.heap.size) (p : Nat) (hp : wr.heap.size = p) (hl : n ≤ 1000000) :
    ∃ v' w2, (Builtin.append_ #[26, 26] 26 #[v, .slice (some ⟨p, 0, none⟩) 1 1]).run Try.prog (wr.alloc (.cells #[.string s] 9)) = .ok v' w2 ∧ w2.ownsRow B 9 1 v' (n + 1) (strV (ys ++ [s])) ∧ w2.ownsRow B 9 1 u m (strV zs) ∧ Apart v' u ∧ Below B w0 w2 := by
  subst hp
  obtain ⟨i0, hi0, hz0, hz1, hz2⟩ := info_parts Try.info9
  have hsz := hb.size
  obtain ⟨g, cap, w2, h1, h2, h3, h4, h5⟩ := run_append_lies (P := Try.prog) (wr.alloc (.cells #[.string s] 9)) 26 26 B 9 i0 (.string ⟨#[]⟩) 1 16 Try.underlying26 hi0 hz0 hz1 hz2 rfl (by decide) v n (strV ys) (hown.alloc _) ⟨wr.heap.size, 0, none⟩ 1 1 [.string s] rfl (cell_one_new _ _ _) (by intro u hu; simp at hu; subst hu; rfl) (by omega) (by unfold maxLen; omega) (by omega) (by simp; omega) (wr.heap.size + 1) (by simp)
  refine ⟨_, w2, h1, by unfold strV; rw [List.map_append]; exact h2, (hu.alloc _).kept h3 ?_, ?_, (hb.alloc (by omega) _).grown h3 (by simp; omega) (fun g hg => (hown.lt g hg).1)⟩
  · cases hub : u.ownBlock with
    | none => exact .inl rfl
    | some q =>
      right
      intro e
      exact hap q e.symm hub
  · intro q hq hu'
    have e2 : g = q := by simpa [Value.ownBlock] using hq
    subst e2
    rcases h4 with h4 | h4
    · exact hap g h4 hu'
    · have := (hu.lt g hu').2
      omega
theorem strs_of_own {w : World} {B n : Nat} {v : Value} {l : List ByteArray} (h : w.ownsRow B 9 1 v n (strV l)) : ∃ a cap, v = .slice a n cap ∧ l.length = n ∧ Strs w a l := by
  have hn : n = l.length := by have := h.1; simp [strV] at this; omega
  subst hn
  have hc := fun g hg => World.ownsRow.cells h (g := g) hg
  rcases h.2 with ⟨rfl, h0⟩ | ⟨g, cap, cur, rfl, hB, hg, h1, h2, h3, h4⟩
  · exact ⟨none, 0, by rw [h0], rfl, .inl (List.length_eq_zero_iff.1 h0)⟩
  · refine ⟨some ⟨g, 0, none⟩, cap, rfl, rfl, .inr ⟨g, 0, rfl, ?_, fun i hi => ?_⟩⟩
    · rcases Nat.lt_or_ge g w.heap.size with h | h
      · exact h
      · rw [Array.getElem?_eq_none h] at hg; cases hg
    · have := hc g rfl i (.string l[i]) (by simp [strV, hi])
      rw [addr_add] at this; exact this
end Go.Proofs.Ytfgcdmgbgadkgaa
