/-
  Bytes that came in, as the shells of the proofs tell them.
-/
import Derived.Test.YtipcbnjfeijheaaCrcW2
import Derived.Below
import Derived.Laws.IdiomStrings
import Derived.Lib.BufferRead
namespace Go.Proofs.Ytipcbnjfeijheaa
open Go.RowKit

/-- What is told of a slice of integers that came in (as the shell of the proof has it). -/
def IsRow (k : IntKind) (w : World) (a : Option Addr) (len cap : Nat) (zs : List Int) : Prop :=
  (a = none ∧ len = 0 ∧ cap = 0 ∧ zs = []) ∨
  ∃ x, a = some x ∧ len ≤ cap ∧ cap ≤ maxLen ∧ zs.length = cap ∧ (∀ i, i < zs.length → w.cell? (x.add i) = some (.int k (zs.getD i 0))) ∧ ∀ n ∈ zs, (Lit.int k n).wf = true

theorem wf_u32 {a : Int} (h : (Lit.int .u32 a).wf = true) : ∃ n : Nat, a = n ∧ n < 4294967296 := by
  simp [Lit.wf, IntKind.min, IntKind.max, IntKind.signed, IntKind.bits] at h
  exact ⟨a.toNat, by omega, by omega⟩
theorem wf_u8 {a : Int} (h : (Lit.int .u8 a).wf = true) : 0 ≤ a ∧ a < 256 := by
  simp [Lit.wf, IntKind.min, IntKind.max, IntKind.signed, IntKind.bits] at h; omega
theorem u8_bv {a : Int} (h : 0 ≤ a ∧ a < 256) : ((BitVec.ofInt 8 a).toNat : Int) = a := by
  rw [BitVec.toNat_ofInt]; omega

/-- Bytes that came in are bytes. -/
theorem IsRow.byt {w : World} {a : Option Addr} {len cap : Nat} {zs : List Int} (h : IsRow .u8 w a len cap zs) :
    ∃ l : List (BitVec 8), l.length = len ∧ Byt w a l ∧ len ≤ cap ∧ cap ≤ maxLen := by
  rcases h with ⟨_, rfl, rfl, _⟩ | ⟨x, rfl, h1, h2, h3, h4, h5⟩
  · exact ⟨[], rfl, .inl rfl, Nat.le_refl _, by unfold maxLen; omega⟩
  · refine ⟨(zs.take len).map (BitVec.ofInt 8), by simp; omega, ?_, h1, h2⟩
    by_cases h0 : len = 0
    · left; simp [h0]
    · right
      have hc0 := h4 0 (by omega)
      have hx : x.add 0 = x := by simp [Addr.add]
      rw [hx] at hc0
      obtain ⟨b, off, spot⟩ := x
      have hsp : spot = none := by
        cases spot with
        | none => rfl
        | some s => simp [World.cell?] at hc0; split at hc0 <;> simp at hc0
      subst hsp
      refine ⟨b, off, rfl, World.block_lt_of_cell? w _ hc0, fun i hi => ?_⟩
      simp at hi
      have := h4 i (by omega)
      have hadd : (⟨b, off, none⟩ : Addr).add i = ⟨b, off + i, none⟩ := by unfold Addr.add; split <;> simp_all
      rw [hadd] at this
      rw [this]
      have hg : zs.getD i 0 = zs[i]'(by omega) := by rw [List.getD_eq_getElem?_getD, List.getElem?_eq_getElem (by omega)]; rfl
      have hw := wf_u8 (h5 (zs[i]'(by omega)) (List.getElem_mem _))
      rw [hg]; simp only [List.getElem_map, List.getElem_take]
      rw [u8_bv hw]

theorem Byt.keep {w w' : World} {a : Option Addr} {l : List (BitVec 8)} (h : Byt w a l) (hb : Below w.heap.size w w') : Byt w' a l := by
  rcases h with h | ⟨b, off, rfl, hlt, hc⟩
  · exact .inl h
  · exact .inr ⟨b, off, rfl, Nat.lt_of_lt_of_le hlt hb.size, fun i hi => (hb.cell (p := ⟨b, off + i, none⟩) hlt).trans (hc i hi)⟩
theorem Byt.drewN {w : World} {a : Option Addr} {l : List (BitVec 8)} (h : Byt w a l) (n : Nat) : Byt (w.drewN n) a l := by
  rcases h with h | ⟨b, off, rfl, hlt, hc⟩
  · exact .inl h
  · exact .inr ⟨b, off, rfl, hlt, hc⟩
theorem Byt.drew {w : World} {a : Option Addr} {l : List (BitVec 8)} (h : Byt w a l) : Byt w.drew a l := by
  rcases h with h | ⟨b, off, rfl, hlt, hc⟩
  · exact .inl h
  · exact .inr ⟨b, off, rfl, hlt, hc⟩

/-- Bytes as a text. -/
def strOf (l : List (BitVec 8)) : ByteArray := ⟨(l.map fun c => UInt8.ofBitVec c).toArray⟩
theorem bytesOf_strOf (l : List (BitVec 8)) : bytesOf (strOf l) = l := by
  unfold bytesOf strOf
  simp only [List.map_map]
  conv => rhs; rw [← List.map_id l]
  apply List.map_congr_left
  intro c _
  simp
theorem strOf_size (l : List (BitVec 8)) : (strOf l).size = l.length := by
  show ((l.map fun c => UInt8.ofBitVec c).toArray).size = _
  simp
theorem conv_bytes {w : World} {a : Option Addr} {l : List (BitVec 8)} (h : Byt w a l) (ha : a = none → l = []) (cap : Nat) :
    (convert 22 9 (.slice a l.length cap)).run Try.prog w = .ok (.string (strOf l)) w := by
  cases a with
  | none =>
    have := ha rfl
    subst this
    exact Lib.run_convert_nil_bytes w 22 9 5 cap Try.underlying22 Try.underlying5 Try.underlying9
  | some x =>
    have h2 := run_convert_bytes_back (P := Try.prog) w 22 9 5 x cap (l.map fun c => UInt8.ofBitVec c) Try.underlying22 Try.underlying5 Try.underlying9 (fun j hj => by
      rcases h with rfl | ⟨b, off, hx, _, hc⟩
      · simp at hj
      · simp at hj
        have hadd : (⟨b, off, none⟩ : Addr).add j = ⟨b, off + j, none⟩ := by unfold Addr.add; split <;> simp_all
        rw [Option.some.inj hx, hadd, hc j hj]; simp)
    rw [List.length_map] at h2
    exact h2
end Go.Proofs.Ytipcbnjfeijheaa
