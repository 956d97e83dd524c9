/-
  Texts that came in; a row of texts of the law's own; the five names.
-/
import Derived.Test.YtaadfoelaeliiaaFsZ7
import Derived.Test.YtaadfoelaeliiaaFsChainsW
import Derived.Test.YtaadfoelaeliiaaFsLow
import Derived.Test.YtaadfoelaeliiaaFsFrame
import Derived.SliceStrings
namespace Go.Proofs.Ytaadfoelaeliiaa
open Go.RowKit Go.Maps

def IsStrs (w : World) (a : Option Addr) (len cap : Nat) (zs : List ByteArray) : Prop :=
  zs.length = len ∧ StrsAt w a zs ∧ len ≤ cap ∧ ∀ s ∈ zs, s.size ≤ 9223372036854775807
theorem open_strs {H : Type} {enc : TypeId × Value → H} {W : World} {base : Nat} {sp : Nat → Bool} {held : Bool} {fuel : Nat} {a : Option Addr} {len cap : Nat} {x : DataW H × List MemPlace}
    (h : DataW.trod enc Try.prog W base sp held fuel 47 (Value.cells (.slice a len cap)).toList = some x) : ∃ zs, IsStrs W a len cap zs := by
  rcases ChangeShapes.open_strings Try.underlying47 Try.underlying9 (by kernel_rfl) h with ⟨hcs, _⟩ | ⟨y, l, c, ss, hcs, _, hl, hm, hz, _, hcell, hsz⟩
  · simp [Value.cells] at hcs
    obtain ⟨rfl, rfl, rfl⟩ := hcs
    exact ⟨[], rfl, .inl rfl, Nat.le_refl _, by simp⟩
  · simp [Value.cells] at hcs
    obtain ⟨rfl, rfl, rfl⟩ := hcs
    have hle : len ≤ ss.length := by rw [hz]; split <;> omega
    refine ⟨ss.take len, by simp; omega, ?_, hl, fun s hs => ?_⟩
    · by_cases h0 : len = 0
      · left; simp [h0]
      · right
        have hc0 := hcell 0 (by omega)
        have hx : y.add 0 = y := by simp [Addr.add]
        rw [hx] at hc0
        obtain ⟨b, off, spot⟩ := y
        have hsp : spot = none := by
          cases spot with
          | none => rfl
          | some s => simp [World.cell?] at hc0; split at hc0 <;> simp at hc0
        subst hsp
        refine ⟨b, off, rfl, World.block_lt_of_cell? W _ hc0, fun i hi => ?_⟩
        simp at hi
        have := hcell i (by omega)
        rw [addr_add] at this
        rw [this]
        have hg : ss.getD i ByteArray.empty = ss[i]'(by omega) := by rw [List.getD_eq_getElem?_getD, List.getElem?_eq_getElem (by omega)]; rfl
        rw [hg, List.getElem_take]
    · have := hsz s (List.mem_of_mem_take hs)
      unfold maxLen at this; omega
/-- The five names in memory. -/
def KpAt (w : World) (kb : Nat) : Prop := w.heap[kb]? = some (.cells #[.string (strB (kp 0)), .string (strB (kp 1)), .string (strB (kp 2)), .string (strB (kp 3)), .string (strB (kp 4))] 9 (0, 0))
theorem KpAt.cell {w : World} {kb : Nat} (h : KpAt w kb) {i : Nat} (hi : i < 5) : w.cell? ⟨kb, i, none⟩ = some (.string (strB (kp i))) := by
  rw [cell_of_row w kb i _ _ _ h]
  rcases (show i = 0 ∨ i = 1 ∨ i = 2 ∨ i = 3 ∨ i = 4 by omega) with rfl | rfl | rfl | rfl | rfl <;> rfl
theorem KpAt.stay {G : Nat → Prop} {w w' : World} {kb : Nat} (h : KpAt w kb) (hS : Stay G w w') (hb : kb < w.heap.size) (hG : G kb) : KpAt w' kb := (hS.block kb hb hG).trans h
/-- A row of n texts of the law's own. -/
def SuAt (w : World) (sb n : Nat) (f : Nat → ByteArray) : Prop := ∃ cur, w.heap[sb]? = some (.cells cur 9 (0, 0)) ∧ cur.size = n ∧ ∀ k, k < n → cur[k]? = some (.string (f k))
section
variable {w w' : World} {sb n : Nat} {f : Nat → ByteArray}
theorem SuAt.cell (h : SuAt w sb n f) {k : Nat} (hk : k < n) : w.cell? ⟨sb, k, none⟩ = some (.string (f k)) := by
  obtain ⟨cur, h1, _, h3⟩ := h
  rw [cell_of_row w sb k _ _ _ h1]; exact h3 k hk
theorem SuAt.fz (h : SuAt w sb n f) (k : Nat) : w.frozen? ⟨sb, k, none⟩ = false := by
  obtain ⟨cur, h1, _⟩ := h
  simp [World.frozen?, h1]
theorem SuAt.lt (h : SuAt w sb n f) : sb < w.heap.size := by
  obtain ⟨cur, h1, _⟩ := h
  exact (Array.getElem?_eq_some_iff.1 h1).1
theorem SuAt.set (h : SuAt w sb n f) {k : Nat} (hk : k < n) (s : ByteArray) : SuAt (w.setCell ⟨sb, k, none⟩ (.string s)) sb n (upd f k s) := by
  obtain ⟨cur, h1, h2, h3⟩ := h
  refine ⟨_, Go.Joins.block_setCell h1 _, by simpa using h2, fun j hj => ?_⟩
  unfold upd
  by_cases e : j = k
  · subst e; rw [if_pos rfl, Array.getElem?_setIfInBounds_self_of_lt (by omega)]
  · rw [if_neg e, Array.getElem?_setIfInBounds_ne (fun e' => e e'.symm)]; exact h3 j hj
theorem SuAt.keep (h : SuAt w sb n f) (hb : w'.heap[sb]? = w.heap[sb]?) : SuAt w' sb n f := by
  obtain ⟨cur, h1, h2⟩ := h
  exact ⟨cur, hb.trans h1, h2⟩
theorem SuAt.stay {G : Nat → Prop} (h : SuAt w sb n f) (hS : Stay G w w') (hG : G sb) : SuAt w' sb n f := h.keep (hS.block sb h.lt hG)
end
theorem Try.info9 : (Try.prog.info? 9).map (fun i => (i.zero, i.size, i.bytes)) = some (some (.string ByteArray.empty), 1, 16) := by kernel_rfl
theorem make_strs (n : Nat) (hn : n ≤ 1048576) (w : World) : (Instr.makeSlice 47 (.int .i64 (n : Int)) (.int .i64 (n : Int))).run Try.prog w = .ok (.slice (some ⟨w.heap.size, 0, none⟩) n n) (w.alloc (.cells (madeCells #[.string ByteArray.empty] n) 9)) :=
  run_make_row' (P := Try.prog) 47 9 (.string ByteArray.empty) 16 Try.underlying47 Try.info9 rfl .i64 .i64 n (by omega) (by omega) w
theorem su_made (w : World) (n : Nat) : SuAt (w.alloc (.cells (madeCells #[.string ByteArray.empty] n) 9)) w.heap.size n (fun _ => ByteArray.empty) := by
  refine ⟨_, heap_alloc_new w _, size_madeCells _ _, fun k hk => ?_⟩
  rw [Array.getElem?_eq_getElem (by rw [size_madeCells]; exact hk)]
  simp [madeCells, Nat.mod_one]
end Go.Proofs.Ytaadfoelaeliiaa
