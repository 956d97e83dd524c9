/-
  below, taker and what it makes (package fs).
-/
import Derived.Test.YtadnecgcoceklaaGreatDoorFsFsWF
namespace Go.Proofs.YtadnecgcoceklaaGreatDoor
open Go.RowKit Go.Maps

set_option maxRecDepth 100000 in
set_option maxHeartbeats 400000 in
theorem below_any {w : World} (p m : Nat) (hp : p < 18446744073709551616) (hm : m < 4611686018427387904) :
    Calls Tryz.prog 92 #[.int .u64 (p : Int), .int .i64 (m : Int)] w fun e w' => e = .returned (.int .i64 ((p % (m + 1) : Nat) : Int)) ∧ w' = w := by
  go_enter Tryz.func92, Tryz.ntmps92
  go_wp2
  go_ret
  refine ⟨?_, rfl⟩
  show Ending.returned (.int .i64 (wrap64 ((p : Int) % ((m : Int) + 1)))) = _
  have h1 : p % (m + 1) < m + 1 := Nat.mod_lt _ (by omega)
  have e : (p : Int) % ((m : Int) + 1) = ((p % (m + 1) : Nat) : Int) := by rw [Int.natCast_emod, Int.natCast_add]; rfl
  rw [e]
  congr 2
  unfold wrap64
  omega

/-- The picks, and how many are taken. -/
structure Tk (w : World) (tb : Nat) (ad : Option Addr) (cap : Nat) (zs : List Int) (k : Nat) : Prop where
  p : w.heap[tb]? = some (.cells #[.slice ad zs.length cap] 44 (0, 0))
  t : w.heap[tb + 1]? = some (.cells #[.int .i64 (k : Int)] 3 (0, 0))
  r : zs = [] ∨ ∃ b off, ad = some ⟨b, off, none⟩ ∧ b < tb ∧ ∀ i (h : i < zs.length), w.cell? ⟨b, off + i, none⟩ = some (.int .i64 zs[i])
  le : k ≤ zs.length
  len : zs.length < 4611686018427387904
def Apart (F : Nat → Prop) (tb : Nat) (ad : Option Addr) : Prop := ∀ k, F k → k ≠ tb ∧ k ≠ tb + 1 ∧ ∀ b off, ad = some ⟨b, off, none⟩ → k ≠ b
theorem Tk.keep {w w' : World} {tb : Nat} {ad : Option Addr} {cap : Nat} {zs : List Int} {k : Nat} (h : Tk w tb ad cap zs k) (hk : ∀ j, j < w.heap.size → (j = tb ∨ j = tb + 1 ∨ ∃ b off, ad = some ⟨b, off, none⟩ ∧ j = b) → w'.heap[j]? = w.heap[j]?) : Tk w' tb ad cap zs k := by
  have h1 : tb + 1 < w.heap.size := (Array.getElem?_eq_some_iff.1 h.t).1
  refine ⟨(hk tb (by omega) (.inl rfl)).trans h.p, (hk (tb + 1) h1 (.inr (.inl rfl))).trans h.t, ?_, h.le, h.len⟩
  rcases h.r with h0 | ⟨b, off, he, hb, hc⟩
  · exact .inl h0
  · exact .inr ⟨b, off, he, hb, fun i hi => (World.cell?_of_block (a := ⟨b, off + i, none⟩) (hk b (by omega) (.inr (.inr ⟨b, off, he, rfl⟩)))).trans (hc i hi)⟩
theorem Tk.moves {w w' : World} {tb : Nat} {ad : Option Addr} {cap : Nat} {zs : List Int} {k : Nat} (h : Tk w tb ad cap zs k) {F F' : Nat → Prop} (hM : Moves F w F' w') (ha : Apart F tb ad) : Tk w' tb ad cap zs k :=
  h.keep fun j hj he => hM.block j hj (fun hF => by
    obtain ⟨h1, h2, h3⟩ := ha j hF
    rcases he with he | he | ⟨b, off, he, hb⟩
    · exact h1 he
    · exact h2 he
    · exact h3 b off he hb)
theorem Tk.lt {w : World} {tb : Nat} {ad : Option Addr} {cap : Nat} {zs : List Int} {k : Nat} (h : Tk w tb ad cap zs k) : tb + 1 < w.heap.size := (Array.getElem?_eq_some_iff.1 h.t).1
theorem Apart.moves {w w' : World} {tb : Nat} {ad : Option Addr} {cap : Nat} {zs : List Int} {k : Nat} (h : Tk w tb ad cap zs k) (hb : ∀ b off, ad = some ⟨b, off, none⟩ → b < tb) {F F' : Nat → Prop} (hM : Moves F w F' w') (ha : Apart F tb ad) : Apart F' tb ad := fun j hj => by
  have := h.lt
  rcases hM.foot j hj with h1 | h1
  · exact ha j h1
  · exact ⟨by omega, by omega, fun b off he => by have := hb b off he; omega⟩

set_option maxRecDepth 100000 in
set_option maxHeartbeats 400000 in
theorem taker_any {w : World} (ad : Option Addr) (n cap : Nat) :
    Calls Tryz.prog 61 #[.slice ad n cap] w fun e w' => e = .returned (.func (.func 91) #[] #[bp (w.heap.size + 1), bp w.heap.size]) ∧ w' = (w.alloc (.cells #[.slice ad n cap] 44)).alloc (.cells #[.int .i64 0] 3) := by
  have hmf : ∀ (fn : Fn) (first cap : Array Value) (w : World), (Instr.makeFunc fn first cap).run Tryz.prog w = .ok (.func fn first cap) w := fun _ _ _ _ => rfl
  go_enter Tryz.func61, Tryz.ntmps61
  go_wp2
  go_ret
  exact ⟨rfl, rfl⟩
theorem pk_drop {zs : List Int} {k : Nat} (h : k < zs.length) : pk (zs.drop k) = (zs[k] % 18446744073709551616).toNat := by
  unfold pk
  rw [List.drop_eq_getElem_cons h]; rfl

set_option maxRecDepth 100000 in
set_option maxHeartbeats 400000 in
theorem taker1_any {w : World} {tb : Nat} {ad : Option Addr} {cap : Nat} {zs : List Int} {k : Nat} (h : Tk w tb ad cap zs k) :
    Calls Tryz.prog 91 #[bp (tb + 1), bp tb] w fun e w' => e = .returned (.int .u64 (pk (zs.drop k) : Int)) ∧ Tk w' tb ad cap zs (min (k + 1) zs.length) ∧ Touch (tb + 1) w w' := by
  have c0 : w.cell? ⟨tb + 1, 0, none⟩ = some (.int .i64 (k : Int)) := by rw [cell_of_row w _ 0 _ _ _ h.t]; rfl
  have c1 : w.cell? ⟨tb, 0, none⟩ = some (.slice ad zs.length cap) := by rw [cell_of_row w _ 0 _ _ _ h.p]; rfl
  have z0 : w.frozen? ⟨tb + 1, 0, none⟩ = false := by simp [World.frozen?, h.t]
  have H := Lib.hid h
  have hlen := h.len
  by_cases hk : k = zs.length
  · subst hk
    have HP := Lib.hid (show pk (zs.drop zs.length) = 0 by rw [List.drop_length]; rfl)
    have HM := Lib.hid (show min (zs.length + 1) zs.length = zs.length by omega)
    clear h
    go_enter Tryz.func91, Tryz.ntmps91
    go_wp2
    go_ret
    rw [HP.out, HM.out]
    exact ⟨rfl, H.out, Touch.refl _ _⟩
  · have hlt : k < zs.length := by have := h.le; omega
    have HP := Lib.hid (pk_drop hlt)
    rcases h.r with h0 | ⟨b, off, he, hb, hc⟩
    · rw [h0] at hlt; simp at hlt
    · subst he
      have ht1 : Touch (tb + 1) w (w.setCell ⟨tb + 1, 0, none⟩ (.int .i64 ((k : Int) + 1))) := Touch.setCell (a := ⟨tb + 1, 0, none⟩) _
      have d0 : (w.setCell ⟨tb + 1, 0, none⟩ (.int .i64 ((k : Int) + 1))).cell? ⟨b, off + k, none⟩ = some (.int .i64 zs[k]) := (World.cell?_of_block (a := ⟨b, off + k, none⟩) (ht1.block b (by omega))).trans (hc k hlt)
      have d1 : (w.setCell ⟨tb + 1, 0, none⟩ (.int .i64 ((k : Int) + 1))).cell? ⟨tb, 0, none⟩ = some (.slice (some ⟨b, off, none⟩) zs.length cap) := (World.cell?_of_block (a := ⟨tb, 0, none⟩) (ht1.block tb (by omega))).trans c1
      have e2 := Go.Joins.block_setCell (i := 0) h.t (.int .i64 ((k : Int) + 1))
      have d2 : (w.setCell ⟨tb + 1, 0, none⟩ (.int .i64 ((k : Int) + 1))).cell? ⟨tb + 1, 0, none⟩ = some (.int .i64 ((k : Int) + 1)) := by rw [cell_of_row _ _ 0 _ _ _ e2]; rfl
      have HE := Lib.hid (show Tk (w.setCell ⟨tb + 1, 0, none⟩ (.int .i64 ((k : Int) + 1))) tb (some ⟨b, off, none⟩) cap zs (min (k + 1) zs.length) from by
        rw [show min (k + 1) zs.length = k + 1 by omega]
        refine ⟨(ht1.block tb (by omega)).trans h.p, e2, .inr ⟨b, off, rfl, hb, fun i hi => (World.cell?_of_block (a := ⟨b, off + i, none⟩) (ht1.block b (by omega))).trans (hc i hi)⟩, by omega, hlen⟩)
      have HT := Lib.hid ht1
      generalize hz : zs[k] = z at *
      clear h hz hc e2 ht1
      go_enter Tryz.func91, Tryz.ntmps91
      go_wp2
      go_ret
      rw [HP.out]
      refine ⟨?_, HE.out, HT.out⟩
      show Ending.returned (.int .u64 (IntKind.u64.wrap z)) = _
      congr 2
      have e : IntKind.u64.wrap z = z % 18446744073709551616 := by simp [IntKind.wrap, IntKind.bits, IntKind.signed]
      rw [e]; omega
end Go.Proofs.YtadnecgcoceklaaGreatDoor

