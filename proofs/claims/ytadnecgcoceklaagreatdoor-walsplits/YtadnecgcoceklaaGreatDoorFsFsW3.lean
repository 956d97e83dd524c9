/-
  A change that is done to names (the closures of Create, Rename, Remove).
-/
import Derived.Test.YtadnecgcoceklaaGreatDoorFsFsW2
namespace Go.Proofs.YtadnecgcoceklaaGreatDoor
open Go.RowKit Go.Maps

theorem box_cell {w : World} {F : Nat → Prop} {b : Nat} {v : Value} {t : TypeId} (h : BoxAt w F b v t) : w.cell? ⟨b, 0, none⟩ = some v := by
  rw [cell_of_row w b 0 _ _ _ h.1]; rfl
theorem short_len {s : Bs} (h : s.length ≤ 24) : (strB s).size ≤ maxLen := by rw [strB_size]; unfold maxLen; omega

set_option maxRecDepth 100000 in
set_option maxHeartbeats 400000 in
theorem create1_any {w : World} {F : Nat → Prop} {b : Nat} {blk : Nat → Nat} {d : Dir} (h : DirAt w b blk d) (hn : d.length < maxLen) {n : Bs} {i : Nat} {x : Nat × Nat × Nat} (hc : ChAt w F blk (.create n i) x) (hs : n.length ≤ 24) :
    Calls Tryz.prog 72 #[.map (some b), bp x.1, bp x.2.1] w fun e w' => e = .returned (.tuple #[]) ∧ DirAt w' b blk (Dir.put d n i) ∧ Touch b w w' := by
  have k1 := box_cell hc.1
  have k2 := box_cell hc.2
  obtain ⟨w1, hr, hd, ht⟩ := h.put hn (strB n) (short_len hs) i
  rw [strB_list] at hd
  have HD := Lib.hid hd
  have HT := Lib.hid ht
  clear h hc hd ht
  go_enter Tryz.func72, Tryz.ntmps72
  go_wp2
  go_end0
  exact ⟨rfl, HD.out, HT.out⟩
set_option maxRecDepth 100000 in
set_option maxHeartbeats 400000 in
theorem remove1_any {w : World} {F : Nat → Prop} {b : Nat} {blk : Nat → Nat} {d : Dir} (h : DirAt w b blk d) {n : Bs} {x : Nat × Nat × Nat} (hc : ChAt w F blk (.remove n) x) (hs : n.length ≤ 24) :
    Calls Tryz.prog 89 #[.map (some b), bp x.1] w fun e w' => e = .returned (.tuple #[]) ∧ DirAt w' b blk (Dir.del d n) ∧ Touch b w w' := by
  have k1 := box_cell hc
  obtain ⟨w1, hr, hd, ht⟩ := h.del (strB n) (short_len hs) 0
  rw [strB_list] at hd
  have HD := Lib.hid hd
  have HT := Lib.hid ht
  clear h hc hd ht
  go_enter Tryz.func89, Tryz.ntmps89
  go_wp2
  go_end0
  exact ⟨rfl, HD.out, HT.out⟩
def Ch.fn : Ch → Nat
  | .create _ _ => 72
  | .remove _ => 89
def Ch.caps (c : Ch) (x : Nat × Nat × Nat) : Array Value :=
  match c with
  | .create _ _ => #[bp x.1, bp x.2.1]
  | .remove _ => #[bp x.1]
theorem cval_eq (c : Ch) (x : Nat × Nat × Nat) : cval c x = .func (.func c.fn) #[] (c.caps x) := by cases c <;> rfl
/-- A change is done to the names of a map. -/
theorem ch_any {w : World} {F : Nat → Prop} {b : Nat} {blk : Nat → Nat} {d : Dir} (h : DirAt w b blk d) (hn : d.length < maxLen) {c : Ch} {x : Nat × Nat × Nat} (hc : ChAt w F blk c x) {n : Nat} (hs : c.ok n) :
    Calls Tryz.prog c.fn (#[.map (some b)] ++ c.caps x) w fun e w' => e = .returned (.tuple #[]) ∧ DirAt w' b blk (c.on d) ∧ Touch b w w' := by
  cases c with
  | create s i => exact create1_any h hn hc hs.1
  | remove s => exact remove1_any h hc hs
end Go.Proofs.YtadnecgcoceklaaGreatDoor

