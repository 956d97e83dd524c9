/-
  What next and DocPart answer; the law IkeyParts, walked.
-/
import Derived.Test.YtaeilfpaaogllaaIkBet
namespace Go.Proofs.Ytaeilfpaaogllaa
open Go.RowKit

/-- The next text of the same length, told by its ends: all 255, or p c 255.. -/
inductive NextIs : List Nat → Option (List Nat) → Prop
  | none (m : Nat) : NextIs (List.replicate m 255) none
  | some (p : List Nat) (c m : Nat) (h : c < 255) : NextIs (p ++ c :: List.replicate m 255) (some (p ++ (c + 1) :: List.replicate m 0))
theorem next_snoc {l : List Nat} {o : Option (List Nat)} (h : NextIs l o) : NextIs (l ++ [255]) (o.map (· ++ [0])) := by
  cases h with
  | none m => rw [show List.replicate m 255 ++ [255] = List.replicate (m + 1) 255 from List.replicate_succ'.symm]; exact .none (m + 1)
  | some p c m h =>
    have e1 : p ++ c :: List.replicate m 255 ++ [255] = p ++ c :: List.replicate (m + 1) 255 := by rw [List.replicate_succ']; simp
    have e2 : (some (p ++ (c + 1) :: List.replicate m 0)).map (· ++ [0]) = some (p ++ (c + 1) :: List.replicate (m + 1) 0) := by rw [List.replicate_succ']; simp
    rw [e1, e2]; exact .some p c (m + 1) h
/-- Bytes of one's own that may be written. -/
def BRow (w : World) (p : Nat) (l : List Nat) : Prop := p < w.heap.size ∧ ∀ i (_ : i < l.length), w.cell? ⟨p, i, none⟩ = some (.int .u8 (l[i] : Int)) ∧ w.frozen? ⟨p, i, none⟩ = false
theorem BRow.set {w : World} {p : Nat} {l : List Nat} (h : BRow w p l) (j x : Nat) (_hj : j < l.length) : BRow (w.setCell ⟨p, j, none⟩ (.int .u8 (x : Int))) p (l.set j x) := by
  refine ⟨by simpa [World.setCell] using h.1, fun i hi => ?_⟩
  rw [List.length_set] at hi
  obtain ⟨h1, h2⟩ := h.2 i hi
  refine ⟨?_, by rw [World.frozen?_setCell]; exact h2⟩
  by_cases e : j = i
  · subst e; rw [World.cell?_setCell_same _ _ _ h1]; simp
  · rw [World.cell?_setCell_other _ _ _ _ (by intro e2; injection e2; omega), h1]
    simp [e]
theorem BRow.byt {w : World} {p : Nat} {l : List Nat} (h : BRow w p l) : Byt w (some ⟨p, 0, none⟩) l := .inr ⟨p, 0, rfl, h.1, fun i hi => by rw [Nat.zero_add]; exact (h.2 i hi).1⟩
/-- A text's bytes, laid anew, may be written. -/
theorem conv_row (wr : World) (s : ByteArray) (p : Nat) (hp : wr.heap.size = p) :
    ∃ cap w2, (convert 9 24 (.string s)).run Try.prog wr = .ok (.slice (some ⟨p, 0, none⟩) s.size cap) w2 ∧ s.size ≤ cap ∧ BRow w2 p (natsOf s) ∧ Below wr.heap.size wr w2 := by
  subst hp
  have h := run_bytes_of_string (P := Try.prog) wr 9 24 5 s Try.underlying9 Try.underlying24 Try.underlying5
  have hge := grownCap_ge wr s.size 0 5
  generalize grownCap wr s.size 0 5 = cap at *
  have hrs : (bytesRow s cap).size = cap := by
    unfold bytesRow; simp
    have : s.data.size = s.size := rfl
    omega
  rw [hrs] at h
  refine ⟨_, _, h, hge, ⟨by simp, fun i hi => ?_⟩, ((Below.refl _ wr).drew).alloc (by simp) _⟩
  rw [natsOf_length] at hi
  have e : (wr.drew.alloc (.cells (bytesRow s cap) 5 (cap, cap + 1))).heap[wr.heap.size]? = some (.cells (bytesRow s cap) 5 (cap, cap + 1)) := by
    show (wr.heap.push _)[wr.heap.size]? = _
    simp
  constructor
  · rw [cell_of_row _ _ _ _ _ _ e]
    unfold bytesRow
    have hd : i < s.data.size := hi
    rw [Array.getElem?_append_left (by simpa using hd)]
    simp [natsOf]
    exact ⟨s.data[i], Array.getElem?_eq_getElem hd, rfl⟩
  · unfold World.frozen?
    rw [e]
    simp; omega
/-- The first j as they were, noughts behind. -/
def turnL (l : List Nat) (j : Nat) : List Nat := l.take j ++ List.replicate (l.length - j) 0
theorem turn_all (l : List Nat) : turnL l l.length = l := by simp [turnL]
theorem turn_len (l : List Nat) (j : Nat) (h : j ≤ l.length) : (turnL l j).length = l.length := by simp [turnL]; omega
theorem turn_get (l : List Nat) (j : Nat) (h : j < l.length) : (turnL l (j + 1))[j]'(by rw [turn_len l _ (by omega)]; exact h) = l[j] := by
  simp only [turnL]
  rw [List.getElem_append_left (by simp; omega)]
  simp
theorem turn_set (l : List Nat) (j x : Nat) (h : j < l.length) : (turnL l (j + 1)).set j x = l.take j ++ x :: List.replicate (l.length - (j + 1)) 0 := by
  unfold turnL
  rw [List.take_succ_eq_append_getElem h, List.append_assoc, List.set_append_right _ _ (by simp; omega)]
  congr 1
  rw [List.length_take, Nat.min_eq_left (by omega), Nat.sub_self]
  rfl
theorem turn_step (l : List Nat) (j : Nat) (h : j < l.length) : (turnL l (j + 1)).set j 0 = turnL l j := by
  rw [turn_set l j 0 h]
  unfold turnL
  rw [show l.length - j = (l.length - (j + 1)) + 1 by omega, List.replicate_succ]
theorem rest255 (l : List Nat) (j : Nat) (h : j < l.length) (hr : l.drop (j + 1) = List.replicate (l.length - (j + 1)) 255) : l = l.take j ++ l[j] :: List.replicate (l.length - (j + 1)) 255 := by
  rw [← hr, ← List.drop_eq_getElem_cons h, List.take_append_drop]
set_option maxRecDepth 100000 in
set_option maxHeartbeats 800000 in
theorem next_any (s : ByteArray) (hs : s.size ≤ 1000) (w : World) :
    Calls Try.prog 30 #[.string s] w fun e w' => ∃ o, NextIs (natsOf s) o ∧ e = .returned (.tuple #[.string (strOf (o.getD [])), .bool o.isSome]) ∧ Below w.heap.size w w' := by
  have HNL := Lib.hid (natsOf_length s)
  have HNB := Lib.hid (natsOf_byte s)
  obtain ⟨cap, w2, hcv, hcap, hrow, hb2⟩ := conv_row w s w.heap.size rfl
  have HR := Lib.hid hrow
  have HB2 := Lib.hid hb2
  clear hrow hb2
  generalize natsOf s = l at *
  go_enter Try.func30, Try.ntmps30
  go_wp2_with fail
  clear hcv
  go_loopw [5] (fun i wr => ∃ j : Nat, j ≤ s.size ∧ i = .int .i64 ((j : Int) - 1) ∧ Hid (BRow wr w.heap.size (turnL l j) ∧ l.drop j = List.replicate (l.length - j) 255 ∧ Below w.heap.size w wr)) (fun i _ => (intOf i + 1).toNat)
  case atStart => exact ⟨s.size, Nat.le_refl _, rfl, by rw [← HNL.out, turn_all]; exact HR.out, by rw [← HNL.out]; simp, HB2.out⟩
  case round =>
    obtain ⟨j, hj, rfl, hI⟩ := hrel
    cases j with
    | zero =>
      have HO : Hid (NextIs l none) := Lib.hid (by
        have := hI.out.2.1
        simp at this
        rw [this]; exact .none _)
      have HB := Lib.hid hI.out.2.2
      clear hI HR HB2
      go_wp2
      go_ret2
      exact ⟨none, HO.out, rfl, HB.out⟩
    | succ j =>
      rw [show ((j + 1 : Nat) : Int) - 1 = (j : Int) by omega]
      have hjl : j < l.length := by rw [HNL.out]; omega
      obtain ⟨hrow, hrest, hbel⟩ := hI.out
      have hx := HNB.out l[j] (List.getElem_mem hjl)
      have hg := turn_get l j hjl
      obtain ⟨c1, f1⟩ := hrow.2 j (by rw [turn_len l _ (by omega)]; exact hjl)
      rw [hg] at c1
      have hset := fun x => hrow.set j x (by rw [turn_len l _ (by omega)]; exact hjl)
      by_cases h255 : l[j] = 255
      · rw [h255] at c1
        have h0 := hset 0
        rw [turn_step l j hjl] at h0
        have HF : Hid (BRow (wr.setCell ⟨w.heap.size, j, none⟩ (.int .u8 0)) w.heap.size (turnL l j) ∧ l.drop j = List.replicate (l.length - j) 255 ∧ Below w.heap.size w (wr.setCell ⟨w.heap.size, j, none⟩ (.int .u8 0))) := Lib.hid ⟨h0, by
            rw [List.drop_eq_getElem_cons hjl, hrest, h255, show l.length - j = (l.length - (j + 1)) + 1 by omega, List.replicate_succ], hbel.setCell (p := ⟨w.heap.size, j, none⟩) (Nat.le_refl _) _⟩
        clear hI hrow hrest hbel hset h0 HR HB2 hg
        go_wp2
        go_roundw
        case rel => exact ⟨j, by omega, rfl, HF.out⟩
        case measure => simp [intOf]
      · have h1 := hset (l[j] + 1)
        rw [turn_set l j _ hjl] at h1
        have HO : Hid (NextIs l (some (l.take j ++ (l[j] + 1) :: List.replicate (l.length - (j + 1)) 0))) := Lib.hid (by
          have := NextIs.some (l.take j) l[j] (l.length - (j + 1)) (by omega)
          rw [← rest255 l j hjl hrest] at this
          exact this)
        have hbyt : ∀ x ∈ l.take j ++ (l[j] + 1) :: List.replicate (l.length - (j + 1)) 0, x < 256 := by
          intro x hx'
          rcases List.mem_append.1 hx' with h | h
          · exact HNB.out x (List.mem_of_mem_take h)
          · rcases List.mem_cons.1 h with h | h
            · omega
            · have := List.eq_of_mem_replicate h; omega
        have hlen : (l.take j ++ (l[j] + 1) :: List.replicate (l.length - (j + 1)) 0).length = s.size := by rw [← HNL.out]; simp; omega
        have hcv := conv_bytes h1.byt hbyt (fun h => by cases h) cap s.size hlen
        have HB := Lib.hid (fun v => hbel.setCell (p := ⟨w.heap.size, j, none⟩) (Nat.le_refl _) v)
        have hw8 : IntKind.u8.wrap ((l[j] : Int) + 1) = ((l[j] + 1 : Nat) : Int) := by simp [IntKind.wrap, IntKind.bits, IntKind.signed]; omega
        have hne : (((l[j] + 1 : Nat) : Int) != 0) = true := by simp; omega
        clear hI hrow hrest hbel hset h1 HR HB2 hg hbyt hlen h255
        generalize l.take j ++ (l[j] + 1) :: List.replicate (l.length - (j + 1)) 0 = R at *
        generalize l[j] = c at *
        have ec : ((c + 1 : Nat) : Int) = (c : Int) + 1 := by omega
        rw [ec] at hcv hw8 hne
        clear ec
        go_wp2
        go_ret2
        exact ⟨some R, HO.out, rfl, HB.out _⟩
end Go.Proofs.Ytaeilfpaaogllaa
