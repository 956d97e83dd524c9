/-
  Are texts the same (Texts of the document's package)?
-/
import Derived.Test.YtadnecgcoceklaaGreatDoorFsFsX1
namespace Go.Proofs.YtadnecgcoceklaaGreatDoor
open Go.RowKit Go.Maps

theorem StrsAt.at {w : World} {ad : Option Addr} {l : List ByteArray} (h : StrsAt w ad l) {k : Nat} (hk : k < l.length) : ∃ b off, ad = some ⟨b, off, none⟩ ∧ w.cell? ⟨b, off + k, none⟩ = some (.string l[k]) := by
  rcases h with h | ⟨b, off, he, _, hc⟩
  · subst h; simp at hk
  · exact ⟨b, off, he, hc k hk⟩
theorem StrsAt.drewN {w : World} {ad : Option Addr} {l : List ByteArray} (h : StrsAt w ad l) (n : Nat) : StrsAt (w.drewN n) ad l := (Stay.drewN (fun _ => True) w n).strs h (fun _ _ _ => trivial)
theorem str_ne {s t : ByteArray} : (s.toList != t.toList) = decide (s ≠ t) := by
  rw [bytes_ne]
  congr 1
  refine propext (not_congr ⟨fun h => ?_, fun h => by rw [h]⟩)
  apply ByteArray.ext
  exact Array.toList_inj.1 h

set_option maxRecDepth 100000 in
set_option maxHeartbeats 400000 in
theorem texts_any {w : World} {ad bd : Option Addr} {l m : List ByteArray} (hl : StrsAt w ad l) (hm : StrsAt w bd m) {ln mn : Nat} (el : l.length = ln) (em : m.length = mn) (c1 c2 : Nat) (h62 : ln < 4611686018427387904) :
    Calls Tryz.prog 22 #[.slice ad ln c1, .slice bd mn c2] w fun e w' => e = .returned (.bool (decide (l = m))) ∧ ∃ n, w' = w.drewN n := by
  have HL := Lib.hid hl
  have HM := Lib.hid hm
  have EL := Lib.hid el
  have EM := Lib.hid em
  by_cases hne : ln = mn
  · subst hne
    clear hl hm el em
    go_enter Tryz.func22, Tryz.ntmps22
    go_wp2_with fail
    go_loopw [5] (fun u wr => ∃ i n : Nat, u = .int .i64 i ∧ i ≤ ln ∧ wr = w.drewN n ∧ l.take i = m.take i) (fun u _ => ln - (intOf u).toNat)
    case atStart => exact ⟨0, 0, rfl, Nat.zero_le _, rfl, by simp⟩
    case round =>
      obtain ⟨i, n, rfl, hi, rfl, hpre⟩ := hrel
      by_cases hin : i < ln
      · have h1 : i < l.length := by rw [EL.out]; exact hin
        have h2 : i < m.length := by rw [EM.out]; exact hin
        obtain ⟨b1, o1, rfl, k1⟩ := HL.out.at h1
        obtain ⟨b2, o2, rfl, k2⟩ := HM.out.at h2
        have HP := Lib.hid hpre
        have hE : l.take (i + 1) = m.take (i + 1) ↔ l[i] = m[i] := by
          have e1 : l.take (i + 1) = l.take i ++ [l[i]] := by rw [List.take_add_one, List.getElem?_eq_getElem h1]; rfl
          have e2 : m.take (i + 1) = m.take i ++ [m[i]] := by rw [List.take_add_one, List.getElem?_eq_getElem h2]; rfl
          rw [e1, e2, hpre]
          exact ⟨fun h => (List.cons.inj (List.append_cancel_left h)).1, fun h => by rw [h]⟩
        have hS := @str_ne l[i] m[i]
        have HE := Lib.hid hE
        by_cases hsame : l[i] = m[i]
        · have HS := Lib.hid (hE.2 hsame)
          generalize l[i] = s1 at *
          generalize m[i] = s2 at *
          subst hsame
          rw [decide_eq_false (by simp)] at hS
          clear hpre hE HE
          go_wp2_with fail
          go_quiet (fail)
          go_wp2
          go_roundw
          case rel => exact ⟨i + 1, _, by go_num, by omega, rfl, HS.out⟩
          case measure => simp [intOf]; omega
        · have HF := Lib.hid (show l ≠ m from fun e => hsame (hE.1 (by rw [e])))
          generalize l[i] = s1 at *
          generalize m[i] = s2 at *
          rw [decide_eq_true hsame] at hS
          have hS2 : (s1.toList == s2.toList) = false := by simpa [bne] using hS
          clear hpre hE HE
          go_wp2_with fail
          go_quiet (fail)
          go_wp2
          go_ret
          exact ⟨by rw [decide_eq_false HF.out]; rfl, _, World.drewN_drewN ..⟩
      · obtain rfl : i = ln := by omega
        have HF := Lib.hid (show l = m from by
          have := hpre
          rw [List.take_of_length_le (by rw [EL.out]; exact Nat.le_refl _), List.take_of_length_le (by rw [EM.out]; exact Nat.le_refl _)] at this
          exact this)
        clear hpre
        go_wp2
        go_ret
        exact ⟨by rw [decide_eq_true HF.out]; rfl, _, rfl⟩
  · have hne2 : ((ln : Int) != (mn : Int)) = true := by simp; omega
    have HF := Lib.hid (show l ≠ m from fun e => by subst e; omega)
    clear hl hm el em
    go_enter Tryz.func22, Tryz.ntmps22
    go_wp2
    go_ret
    exact ⟨by rw [decide_eq_false HF.out]; rfl, 0, rfl⟩
end Go.Proofs.YtadnecgcoceklaaGreatDoor

