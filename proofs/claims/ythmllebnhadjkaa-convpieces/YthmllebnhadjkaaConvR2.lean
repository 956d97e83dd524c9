/-
  What Told and the document's own Wrap, Clamp, Left, Right, Turn and Swap answer.
-/
import Derived.Test.YthmllebnhadjkaaConvR1
namespace Go.Proofs.Ythmllebnhadjkaa
open Go.RowKit

set_option maxRecDepth 100000 in
set_option maxHeartbeats 800000 in
theorem told_any (kind : Int) (hk : 0 ≤ kind ∧ kind ≤ 7) (w : World) (a : Option Addr) (cap : Nat) (l : List Bool) (hl : Bol w a l) (hw : l.length = widN kind) :
    Calls Try.prog 30 #[.int .i64 kind, .slice a l.length cap] w fun e w' => e = .returned (.int .i64 (fitI kind (whole l : Int))) ∧ Below w.heap.size w w' := by
  obtain ⟨t1, t2, t3⟩ := told_val hk l hw
  have hwid : 8 ≤ l.length ∧ l.length ≤ 64 := by rcases wid_le kind with h | h | h | h <;> omega
  have HL := Lib.hid hl
  obtain ⟨b, off, rfl, hc⟩ := hl.at (k := l.length - 1) (by omega)
  have hgd : l[l.length - 1] = l.getD (widN kind - 1) false := by rw [← hw]; rw [List.getD_eq_getElem?_getD, List.getElem?_eq_getElem (by omega)]; rfl
  rw [hgd] at hc
  clear hl hw hgd
  by_cases h4 : kind < 4
  · cases hb : l.getD (widN kind - 1) false
    · have HT := Lib.hid (t2 h4 hb)
      rw [hb] at hc
      clear t1 t2 t3 hb
      go_enter Try.func30, Try.ntmps30
      go_wp2_with fail
      refine (whole_any _ _ _ _ HL.out hwid.2).mono ?_
      rintro e w' ⟨rfl, rfl⟩
      go_wp2
      go_ret
      exact ⟨ret_int HT.out, Below.refl _ _⟩
    · have HT := Lib.hid (t1 h4 hb).1
      have HT2 := (t1 h4 hb).2
      rw [hb] at hc
      clear t1 t2 t3 hb
      obtain ⟨i0, hi0, hz0, hz1, hz2⟩ := info_parts Try.info4
      go_enter Try.func30, Try.ntmps30
      go_wp2
      go_loopw [5, 6] (fun v i wr => ∃ k : Nat, k ≤ l.length ∧ i = .int .i64 (k : Int) ∧ Hid (wr.ownsRow w.heap.size 4 1 v k (bls ((l.map (!·)).take k)) ∧ Below w.heap.size w wr)) (fun _ i _ => l.length - (intOf i).toNat)
      case atStart => exact ⟨0, by omega, rfl, World.ownsRow_nil _ _ _ _, Below.refl _ _⟩
      case round =>
        obtain ⟨k, hk2, rfl, hI⟩ := hrel
        by_cases hlt : k < l.length
        · have hsz := hI.out.2.size
          obtain ⟨b2, off2, e2, hck⟩ := (HL.out.keep hI.out.2).at hlt
          obtain ⟨rfl, rfl⟩ : b2 = b ∧ off2 = off := by simpa using e2.symm
          have HS : Hid ((l.map (!·)).take (k + 1) = (l.map (!·)).take k ++ [!l[k]]) := Lib.hid (by rw [List.take_succ_eq_append_getElem (by simpa using hlt)]; simp)
          generalize hbk : l[k] = bk at *
          clear hbk hc e2
          go_wp2_with (at_builtin; refine wpList_append_own _ rfl _ _ 40 rfl w.heap.size 4 i0 (.bool false) 1 1 Try.underlying40 hi0 hz0 hz1 hz2 rfl (by decide) _ k (bls ((l.map (!·)).take k)) rfl ?c0 ⟨wr.heap.size, 0, none⟩ 1 1 [.bool (!bk)] rfl rfl (cell_one_new _ _ _) ?c3 ?c4 ?c5 ?c6 ?_)
          case c0 => exact hI.out.1.alloc _
          case c3 => first | rfl | (intro u hu; simp at hu; subst hu; rfl)
          case c4 => unfold maxLen; omega
          case c5 => omega
          case c6 => first | omega | (simp; omega)
          intro v' w2 hown hgr hnil
          have HO : Hid (w2.ownsRow w.heap.size 4 1 v' (k + 1) (bls ((l.map (!·)).take (k + 1)))) := Lib.hid (by
            rw [HS.out, bls, List.map_append]; exact hown)
          have HB : Hid (Below w.heap.size w w2) := Lib.hid ((hI.out.2.alloc hsz _).grown hgr (by simp; omega) (fun g hg => (hI.out.1.lt g hg).1))
          clear hown hgr hnil hI
          go_wp2
          go_roundw
          case rel => exact ⟨k + 1, by omega, by go_num, HO.out, HB.out⟩
          case measure => simp [intOf]; omega
        · obtain rfl : k = l.length := by omega
          have hown := hI.out.1
          rw [List.take_of_length_le (by simp)] at hown
          obtain ⟨a5, cap5, rfl, hB5⟩ := bol_of_own hown
          have HB5 := Lib.hid hB5
          clear hown hB5
          go_wp2_with fail
          refine (whole_at _ _ _ _ _ (by simp) HB5.out hwid.2).mono ?_
          rintro e w' ⟨rfl, rfl⟩
          go_wp2
          go_ret
          exact ⟨ret_int HT.out, hI.out.2⟩
  · have HT := Lib.hid (t3 (by omega))
    clear t1 t2 t3 hc
    go_enter Try.func30, Try.ntmps30
    go_wp2_with fail
    refine (whole_any _ _ _ _ HL.out hwid.2).mono ?_
    rintro e w' ⟨rfl, rfl⟩
    go_wp2
    go_ret
    exact ⟨ret_int HT.out, Below.refl _ _⟩
end Go.Proofs.Ythmllebnhadjkaa
