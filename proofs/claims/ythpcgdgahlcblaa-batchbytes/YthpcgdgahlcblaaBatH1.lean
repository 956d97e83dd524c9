/-
  What the document's Check answers.
-/
import Derived.Test.YthpcgdgahlcblaaBatG1
namespace Go.Proofs.Ythpcgdgahlcblaa
open Go.RowKit

set_option maxRecDepth 100000 in
set_option maxHeartbeats 2000000 in
theorem rDocCheck_any (seq : Int) (hs : -9223372036854775808 ≤ seq ∧ seq ≤ 9223372036854775807) (w : World) (a : Option Addr) (n cap : Nat) (l : List OpV) (hl : OpsAt w a l) (hn : l.length = n) (hm : n ≤ 9223372036854775807) :
    Calls Try.prog 28 #[.int .i64 seq, .slice a n cap] w fun e w' => e = .returned (.int .i64 (chkI seq l)) ∧ Below w.heap.size w w' := by
  have HV : Hid (chkI seq l = if 200 < n ∨ l.any bigB = true then 14 else if n = 0 ∨ l.any formB = true then 2 else if seq < 1 ∨ 72057594037927935 - ((n : Int) - 1) < seq then 1 else 0) := Lib.hid (by unfold chkI; rw [hn])
  have HL := Lib.hid hl
  have HN := Lib.hid hn
  clear hl hn
  by_cases h200 : 200 < n
  · have HV2 : Hid (chkI seq l = 14) := Lib.hid (by rw [HV.out, if_pos (.inl h200)])
    go_enter Try.func28, Try.ntmps28
    go_wp2
    go_ret
    exact ⟨by rw [HV2.out]; rfl, Below.refl _ _⟩
  · go_enter Try.func28, Try.ntmps28
    go_wp2_with fail
    go_loop [5] (fun x => ∃ i : Nat, x = .int .i64 (i : Int) ∧ i ≤ n ∧ Hid ((l.take i).any bigB = false)) (fun x => n - (intOf x).toNat)
    case atStart => exact ⟨0, rfl, Nat.zero_le _, Lib.hid rfl⟩
    case round =>
      obtain ⟨i, rfl, hi, HA⟩ := hrel
      by_cases hin : i < n
      · have hil : i < l.length := by rw [HN.out]; exact hin
        obtain ⟨b, off, rfl, hlt, c0, c1, c2⟩ := HL.out.at hil
        have HT : Hid (bigB l[i] = true → chkI seq l = 14) := Lib.hid (fun h => by rw [HV.out, if_pos (.inr (any_true hil h))])
        have HF := Lib.hid (fun h => any_step (p := bigB) hil HA.out h)
        have HB : Hid (bigB l[i] = (decide (64 < l[i].key.size) || decide (1000 < l[i].val.size))) := Lib.hid rfl
        generalize l[i] = o at *
        obtain ⟨kd, ky, vl⟩ := o
        dsimp only at c0 c1 c2 HB
        by_cases h1 : 64 < ky.size
        · have HT2 := Lib.hid (HT.out (by rw [HB.out, decide_eq_true h1]; rfl))
          clear HT HF HB
          go_wp2_with fail
          go_ret
          exact ⟨by rw [HT2.out]; rfl, Below.refl _ _⟩
        · by_cases h2 : 1000 < vl.size
          · have HT2 := Lib.hid (HT.out (by rw [HB.out, decide_eq_true h2]; simp))
            clear HT HF HB
            go_wp2_with fail
            go_ret
            exact ⟨by rw [HT2.out]; rfl, Below.refl _ _⟩
          · have HF2 := Lib.hid (HF.out (by rw [HB.out, decide_eq_false h1, decide_eq_false h2]; rfl))
            clear HT HF HB
            go_wp2_with fail
            go_round
            case rel => exact ⟨i + 1, by go_num, by omega, HF2⟩
            case measure => simp [intOf]; omega
      · obtain rfl : i = n := by omega
        have HBN : Hid (l.any bigB = false) := Lib.hid (by
          have := HA.out
          rwa [List.take_of_length_le (by rw [HN.out]; exact Nat.le_refl _)] at this)
        have HV3 : Hid (chkI seq l = if i = 0 ∨ l.any formB = true then 2 else if seq < 1 ∨ 72057594037927935 - ((i : Int) - 1) < seq then 1 else 0) := Lib.hid (by rw [HV.out, if_neg (by rw [HBN.out]; simp; omega)])
        clear HA HV HBN
        go_wp2_with fail
        go_loopw [6] (fun x wr => ∃ k : Nat, x = .int .i64 (k : Int) ∧ k ≤ i ∧ Below w.heap.size w wr ∧ Hid ((l.take k).any formB = false)) (fun x _ => i - (intOf x).toNat)
        case atStart => exact ⟨0, rfl, Nat.zero_le _, Below.refl _ _, Lib.hid rfl⟩
        case round =>
          obtain ⟨k, rfl, hk, hbel, HA⟩ := hrel
          have HB := Lib.hid hbel
          have hws := hbel.size
          clear hbel
          by_cases hin2 : k < i
          · have hil : k < l.length := by rw [HN.out]; exact hin2
            obtain ⟨b, off, rfl, hlt, c0, c1, c2⟩ := (HL.out.keep HB.out).at hil
            have HT : Hid (formB l[k] = true → chkI seq l = 2) := Lib.hid (fun h => by rw [HV3.out, if_pos (.inr (any_true hil h))])
            have HF := Lib.hid (fun h => any_step (p := formB) hil HA.out h)
            have HFB : Hid (formB l[k] = if l[k].kind = 1 then decide (l[k].key.size = 0) else if l[k].kind = 0 then decide (l[k].key.size = 0) || !decide (l[k].val.size = 0) else true) := Lib.hid rfl
            generalize l[k] = o at *
            obtain ⟨kd, ky, vl⟩ := o
            dsimp only at c0 c1 c2 HFB
            have hk := str_none ky
            have hv := str_none vl
            obtain ⟨bk, hbk⟩ : ∃ bk, decide (ky.size = 0) = bk := ⟨_, rfl⟩
            obtain ⟨bv', hbv⟩ : ∃ bv', decide (vl.size = 0) = bv' := ⟨_, rfl⟩
            rw [hbk, hbv] at HFB
            rw [hbk] at hk
            rw [hbv] at hv
            clear hbk hbv
            have HB1 : ∀ o, Hid (Below w.heap.size w (wr.alloc o)) := fun o => Lib.hid (HB.out.trans (below_alloc hws o))
            by_cases h1 : kd = 1
            · subst h1
              rw [if_pos rfl] at HFB
              cases bk with
              | true =>
                have HT2 := Lib.hid (HT.out (by rw [HFB.out]))
                clear HT HF HFB
                go_wp2_with fail
                go_ret
                exact ⟨by rw [HT2.out]; rfl, (HB1 _).out⟩
              | false =>
                have HF2 := Lib.hid (HF.out (by rw [HFB.out]))
                clear HT HF HFB
                go_wp2_with fail
                go_roundw
                case rel => exact ⟨k + 1, by go_num, by omega, (HB1 _).out, HF2⟩
                case measure => simp [intOf]; omega
            · rw [if_neg h1] at HFB
              by_cases h2 : kd = 0
              · subst h2
                rw [if_pos rfl] at HFB
                cases hbb : (bk || !bv') with
                | true =>
                  have HT2 := Lib.hid (HT.out (by rw [HFB.out, hbb]))
                  clear HT HF HFB
                  cases bk <;> cases bv' <;> simp at hbb
                  all_goals
                    clear h1
                    go_wp2_with fail
                    go_ret
                    exact ⟨by rw [HT2.out]; rfl, (HB1 _).out⟩
                | false =>
                  have HF2 := Lib.hid (HF.out (by rw [HFB.out, hbb]))
                  clear HT HF HFB
                  cases bk <;> cases bv' <;> simp at hbb
                  clear h1
                  go_wp2_with fail
                  go_roundw
                  case rel => exact ⟨k + 1, by go_num, by omega, (HB1 _).out, HF2⟩
                  case measure => simp [intOf]; omega
              · rw [if_neg h2] at HFB
                have q1 : (kd != 1) = true := by simpa using h1
                have q2 : (kd != 0) = true := by simpa using h2
                have HT2 := Lib.hid (HT.out HFB.out)
                clear HT HF HFB h1 h2
                cases bk
                all_goals
                  go_wp2_with fail
                  go_ret
                  exact ⟨by rw [HT2.out]; rfl, (HB1 _).out⟩
          · obtain rfl : k = i := by omega
            have HFN : Hid (l.any formB = false) := Lib.hid (by
              have := HA.out
              rwa [List.take_of_length_le (by rw [HN.out]; exact Nat.le_refl _)] at this)
            by_cases h0 : k = 0
            · have HV4 : Hid (chkI seq l = 2) := Lib.hid (by rw [HV3.out, if_pos (.inl h0)])
              have q0 : ((k : Int) == 0) = true := by simp [h0]
              clear h0 HA
              go_wp2_with fail
              go_ret
              exact ⟨by rw [HV4.out]; rfl, HB.out⟩
            · have q0 : ((k : Int) == 0) = false := by simp [h0]
              have HV4 : Hid (chkI seq l = if seq < 1 ∨ 72057594037927935 - ((k : Int) - 1) < seq then 1 else 0) := Lib.hid (by rw [HV3.out, if_neg (by rw [HFN.out]; simp; omega)])
              have hk1 : 1 ≤ k := by omega
              clear HA HV3
              by_cases h1 : seq < 1
              · have HV5 : Hid (chkI seq l = 1) := Lib.hid (by rw [HV4.out, if_pos (.inl h1)])
                go_wp2_with fail
                go_ret
                exact ⟨by rw [HV5.out]; rfl, HB.out⟩
              · by_cases h2 : 72057594037927935 < seq
                · have HV5 : Hid (chkI seq l = 1) := Lib.hid (by rw [HV4.out, if_pos (.inr (by omega))])
                  go_wp2_with fail
                  go_ret
                  exact ⟨by rw [HV5.out]; rfl, HB.out⟩
                · by_cases h3 : 72057594037927935 - seq < (k : Int) - 1
                  · have HV5 : Hid (chkI seq l = 1) := Lib.hid (by rw [HV4.out, if_pos (.inr (by omega))])
                    go_wp2_with fail
                    go_ret
                    exact ⟨by rw [HV5.out]; rfl, HB.out⟩
                  · have HV5 : Hid (chkI seq l = 0) := Lib.hid (by rw [HV4.out, if_neg (fun h => h.elim (by omega) (by omega))])
                    go_wp2_with fail
                    go_ret
                    exact ⟨by rw [HV5.out]; rfl, HB.out⟩
end Go.Proofs.Ythpcgdgahlcblaa
