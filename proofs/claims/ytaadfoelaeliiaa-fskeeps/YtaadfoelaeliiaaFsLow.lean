/-
  low of the laws: a short text, whatever came in.
-/
import Derived.Test.YtaadfoelaeliiaaFsZ6
namespace Go.Proofs.Ytaadfoelaeliiaa
open Go.RowKit Go.Maps

/-- A byte more. -/
theorem app_one {w : World} {B n : Nat} {v : Value} {l : List Nat} (h : w.ownsRow B 5 1 v n (u8s l)) (hB : B ≤ w.heap.size) (c : Nat) (hn : n ≤ 100) :
    ∃ v' w', (Builtin.append_ #[49, 49] 49 #[v, .slice (some ⟨w.heap.size, 0, none⟩) 1 1]).run Try.prog (w.alloc (.cells #[.int .u8 (c : Int)] 5)) = .ok v' w' ∧ w'.ownsRow B 5 1 v' (n + 1) (u8s (l ++ [c])) ∧ Below B w w' := by
  obtain ⟨i0, hi0, hz0, hz1, hz2⟩ := info_parts Try.info5
  have hk := own_keep h (bel1 w (.cells #[.int .u8 (c : Int)] 5))
  obtain ⟨v', w', r1, r2, r3, _, _⟩ := run_append_own_at (P := Try.prog) (w.alloc (.cells #[.int .u8 (c : Int)] 5)) B 49 49 5 i0 (.int .u8 0) 1 1 Try.underlying49 hi0 hz0 hz1 hz2 rfl (by decide) v n (u8s l) hk ⟨w.heap.size, 0, none⟩ 1 1 (u8s [c]) rfl (fun j u hu => by
    have hj : j = 0 := by
      rcases Nat.lt_or_ge j 1 with h | h
      · omega
      · rw [List.getElem?_eq_none (by simpa [u8s] using h)] at hu; cases hu
    subst hj
    rw [addr_add, Nat.zero_add, cell_of_row _ _ _ _ _ _ (heap_alloc_new w _)]
    simpa [u8s] using hu) (u8s_one [c]) (by unfold maxLen; omega) (by omega) (by simp; omega)
  refine ⟨v', w', r1, by rw [u8s_app]; exact r2, ⟨r3.os, r3.tape, r3.output, ?_, fun k hk => ?_⟩⟩
  · have := r3.size; simp at this; omega
  · rw [r3.block k (by simp; omega) (fun e => ?_)]
    · exact (bel1 w _).block k (by omega)
    · rcases h.2 with ⟨rfl, _⟩ | ⟨g, cap, cur, rfl, hg, _⟩
      · cases e
      · have : k = g := by simpa [Value.ownBlock] using e
        omega

set_option maxRecDepth 100000 in
set_option maxHeartbeats 1000000 in
theorem low_any (s : ByteArray) (w : World) (hs : s.size ≤ 9223372036854775807) : Calls Try.prog 26 #[.string s] w fun e w' => ∃ t : ByteArray, e = .returned (.string t) ∧ t.size ≤ 9 ∧ Below w.heap.size w w' := by
  go_enter Try.func26, Try.ntmps26
  go_wp2_with fail
  go_loopw [3, 4] (fun u3 u4 wr => ∃ (i n : Nat) (ad : Option Addr) (cap : Nat) (l : List Nat), u3 = .slice ad n cap ∧ u4 = .int .i64 i ∧ i ≤ s.size ∧ n ≤ 9 ∧ l.length = n ∧ wr.ownsRow w.heap.size 5 1 (.slice ad n cap) n (u8s l) ∧ (∀ x ∈ l, x < 256) ∧ Below w.heap.size w wr) (fun _ u4 _ => s.size - (intOf u4).toNat)
  case atStart => exact ⟨0, 0, none, 0, [], rfl, rfl, Nat.zero_le _, Nat.zero_le _, rfl, World.ownsRow_nil _ _ _ _, (fun x hx => by cases hx), Below.refl _ _⟩
  case round =>
    obtain ⟨i, n, ad, cap, l, rfl, rfl, his, hn9, hln, hrow, hby, hbel⟩ := hrel
    have HR := Lib.hid hrow
    have HBY := Lib.hid hby
    have HBE := Lib.hid hbel
    have HLN := Lib.hid hln
    have hws := hbel.size
    clear hrow hby hbel hln
    by_cases hin : i < s.size
    · by_cases hn : n < 9
      · have h256 := (s[i]).toNat_lt
        by_cases h1 : 97 ≤ (s[i]).toNat
        · by_cases h2 : (s[i]).toNat ≤ 122
          · obtain ⟨v', w', hrun, hrow', hb'⟩ := app_one HR.out hws (s[i]).toNat (by omega)
            obtain ⟨ad', cap', hv⟩ : ∃ ad' cap', v' = .slice ad' (n + 1) cap' := by
              rcases hrow'.2 with ⟨_, h0⟩ | ⟨g, cap, cur, rfl, _⟩
              · omega
              · exact ⟨_, _, rfl⟩
            subst hv
            have HE := Lib.hid (show w'.ownsRow w.heap.size 5 1 (.slice ad' (n + 1) cap') (n + 1) (u8s (l ++ [(s[i]).toNat])) ∧ (∀ x ∈ l ++ [(s[i]).toNat], x < 256) ∧ Below w.heap.size w w' from
              ⟨hrow', fun x hx => by
                rcases List.mem_append.1 hx with h | h
                · exact HBY.out x h
                · simp at h; omega, HBE.out.trans hb'⟩)
            clear hrow' hb'
            go_wp2_with (at_builtin; refine wpList_app_run rfl rfl hrun rfl rfl ?_)
            go_roundw
            case rel => exact ⟨i + 1, n + 1, ad', cap', _, rfl, by go_num, by omega, by omega, by rw [List.length_append, HLN.out]; rfl, HE.out.1, HE.out.2.1, HE.out.2.2⟩
            case measure => simp [intOf]; omega
          · go_wp2
            go_roundw
            case rel => exact ⟨i + 1, n, ad, cap, l, rfl, by go_num, by omega, by omega, HLN.out, HR.out, HBY.out, HBE.out⟩
            case measure => simp [intOf]; omega
        · go_wp2
          go_roundw
          case rel => exact ⟨i + 1, n, ad, cap, l, rfl, by go_num, by omega, by omega, HLN.out, HR.out, HBY.out, HBE.out⟩
          case measure => simp [intOf]; omega
      · obtain ⟨ad', cap', hv, hbt, hno, _⟩ := byt_of_own (own_base HR.out (Nat.zero_le _))
        rw [HLN.out] at hv
        cases hv
        have hcv := conv_bytes hbt HBY.out hno cap n HLN.out
        have HSZ := Lib.hid (show (strOf l).size ≤ 9 by rw [strOf_size, HLN.out]; exact hn9)
        generalize strOf l = t at *
        clear hbt hno
        go_wp2
        go_ret
        exact ⟨t, rfl, HSZ.out, HBE.out⟩
    · obtain ⟨ad', cap', hv, hbt, hno, _⟩ := byt_of_own (own_base HR.out (Nat.zero_le _))
      rw [HLN.out] at hv
      cases hv
      have hcv := conv_bytes hbt HBY.out hno cap n HLN.out
      have HSZ := Lib.hid (show (strOf l).size ≤ 9 by rw [strOf_size, HLN.out]; exact hn9)
      generalize strOf l = t at *
      clear hbt hno
      go_wp2
      go_ret
      exact ⟨t, rfl, HSZ.out, HBE.out⟩
end Go.Proofs.Ytaadfoelaeliiaa
