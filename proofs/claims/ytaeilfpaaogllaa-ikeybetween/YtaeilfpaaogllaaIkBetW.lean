/-
  The law IkeyBetween, walked.
-/
import Derived.Test.YtaeilfpaaogllaaIkBet
namespace Go.Proofs.Ytaeilfpaaogllaa
open Go.RowKit

theorem less_strL {l : List Nat} (hl : ∀ x ∈ l, x < 256) (b : ByteArray) : Op.bytesLess (strOf l).toList b.toList = lexN l (natsOf b) := by
  have := less_strOf hl (natsOf_byte b)
  rwa [strOf_natsOf] at this
theorem less_strR {l : List Nat} (hl : ∀ x ∈ l, x < 256) (b : ByteArray) : Op.bytesLess b.toList (strOf l).toList = lexN (natsOf b) l := by
  have := less_strOf (natsOf_byte b) hl
  rwa [strOf_natsOf] at this
namespace ikeyBetween
set_option maxRecDepth 100000 in
set_option maxHeartbeats 800000 in
theorem walk (a b c : ByteArray) (w : World) (_w0 : a.size ≤ maxLen) (_w1 : b.size ≤ maxLen) (_w2 : c.size ≤ maxLen) :
    Calls Try.prog 8 #[.string a, .string b, .string c] w fun e w' => e = .returned (.bool true) ∧ Below w.heap.size w w' := by
  by_cases hbig : 1000 < a.size
  · go_enter Try.func8, Try.ntmps8
    go_wp2_with fail
    refine (keyed_any _).mono ?_
    rintro e w1 ⟨rfl, hb1⟩
    have HB1 := Lib.hid hb1
    clear hb1
    go_wp2_with fail
    refine (keyed_any _).mono ?_
    rintro e w2 ⟨rfl, hb2⟩
    have HB2 := Lib.hid hb2
    clear hb2
    go_wp2
    go_ret
    exact ⟨rfl, HB1.out.trans (HB2.out.mono HB1.out.size)⟩
  · have HP : Hid (∀ wx, Calls Try.prog 23 #[.string a, .string b] wx fun e w' => e = .returned (.string (strOf (partS (natsOf a) (natsOf b)))) ∧ Below wx.heap.size wx w') := Lib.hid (part_any a b (by omega))
    have hlab := less_lex a b
    have hlca := less_lex c a
    have hlcb := less_lex c b
    have hpb := partS_byte (b := natsOf b) (natsOf_byte a)
    have hlsa := less_strL hpb a
    have hlsb := less_strL hpb b
    have hlcs := less_strR hpb c
    have hss := strOf_size (partS (natsOf a) (natsOf b))
    by_cases hab : lexN (natsOf a) (natsOf b) = true
    · obtain ⟨h1, h2, h3, h4⟩ := part_between (natsOf a) (natsOf b) (natsOf c) hab (natsOf_byte c)
      rw [hab] at hlab
      rw [h1] at hlsa
      rw [h2] at hlsb
      rw [natsOf_length] at h3 h4
      rw [← hss] at h3 h4
      rw [← hlcs] at h4
      rw [← hlca, ← hlcb] at h4
      generalize strOf (partS (natsOf a) (natsOf b)) = S at *
      clear hlca hlcb hlcs hss h1 h2 hab hpb
      have hcs : (Op.bytesLess c.toList a.toList = true) ∨ (Op.bytesLess c.toList a.toList = false ∧ Op.bytesLess c.toList b.toList = false) ∨ (Op.bytesLess c.toList a.toList = false ∧ Op.bytesLess c.toList b.toList = true ∧ S.size < c.size) ∨ (Op.bytesLess c.toList a.toList = false ∧ Op.bytesLess c.toList b.toList = true ∧ ¬ S.size < c.size ∧ c.size = S.size ∧ Op.bytesLess c.toList S.toList = false) := by
        cases x1 : Op.bytesLess c.toList a.toList with
        | true => exact .inl rfl
        | false =>
          cases x2 : Op.bytesLess c.toList b.toList with
          | false => exact .inr (.inl ⟨rfl, rfl⟩)
          | true =>
            rcases h4 x1 x2 with h | ⟨h, h'⟩
            · exact .inr (.inr (.inl ⟨rfl, rfl, h⟩))
            · exact .inr (.inr (.inr ⟨rfl, rfl, by omega, h, h'⟩))
      clear h4
      rcases hcs with x1 | ⟨x1, x2⟩ | ⟨x1, x2, x3⟩ | ⟨x1, x2, x3, x4, x5⟩
      all_goals
        go_enter Try.func8, Try.ntmps8
        go_wp2_with fail
        refine (keyed_any _).mono ?_
        rintro e w1 ⟨rfl, hb1⟩
        have HB1 := Lib.hid hb1
        clear hb1
        go_wp2_with fail
        refine (HP.out _).mono ?_
        rintro e w2 ⟨rfl, hb2⟩
        have HB2 := Lib.hid hb2
        clear hb2
        go_wp2
        go_ret
        exact ⟨rfl, HB1.out.trans (HB2.out.mono HB1.out.size)⟩
    · have hab2 : lexN (natsOf a) (natsOf b) = false := by simpa using hab
      rw [hab2] at hlab
      have HN : strOf (partS (natsOf a) (natsOf b)) = a := by unfold partS; rw [if_neg hab, strOf_natsOf]
      rw [HN] at HP
      clear HN hlsa hlsb hlcs hlca hlcb hss hpb hab hab2
      go_enter Try.func8, Try.ntmps8
      go_wp2_with fail
      refine (keyed_any _).mono ?_
      rintro e w1 ⟨rfl, hb1⟩
      have HB1 := Lib.hid hb1
      clear hb1
      go_wp2_with fail
      refine (HP.out _).mono ?_
      rintro e w2 ⟨rfl, hb2⟩
      have HB2 := Lib.hid hb2
      clear hb2
      go_wp2
      go_ret
      exact ⟨rfl, HB1.out.trans (HB2.out.mono HB1.out.size)⟩
end ikeyBetween
end Go.Proofs.Ytaeilfpaaogllaa
