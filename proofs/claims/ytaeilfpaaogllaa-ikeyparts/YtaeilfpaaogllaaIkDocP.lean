/-
  What DocPart answers; the law IkeyParts, walked.
-/
import Derived.Test.YtaeilfpaaogllaaIkNext
namespace Go.Proofs.Ytaeilfpaaogllaa
open Go.RowKit

theorem next_found {a t : List Nat} {n : Nat} (hn : n ≤ a.length) (h : NextIs (a.take n) (some t)) : ∃ i m, i + 1 + m = n ∧ a.getD i 0 < 255 ∧ t = raise a i ++ List.replicate m 0 := by
  generalize hl : a.take n = l at h
  generalize ho : some t = o at h
  cases h with
  | none m => cases ho
  | some p c m hc =>
    cases ho
    have hlen := congrArg List.length hl
    simp at hlen
    have e1 : a = p ++ (c :: (List.replicate m 255 ++ a.drop n)) := by
      conv => lhs; rw [← List.take_append_drop n a, hl]
      simp
    have e2 : a.getD p.length 0 = c := by rw [e1, List.getD_eq_getElem?_getD]; simp
    have e3 : a.take p.length = p := by conv => lhs; rw [e1]
                                        simp
    refine ⟨p.length, m, by omega, by rw [e2]; exact hc, ?_⟩
    unfold raise
    rw [e2, e3]; simp
theorem next_none {a : List Nat} {n : Nat} (h : NextIs (a.take n) none) (hn : n ≤ a.length) (i : Nat) (hi : i + 1 = n) : a.getD i 0 = 255 := by
  generalize hl : a.take n = l at h
  generalize ho : none = o at h
  cases h with
  | some p c m hc => cases ho
  | none m =>
    have e : (a.take n)[i]? = some 255 := by
      rw [hl]
      have hlen := congrArg List.length hl
      simp at hlen
      rw [List.getElem?_replicate]; rw [if_pos (by omega)]
    rw [List.getElem?_take, if_pos (by omega)] at e
    rw [List.getD_eq_getElem?_getD, e]; rfl
def Tried (a b : List Nat) (n : Nat) : Prop := ∀ i, i + 1 < n → a.getD i 0 ≠ 255 → lexN (raise a i) b = false
theorem tried_zero (a b : List Nat) : Tried a b 0 := fun i hi => by omega
theorem tried_found {a b t : List Nat} {n : Nat} (hT : Tried a b n) (hn : n < a.length) (h : NextIs (a.take n) (some t)) (hb : lexN t b = true) : partS a b = t := by
  obtain ⟨i, m, h1, h2, rfl⟩ := next_found (by omega) h
  have hr : lexN (raise a i) b = true := lexN_le_lt (lexN_pre _ _) hb
  cases m with
  | succ m => rw [hT i (by omega) (by omega)] at hr; cases hr
  | zero =>
    have hab : lexN a b = true := lexN_trans (lt_raise (by omega)) hr
    have hc : commonN a b ≤ i := by
      rcases Nat.lt_or_ge i (commonN a b) with h | h
      · rw [raise_common h] at hr; cases hr
      · exact h
    unfold partS
    rw [if_pos hab]
    rcases partF_spec a b (commonN a b) with ⟨_, g2⟩ | ⟨k, g1, g2, g3, g4, g5, g6⟩
    · rw [g2 i hc (by omega) (by omega)] at hr; cases hr
    · rw [g5]
      rcases Nat.lt_trichotomy k i with h | h | h
      · rw [hT k (by omega) g3] at g4; cases g4
      · subst h; simp
      · rw [g6 i hc h (by omega)] at hr; cases hr
theorem next_last {l q : List Nat} {c : Nat} {o : Option (List Nat)} (h : NextIs l o) (hl : l = q ++ [c]) (hc : c ≠ 255) : o = some (q ++ [c + 1]) := by
  cases h with
  | none m =>
    have : c ∈ List.replicate m 255 := by rw [hl]; simp
    exact absurd (List.eq_of_mem_replicate this) hc
  | some p d m hd =>
    cases m with
    | zero =>
      obtain ⟨e1, e2⟩ := List.append_inj' hl rfl
      have e3 := (List.cons.inj e2).1
      rw [e1, e3]; rfl
    | succ m =>
      rw [List.replicate_succ', ← List.cons_append, ← List.append_assoc] at hl
      obtain ⟨_, e2⟩ := List.append_inj' hl rfl
      exact absurd (List.cons.inj e2).1.symm hc
theorem tried_next {a b : List Nat} {n : Nat} {o : Option (List Nat)} (hT : Tried a b n) (hn : n < a.length) (h : NextIs (a.take n) o) (hb : ∀ t, o = some t → lexN t b = false) : Tried a b (n + 1) := by
  intro i hi h255
  by_cases e : i + 1 < n
  · exact hT i e h255
  · have e2 : n = i + 1 := by omega
    subst e2
    have hi' : i < a.length := by omega
    rw [getD_lt hi'] at h255
    have := next_last h (List.take_succ_eq_append_getElem hi') h255
    have hr := hb _ this
    unfold raise
    rw [getD_lt hi']; exact hr
theorem tried_end {a b : List Nat} (hT : Tried a b a.length) : partS a b = a := by
  unfold partS
  split
  · rcases partF_spec a b (commonN a b) with ⟨g1, _⟩ | ⟨k, g1, g2, g3, g4, g5, g6⟩
    · exact g1
    · rw [hT k (by omega) g3] at g4; cases g4
  · rfl
theorem next_byte {l t : List Nat} (hl : ∀ x ∈ l, x < 256) (h : NextIs l (some t)) : ∀ x ∈ t, x < 256 := by
  generalize ho : some t = o at h
  cases h with
  | none m => cases ho
  | some p c m hc =>
    cases ho
    intro x hx
    rcases List.mem_append.1 hx with h | h
    · exact hl x (by simp [h])
    · rcases List.mem_cons.1 h with h | h
      · omega
      · have := List.eq_of_mem_replicate h; omega
set_option maxRecDepth 100000 in
set_option maxHeartbeats 800000 in
theorem docPart_any (a b : ByteArray) (ha : a.size ≤ 1000) (w : World) :
    Calls Try.prog 24 #[.string a, .string b] w fun e w' => e = .returned (.string (strOf (partS (natsOf a) (natsOf b)))) ∧ Below w.heap.size w w' := by
  have HNL := Lib.hid (natsOf_length a)
  have HNB := Lib.hid (natsOf_byte a)
  have HLS := Lib.hid (fun (t : List Nat) (ht : ∀ x ∈ t, x < 256) => (less_strOf ht (natsOf_byte b)))
  rw [strOf_natsOf] at HLS
  have HSN := Lib.hid (strOf_natsOf a)
  have HX : Hid (∀ n, n ≤ a.size → natsOf (a.extract 0 n) = (natsOf a).take n) := Lib.hid (fun n hn => by
    rw [extract_str a 0 n hn, List.drop_zero, natsOf_strOf (fun x hx => natsOf_byte a x (List.mem_of_mem_take hx))])
  generalize natsOf a = A at *
  generalize natsOf b = Bl at *
  go_enter Try.func24, Try.ntmps24
  go_wp2_with fail
  go_loopw [5] (fun i wr => ∃ n : Nat, n ≤ a.size ∧ i = .int .i64 (n : Int) ∧ Hid (Tried A Bl n ∧ Below w.heap.size w wr)) (fun i _ => a.size - (intOf i).toNat)
  case atStart => exact ⟨0, by omega, rfl, tried_zero _ _, Below.refl _ _⟩
  case round =>
    obtain ⟨n, hn, rfl, hI⟩ := hrel
    by_cases hlt : n < a.size
    · have HN : Hid (∀ wx, Calls Try.prog 30 #[.string (a.extract 0 n)] wx fun e w' => ∃ o, NextIs (A.take n) o ∧ e = .returned (.tuple #[.string (strOf (o.getD [])), .bool o.isSome]) ∧ Below wx.heap.size wx w') := Lib.hid (fun wx => by
        have := next_any (a.extract 0 n) (by simp; omega) wx
        rwa [HX.out n (by omega)] at this)
      go_wp2_with fail
      refine (HN.out _).mono ?_
      rintro e w1 ⟨o, ho, rfl, hb1⟩
      have HB1 := Lib.hid (hI.out.2.trans (hb1.mono hI.out.2.size))
      cases o with
      | none =>
        have HT := Lib.hid (tried_next hI.out.1 (by rw [HNL.out]; exact hlt) ho (fun t ht => by cases ht))
        clear hb1 ho hI HN
        simp only [Option.getD_none, Option.isSome_none]
        go_wp2
        go_roundw
        case rel => exact ⟨n + 1, by omega, by go_num, HT.out, HB1.out⟩
        case measure => simp [intOf]; omega
      | some t =>
        simp only [Option.getD_some, Option.isSome_some]
        have hls := HLS.out t (next_byte (fun x hx => HNB.out x (List.mem_of_mem_take hx)) ho)
        by_cases hlx : lexN t Bl = true
        · have HE := Lib.hid (tried_found hI.out.1 (by rw [HNL.out]; exact hlt) ho hlx)
          rw [hlx] at hls
          clear hb1 ho hI HN hlx
          obtain ⟨S, hS⟩ : ∃ S, S = strOf t := ⟨_, rfl⟩
          rw [← hS] at hls ⊢
          have HS := Lib.hid hS
          clear hS
          go_wp2
          go_ret
          exact ⟨by rw [HE.out, ← HS.out]; rfl, HB1.out⟩
        · have hlx2 : lexN t Bl = false := by simpa using hlx
          have HT := Lib.hid (tried_next hI.out.1 (by rw [HNL.out]; exact hlt) ho (fun t' ht => by cases ht; exact hlx2))
          rw [hlx2] at hls
          clear hb1 ho hI HN hlx hlx2
          generalize strOf t = S at *
          go_wp2
          go_roundw
          case rel => exact ⟨n + 1, by omega, by go_num, HT.out, HB1.out⟩
          case measure => simp [intOf]; omega
    · obtain rfl : n = a.size := by omega
      have HE := Lib.hid (tried_end (b := Bl) (by rw [HNL.out]; exact hI.out.1))
      have HB := Lib.hid hI.out.2
      clear hI
      go_wp2
      go_ret
      exact ⟨by rw [HE.out, HSN.out]; rfl, HB.out⟩
namespace ikeyParts
set_option maxRecDepth 100000 in
set_option maxHeartbeats 800000 in
theorem walk (a b : ByteArray) (w : World) (_w0 : a.size ≤ maxLen) (_w1 : b.size ≤ maxLen) :
    Calls Try.prog 7 #[.string a, .string b] w fun e w' => e = .returned (.bool true) ∧ Below w.heap.size w w' := by
  by_cases hbig : 1000 < a.size
  · go_enter Try.func7, Try.ntmps7
    go_wp2_with fail
    refine (keyed_any _).mono ?_
    rintro e w1 ⟨rfl, hb1⟩
    have HB1 := Lib.hid hb1
    clear hb1
    go_wp2
    go_ret
    exact ⟨rfl, HB1.out⟩
  · have HP : Hid (∀ wx, Calls Try.prog 23 #[.string a, .string b] wx fun e w' => e = .returned (.string (strOf (partS (natsOf a) (natsOf b)))) ∧ Below wx.heap.size wx w') := Lib.hid (part_any a b (by omega))
    have HD : Hid (∀ wx, Calls Try.prog 24 #[.string a, .string b] wx fun e w' => e = .returned (.string (strOf (partS (natsOf a) (natsOf b)))) ∧ Below wx.heap.size wx w') := Lib.hid (docPart_any a b (by omega))
    generalize strOf (partS (natsOf a) (natsOf b)) = S at *
    go_enter Try.func7, Try.ntmps7
    go_wp2_with fail
    refine (keyed_any _).mono ?_
    rintro e w1 ⟨rfl, hb1⟩
    have HB1 := Lib.hid hb1
    clear hb1
    go_wp2_with fail
    refine (HP.out _).mono ?_
    rintro e w2 ⟨rfl, hb2⟩
    have HB2 := Lib.hid hb2
    clear hb2
    go_wp2_with fail
    refine (HD.out _).mono ?_
    rintro e w3 ⟨rfl, hb3⟩
    have HB3 := Lib.hid hb3
    clear hb3
    go_wp2
    go_ret
    exact ⟨rfl, (HB1.out.trans (HB2.out.mono HB1.out.size)).trans (HB3.out.mono (Nat.le_trans HB1.out.size HB2.out.size))⟩
end ikeyParts
end Go.Proofs.Ytaeilfpaaogllaa
