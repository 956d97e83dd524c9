/-
  What the document's Decode answers.
-/
import Derived.Test.YthpcgdgahlcblaaBatH2
namespace Go.Proofs.Ythpcgdgahlcblaa
open Go.RowKit Go.Deep

theorem dec_doc {l : List Nat} (hb : ∀ x ∈ l, x < 256) (h12 : ¬ l.length < 12) (hc : ¬ 200 < cntOf4 l) (N : Int) (hs : sgn (numOf8 l) = N) {done : List OpV} {rest : List Nat} (h : cutOpsF (cntOf4 l) (l.drop 12) = some (done, rest)) :
    (chkI N done = 0 → encR N done = l → decO l = some (N, done)) ∧ ((chkI N done ≠ 0 ∨ encR N done ≠ l) → decO l = none) := by
  refine ⟨fun h1 h2 => ?_, fun hz => ?_⟩
  · have := decO_enc h1
    rw [h2] at this
    exact this
  · cases hd : decO l with
    | none => rfl
    | some p =>
      exfalso
      obtain ⟨n', L'⟩ := p
      obtain ⟨e1, e2⟩ := decO_inv hb hd
      have hd2 : (match cutAll (cntOf4 l) (l.drop 12) with
        | none => none
        | some L => if chkI (sgn (numOf8 l)) L = 0 then some (sgn (numOf8 l), L) else none) = some (n', L') := by
        unfold decO at hd
        rw [if_neg h12] at hd
        exact hd
      have hcut : ∀ r, rest = r → cutAll (cntOf4 l) (l.drop 12) = match r with
        | [] => some done
        | _ => none := by
        intro r hr
        subst hr
        unfold cutAll
        rw [if_neg hc, h]
        cases rest <;> rfl
      rw [hcut rest rfl, hs] at hd2
      cases rest with
      | nil =>
        dsimp only at hd2
        by_cases hk : chkI N done = 0
        · rw [if_pos hk] at hd2
          simp only [Option.some.injEq, Prod.mk.injEq] at hd2
          obtain ⟨hn, hl⟩ := hd2
          rw [← hn, ← hl] at e1 e2
          exact hz.elim (fun h => h e1) (fun h => h e2)
        · rw [if_neg hk] at hd2; cases hd2
      | cons x r => cases hd2
theorem dec_nocut {l : List Nat} (h : cutAll (cntOf4 l) (l.drop 12) = none) : decO l = none := by
  by_cases h12 : l.length < 12
  · unfold decO; rw [if_pos h12]
  · unfold decO; rw [if_neg h12, h]
theorem dec_big {l : List Nat} (h : 200 < cntOf4 l) : decO l = none := dec_nocut (by unfold cutAll; rw [if_pos h])
theorem dec_num {l : List Nat} (hb : ∀ x ∈ l, x < 256) (h : 4611686018427387904 < numOf8 l) : decO l = none := by
  cases hd : decO l with
  | none => rfl
  | some p =>
    exfalso
    obtain ⟨n', L'⟩ := p
    obtain ⟨e1, _⟩ := decO_inv hb hd
    obtain ⟨_, _, z3, z4, _⟩ := chk_zero e1
    unfold decO at hd
    split at hd
    · cases hd
    · split at hd
      · cases hd
      · split at hd
        · simp only [Option.some.injEq, Prod.mk.injEq] at hd
          obtain ⟨rfl, _⟩ := hd
          unfold sgn at z3 z4
          have := VA.acc8_lt (l.take 8) (fun x hx => hb x (List.mem_of_mem_take hx)) 8
          unfold numOf8 at h z3 z4
          split at z3 <;> rename_i hq <;> simp only [hq] at z4 <;> simp at z4 <;> omega
        · cases hd
theorem dec_cut {l : List Nat} (h : cutOpsF (cntOf4 l) (l.drop 12) = none) : decO l = none := dec_nocut (by
  by_cases hc : 200 < cntOf4 l
  · unfold cutAll; rw [if_pos hc]
  · unfold cutAll; rw [if_neg hc, h])
/-- What the document's Decode answers: the number and new changes, or none. -/
def RDecV (w : World) (l : List Nat) (e : Ending) (w' : World) : Prop :=
  Below w.heap.size w w' ∧ ((∃ n L a c, decO l = some (n, L) ∧ e = .returned (.tuple #[.int .i64 n, .slice a L.length c, .int .i64 0]) ∧ OpsAt w' a L) ∨
    (decO l = none ∧ e = .returned (.tuple #[.int .i64 0, .slice none 0 0, .int .i64 2])))
theorem natsOf_ext (t : ByteArray) (a b : Nat) (hb : b ≤ t.size) : natsOf (t.extract a b) = ((natsOf t).take b).drop a := by
  have h := VA.extract_str t a b hb
  have h2 : t.extract a b = strOf (((natsOf t).take b).drop a) := h
  rw [h2, natsOf_strOf' (fun x hx => natsOf_byte t x (List.mem_of_mem_take (List.mem_of_mem_drop hx)))]
theorem ext_from (t : ByteArray) (a n : Nat) (hn : t.size = n) : natsOf (t.extract a n) = (natsOf t).drop a := by
  rw [natsOf_ext t a n (by omega), List.take_of_length_le (by rw [natsOf_length]; omega)]
theorem rgetText2 (t : ByteArray) (hm : t.size ≤ 1000000) (most : Nat) (z : Int) (hz : z = most) (hmo : most ≤ 100000) (w : World) : ∃ E : Int, (Calls Try.prog 34 #[.string t, .int .i64 z] w fun e w' => e = .returned (.tuple #[.string (cutS (natsOf t) most).1, .int .i64 ((cutS (natsOf t) most).2.1 : Int), .int .i64 E]) ∧ w = w') ∧ (E == 0) = (cutS (natsOf t) most).2.2 := by
  subst hz
  obtain ⟨E, h1, h2, -, -⟩ := text_cut (natsOf t) most
  refine ⟨E, ?_, h2⟩
  have h := VA.rgetText_any t (by unfold maxLen; omega) most (by omega) w
  have e : VA.textV (VA.natsOf t) most = .tuple #[.string (cutS (natsOf t) most).1, .int .i64 ((cutS (natsOf t) most).2.1 : Int), .int .i64 E] := h1
  rwa [e] at h
theorem dec_short {l : List Nat} (h : l.length < 12) : decO l = none := by
  unfold decO; rw [if_pos h]
theorem num_lt {l : List Nat} (hb : ∀ x ∈ l, x < 256) : numOf8 l < 18446744073709551616 := by
  have h := VA.acc8_lt (l.take 8) (fun x hx => hb x (List.mem_of_mem_take hx)) 8
  rw [show 2 ^ (8 * 8) = 18446744073709551616 from by decide] at h
  unfold numOf8
  exact h
theorem cnt_lt {l : List Nat} (hb : ∀ x ∈ l, x < 256) : cntOf4 l < 4294967296 := by
  have h := VA.acc8_lt ((l.drop 8).take 4) (fun x hx => hb x (List.mem_of_mem_drop (List.mem_of_mem_take hx))) 4
  rw [show 2 ^ (8 * 4) = 4294967296 from by decide] at h
  unfold cntOf4
  exact h
theorem rwhole8 (t : ByteArray) (h12 : 12 ≤ t.size) (w : World) : Calls Try.prog 33 #[.string (t.extract 0 8)] w fun e w' => e = .returned (.tuple #[.int .u64 (numOf8 (natsOf t) : Int), .int .i64 0]) ∧ w = w' := by
  have t8 : (t.extract 0 8).size = 8 := by rw [ByteArray.size_extract]; omega
  have h := VA.rwhole_any (t.extract 0 8) (by omega) w
  rw [t8] at h
  have e : VA.natsOf (t.extract 0 8) = (natsOf t).take 8 := by
    have := natsOf_ext t 0 8 (by omega)
    rw [List.drop_zero] at this; exact this
  rw [e] at h
  unfold numOf8
  exact h
theorem rwhole4 (t : ByteArray) (h12 : 12 ≤ t.size) (w : World) : Calls Try.prog 33 #[.string (t.extract 8 12)] w fun e w' => e = .returned (.tuple #[.int .u64 (cntOf4 (natsOf t) : Int), .int .i64 0]) ∧ w = w' := by
  have t4 : (t.extract 8 12).size = 4 := by rw [ByteArray.size_extract]; omega
  have h := VA.rwhole_any (t.extract 8 12) (by omega) w
  rw [t4] at h
  have e : VA.natsOf (t.extract 8 12) = ((natsOf t).drop 8).take 4 := by
    have := natsOf_ext t 8 12 (by omega)
    rw [List.drop_take] at this; exact this
  rw [e] at h
  unfold cntOf4
  exact h
end Go.Proofs.Ythpcgdgahlcblaa
