/-
  What the document's own Right, DocMay and DocMerge answer.
-/
import Derived.Test.YtfgcdmgbgadkgaaBlRBld
namespace Go.Proofs.Ytfgcdmgbgadkgaa
open Go.RowKit

theorem nats_last (f : ByteArray) (h : 0 < f.size) : (natsOf f).getD (f.size - 1) 0 = (f[f.size - 1]'(by omega)).toNat := by
  rw [getD_at (by rw [natsOf_length]; omega)]; exact natsOf_get f _ (by omega)
set_option maxRecDepth 100000 in
set_option maxHeartbeats 800000 in
theorem rright_any (f : ByteArray) (hm : f.size ≤ 140737488351232) (w : World) :
    Calls Try.prog 23 #[.string f] w fun e w' => e = .returned (.bool (formB (natsOf f))) ∧ w = w' := by
  by_cases h2 : f.size < 2
  · have HF : Hid (formB (natsOf f) = false) := Lib.hid (by unfold formB; rw [decide_eq_false]; rw [natsOf_length]; omega)
    have q : decide ((2 : Int) ≤ (f.size : Int)) = false := by simp; omega
    go_enter Try.func23, Try.ntmps23
    go_wp2
    go_ret
    exact ⟨ret_bool (by rw [HF.out]), rfl⟩
  · have hi0 : (f.size : Int) - 1 = ((f.size - 1 : Nat) : Int) := by omega
    have hlt : f.size - 1 < f.size := by omega
    have hix := idx_at f ((f.size - 1 : Nat) : Int) (f.size - 1) rfl hlt
    have hcl := (f[f.size - 1]).toNat_lt
    have HF : Hid (formB (natsOf f) = decide (1 ≤ (f[f.size - 1]).toNat ∧ (f[f.size - 1]).toNat ≤ 30)) := Lib.hid (by
      unfold formB; rw [natsOf_length, nats_last f (by omega)]; congr 1; rw [eq_iff_iff]; exact ⟨fun h => h.2, fun h => ⟨by omega, h⟩⟩)
    generalize (f[f.size - 1]).toNat = c at *
    generalize f.size - 1 = q at *
    have q : decide ((2 : Int) ≤ (f.size : Int)) = true := by simp; omega
    by_cases h1 : 1 ≤ c
    · have q1 : decide ((1 : Int) ≤ (c : Int)) = true := by simp; omega
      by_cases h30 : c ≤ 30
      · have q2 : decide ((c : Int) ≤ 30) = true := by simp; omega
        rw [decide_eq_true ⟨h1, h30⟩] at HF
        go_enter Try.func23, Try.ntmps23
        go_wp2
        go_ret
        exact ⟨ret_bool (by rw [HF.out]), rfl⟩
      · have q2 : decide ((c : Int) ≤ 30) = false := by simp; omega
        rw [decide_eq_false (fun h => h30 h.2)] at HF
        go_enter Try.func23, Try.ntmps23
        go_wp2
        go_ret
        exact ⟨ret_bool (by rw [HF.out]), rfl⟩
    · have q1 : decide ((1 : Int) ≤ (c : Int)) = false := by simp; omega
      rw [decide_eq_false (fun h => h1 h.1)] at HF
      go_enter Try.func23, Try.ntmps23
      go_wp2
      go_ret
      exact ⟨ret_bool (by rw [HF.out]), rfl⟩
theorem bit_val (x p : Nat) : ((x : Int) / 2 ^ p % 2) = if x.testBit p then 1 else 0 := by
  have e : (x : Int) / 2 ^ p = ((x / 2 ^ p : Nat) : Int) := by rw [Int.natCast_ediv]; simp
  rw [e, Nat.testBit_eq_decide_div_mod_eq]
  simp only [decide_eq_true_eq]
  split <;> omega
theorem bit_tmod (x p : Nat) : ((x : Int) / 2 ^ p).tmod 2 = if x.testBit p then 1 else 0 := by
  rw [← bit_val, Int.tmod_eq_emod_of_nonneg]
  have e : (x : Int) / 2 ^ p = ((x / 2 ^ p : Nat) : Int) := by rw [Int.natCast_ediv]; simp
  rw [e]; exact Int.natCast_nonneg _
set_option maxRecDepth 100000 in
set_option maxHeartbeats 800000 in
theorem docMay_any (f : ByteArray) (hm : f.size ≤ 1048576) (key : ByteArray) (hk : key.size ≤ 9223372036854775807) (w : World) :
    Calls Try.prog 18 #[.string f, .string key] w fun e w' => e = .returned (.bool (mayB (natsOf f) (hashN (natsOf key)))) ∧ Below w.heap.size w w' := by
  have HRI : Hid (∀ wx, Calls Try.prog 23 #[.string f] wx fun e w' => e = .returned (.bool (formB (natsOf f))) ∧ wx = w') := Lib.hid (rright_any f (by omega))
  by_cases hf : formB (natsOf f) = true
  · have hff : 2 ≤ (natsOf f).length ∧ 1 ≤ (natsOf f).getD ((natsOf f).length - 1) 0 ∧ (natsOf f).getD ((natsOf f).length - 1) 0 ≤ 30 := of_decide_eq_true hf
    rw [natsOf_length] at hff
    rw [nats_last f (by omega)] at hff
    have HM : Hid (mayB (natsOf f) (hashN (natsOf key)) = (probesOf (hashN (natsOf key)) (f[f.size - 1]'(by omega)).toNat (8 * (f.size - 1))).all (bitL (natsOf f))) := Lib.hid (by unfold mayB; rw [hf, natsOf_length, nats_last f (by omega)]; rfl)
    rw [hf] at HRI
    have hi0 : (f.size : Int) - 1 = ((f.size - 1 : Nat) : Int) := by omega
    have hlt : f.size - 1 < f.size := by omega
    have hix0 := idx_at f ((f.size - 1 : Nat) : Int) (f.size - 1) rfl hlt
    generalize (f[f.size - 1]).toNat = C at *
    have HPR : Hid (∀ wx, Calls Try.prog 20 #[.string key, .int .i64 (8 * ((f.size - 1 : Nat) : Int)), .int .i64 (C : Int)] wx (IntsR wx (probesOf (hashN (natsOf key)) C (8 * (f.size - 1))))) := Lib.hid (fun wx => by
      have := rprobes_any key hk (8 * (f.size - 1)) C (by omega) (by omega) (by omega) wx
      rwa [show ((8 * (f.size - 1) : Nat) : Int) = 8 * ((f.size - 1 : Nat) : Int) by omega] at this)
    have HPL : Hid (∀ p ∈ probesOf (hashN (natsOf key)) C (8 * (f.size - 1)), p < 8 * (f.size - 1)) := Lib.hid (fun p hp => by
      unfold probesOf at hp
      obtain ⟨i, _, rfl⟩ := List.mem_map.1 hp
      exact probeN_lt _ _ _ (by omega))
    have HPN := Lib.hid (probesOf_length (hashN (natsOf key)) C (8 * (f.size - 1)))
    generalize probesOf (hashN (natsOf key)) C (8 * (f.size - 1)) = L at *
    have hS1 : f.size - 1 ≤ 1048576 := by omega
    clear hf
    generalize hS : f.size - 1 = S at *
    have HS : Hid (S < f.size) := Lib.hid hlt
    clear hS
    go_enter Try.func18, Try.ntmps18
    go_wp2_with fail
    refine (HRI.out _).mono ?_
    rintro e w1 ⟨rfl, rfl⟩
    go_wp2_with fail
    refine (HPR.out _).mono ?_
    rintro e w2 ⟨al, cl, rfl, hy2, hb2⟩
    have HY := Lib.hid hy2
    have HB2 := Lib.hid hb2
    rw [HPN.out]
    clear hb2 hy2 HPR HRI hix0
    go_wp2_with fail
    go_loopw [6] (fun x wr => ∃ i : Nat, i ≤ C ∧ x = .int .i64 (i : Int) ∧ Hid ((L.take i).all (bitL (natsOf f)) = true ∧ Below w2.heap.size w2 wr)) (fun x _ => C - (intOf x).toNat)
    case atStart => exact ⟨0, by omega, rfl, rfl, Below.refl _ _⟩
    case round =>
      obtain ⟨i, hi, rfl, hI⟩ := hrel
      by_cases hlt2 : i < C
      · have hiL : i < L.length := by rw [HPN.out]; exact hlt2
        obtain ⟨b3, o3, rfl, hc3⟩ := (HY.out.keep hI.out.2).at hiL
        have hpl3 := HPL.out _ (List.getElem_mem hiL)
        have HTK : Hid (L.take (i + 1) = L.take i ++ [L[i]]) := Lib.hid (List.take_succ_eq_append_getElem hiL)
        have HMM : Hid (bitL (natsOf f) L[i] = false → L.all (bitL (natsOf f)) = false) := Lib.hid (fun h0 => by
          rw [List.all_eq_false]; exact ⟨_, List.getElem_mem hiL, by rw [h0]; simp⟩)
        generalize L[i] = p at *
        have hp8 : p / 8 < f.size := by have := HS.out; omega
        have hix := idx_at f ((p : Int) / 8) (p / 8) (by omega) hp8
        have HBT : Hid (bitL (natsOf f) p = (f[p / 8]).toNat.testBit (p % 8)) := Lib.hid (by
          unfold bitL; rw [getD_at (by rw [natsOf_length]; exact hp8)]; rw [natsOf_get f _ hp8])
        have hcl := (f[p / 8]).toNat_lt
        generalize (f[p / 8]).toNat = c at *
        have hbv := bit_tmod c (p % 8)
        by_cases hbit : c.testBit (p % 8) = true
        · rw [if_pos hbit] at hbv
          have HN : Hid ((L.take (i + 1)).all (bitL (natsOf f)) = true ∧ Below w2.heap.size w2 wr) := Lib.hid ⟨by
            rw [HTK.out, List.all_append, hI.out.1]; simp [HBT.out, hbit], hI.out.2⟩
          clear hbit hI
          go_wp2_with fail
          go_quiet (fail)
          go_wp2
          go_roundw
          case rel => exact ⟨i + 1, by omega, by go_num, HN.out.1, HN.out.2.trans (below_drewN _ _ _)⟩
          case measure => simp [intOf]; omega
        · rw [if_neg hbit] at hbv
          have HN : Hid (mayB (natsOf f) (hashN (natsOf key)) = false ∧ Below w.heap.size w wr) := Lib.hid ⟨by rw [HM.out]; exact HMM.out (by rw [HBT.out]; simpa using hbit), HB2.out.trans (hI.out.2.mono HB2.out.size)⟩
          clear hbit hI
          go_wp2_with fail
          go_quiet (fail)
          go_wp2
          go_ret
          exact ⟨ret_bool (by rw [HN.out.1]), HN.out.2.trans (below_drewN _ _ _)⟩
      · obtain rfl : i = C := by omega
        have HN : Hid (mayB (natsOf f) (hashN (natsOf key)) = true ∧ Below w.heap.size w wr) := Lib.hid ⟨by
          have := hI.out.1
          rw [List.take_of_length_le (by rw [HPN.out]; exact Nat.le_refl _)] at this
          rw [HM.out, this], HB2.out.trans (hI.out.2.mono HB2.out.size)⟩
        clear hI
        go_wp2
        go_ret
        exact ⟨ret_bool (by rw [HN.out.1]), HN.out.2⟩
  · have hf' : formB (natsOf f) = false := by simpa using hf
    have HM : Hid (mayB (natsOf f) (hashN (natsOf key)) = true) := Lib.hid (by unfold mayB; rw [hf']; rfl)
    rw [hf'] at HRI
    clear hf hf'
    go_enter Try.func18, Try.ntmps18
    go_wp2_with fail
    refine (HRI.out _).mono ?_
    rintro e w1 ⟨rfl, rfl⟩
    go_wp2
    go_ret
    exact ⟨ret_bool (by rw [HM.out]), Below.refl _ _⟩
end Go.Proofs.Ytfgcdmgbgadkgaa
