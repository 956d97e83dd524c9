/-
  What Decode answers, for any bytes.
-/
import Derived.Test.YthpcgdgahlcblaaBatE2
namespace Go.Proofs.Ythpcgdgahlcblaa
open Go.RowKit

/-- What Decode answers: the number and new changes, or none. -/
def DecV (w : World) (l : List Nat) (e : Ending) (w' : World) : Prop :=
  Below w.heap.size w w' ∧ ((∃ n L a, decO l = some (n, L) ∧ e = .returned (.tuple #[.int .i64 n, .slice a L.length L.length, .int .i64 0]) ∧ OpsAt w' a L ∧ (∀ x, a = some x → w.heap.size ≤ x.block)) ∨
    (decO l = none ∧ e = .returned (.tuple #[.int .i64 0, .slice none 0 0, .int .i64 2])))
theorem wrap_sgn {n : Nat} (h : n < 18446744073709551616) : wrap64 (n : Int) = sgn n := by
  unfold wrap64 sgn
  split <;> omega
theorem bytPart {B : Nat} {w : World} {a : Option Addr} {l : List Nat} (h : BytB B w a l) (cap p q : Nat) (hc : l.length ≤ cap) (hpq : p ≤ q) (hq : q ≤ l.length) : Byt w (part a cap p) ((l.take q).drop p) := (h.part cap p q hc hpq hq).byt
set_option maxRecDepth 100000 in
set_option maxHeartbeats 1000000 in
theorem decode_any (w : World) (v : Value) (l : List Nat) (hr : Rw w.heap.size w v l) (hb : ∀ x ∈ l, x < 256) (hm : l.length ≤ 9223372036854775807) :
    Calls Try.prog 14 #[v] w (DecV w l) := by
  obtain ⟨a, cap, rfl, h1, h2, h3⟩ := hr
  by_cases h12 : l.length < 12
  · have hn : Hid (decO l = none) := Lib.hid (by unfold decO; rw [if_pos h12])
    obtain ⟨n, hln⟩ : ∃ n, l.length = n := ⟨_, rfl⟩
    rw [hln] at h12 ⊢
    clear h1 h2 h3 hb hm hln
    go_enter Try.func14, Try.ntmps14
    go_wp2
    refine bodyPost_ret (v := .tuple #[.int .i64 0, .slice none 0 0, .int .i64 2]) (by simp [results, Try.results14, go_sem]) rfl ?_
    exact ⟨Below.refl _ _, .inr ⟨hn.out, rfl⟩⟩
  · have l8 : (l.take 8).length = 8 := by rw [List.length_take]; omega
    have l4 : ((l.take 12).drop 8).length = 4 := by rw [List.length_drop, List.length_take]; omega
    have e4 : (l.take 12).drop 8 = (l.drop 8).take 4 := by rw [List.drop_take]
    have b8 : ∀ x ∈ l.take 8, x < 256 := fun x hx => hb x (List.mem_of_mem_take hx)
    have b4 : ∀ x ∈ (l.take 12).drop 8, x < 256 := fun x hx => hb x (List.mem_of_mem_take (List.mem_of_mem_drop hx))
    have bD : ∀ x ∈ l.drop 12, x < 256 := fun x hx => hb x (List.mem_of_mem_drop hx)
    have HW8 := Lib.hid (VA.whole_any w (part a cap 0) cap 8 (l.take 8) l8 (bytPart h1 cap 0 8 h2 (by omega) (by omega)) b8 (by omega))
    have HW4 := Lib.hid (VA.whole_any w (part a cap 8) (cap - 8) 4 ((l.take 12).drop 8) l4 (bytPart h1 cap 8 12 h2 (by omega) (by omega)) b4 (by omega))
    have hn8 := VA.acc8_lt (l.take 8) b8 8
    have hn4 := VA.acc8_lt ((l.take 12).drop 8) b4 4
    have r8 : (Instr.slice 23 (.slice a l.length cap) none (some (.int .i64 8)) none).run Try.prog w = .ok (.slice (part a cap 0) 8 cap) w := run_part_to l.length cap 8 (by omega)
    have r4 : (Instr.slice 23 (.slice a l.length cap) (some (.int .i64 8)) (some (.int .i64 12)) none).run Try.prog w = .ok (.slice (part a cap 8) 4 (cap - 8)) w := run_part (w := w) (a := a) l.length cap 8 12 12 rfl (by omega) (by omega)
    have rD : (Instr.slice 23 (.slice a l.length cap) (some (.int .i64 12)) none none).run Try.prog w = .ok (.slice (part a cap 12) (l.length - 12) (cap - 12)) w := run_part_from (w := w) (a := a) l.length cap 12 12 rfl (by omega) h2
    have HCO := Lib.hid (cutOps_any w.heap.size w.heap.size w _ (l.drop 12) (VA.acc8 ((l.take 12).drop 8) 4) rfl (Nat.le_refl _) (Rw.part h1 h2 h3 12 (by omega)) bD (by rw [List.length_drop]; omega) (Nat.lt_of_lt_of_le hn4 (by omega)))
    have hN : VA.acc8 (l.take 8) 8 = numOf8 l := rfl
    have hC : VA.acc8 ((l.take 12).drop 8) 4 = cntOf4 l := by unfold cntOf4; rw [e4]
    rw [hN] at HW8 hn8
    rw [hC] at HW4 hn4 HCO
    have HD : Hid (decO l = match cutAll (cntOf4 l) (l.drop 12) with
        | none => none
        | some L => if chkI (sgn (numOf8 l)) L = 0 then some (sgn (numOf8 l), L) else none) := Lib.hid (by unfold decO; rw [if_neg h12]; rfl)
    have HWR := Lib.hid (wrap_sgn (n := numOf8 l) (by omega))
    have HSI := Lib.hid (sgn_in (numOf8 l) (by omega))
    clear hN hC e4 l8 l4 b8 b4 bD hb h1 h3 hm hn8 hn4
    generalize numOf8 l = N at *
    generalize cntOf4 l = C at *
    generalize l.drop 12 = D at *
    obtain ⟨n, hln⟩ : ∃ n, l.length = n := ⟨_, rfl⟩
    rw [hln] at h12 h2 r8 r4 rD HCO ⊢
    clear hln
    go_enter Try.func14, Try.ntmps14
    go_wp2_with fail
    refine HW8.out.mono ?_
    rintro e w' ⟨rfl, rfl⟩
    go_wp2_with fail
    refine HW4.out.mono ?_
    rintro e w' ⟨rfl, rfl⟩
    go_wp2_with fail
    refine HCO.out.mono ?_
    rintro e W1 ⟨hb1, ⟨L, ad, hL, rfl, ho, hf⟩ | ⟨ad, m, k, hL, rfl⟩⟩
    · have HB1 := Lib.hid hb1
      have HO := Lib.hid ho
      have HF := Lib.hid hf
      have s1 := hb1.size
      have hlen := Lib.hid (cutAll_inv' hL)
      have HC : Hid (Calls Try.prog 15 #[.int .i64 (wrap64 (N : Int)), .slice ad L.length L.length] W1 fun e w' => e = .returned (.int .i64 (chkI (sgn N) L)) ∧ Below W1.heap.size W1 w') := Lib.hid (by
        rw [HWR.out]
        exact check_any (sgn N) HSI.out W1 ad L.length L.length L ho rfl (by have := hlen.out; omega))
      rw [hL] at HD
      clear hb1 ho hf hL HW8 HW4 HCO r8 r4 rD
      by_cases hz : chkI (sgn N) L = 0
      · have hd : Hid (decO l = some (sgn N, L)) := Lib.hid (by rw [HD.out]; dsimp only; rw [if_pos hz])
        rw [hz] at HC
        clear hz HD
        obtain ⟨nL, hnL⟩ : ∃ nL, L.length = nL := ⟨_, rfl⟩
        rw [hnL] at HC ⊢
        have HNL := Lib.hid hnL
        clear hnL
        go_wp2_with fail
        refine HC.out.mono ?_
        rintro e W2 ⟨rfl, b2⟩
        have HB2 := Lib.hid (HB1.out.trans (b2.mono s1))
        have HO2 := Lib.hid (HO.out.keep b2)
        clear b2 HC
        go_wp2_with fail
        refine bodyPost_ret (v := .tuple #[.int .i64 (wrap64 (N : Int)), .slice ad nL nL, .int .i64 0]) (by simp [results, Try.results14, go_sem]) rfl ?_
        exact ⟨HB2.out, .inl ⟨sgn N, L, ad, hd.out, by rw [HWR.out, HNL.out], HO2.out, HF.out⟩⟩
      · have hd : Hid (decO l = none) := Lib.hid (by rw [HD.out]; dsimp only; rw [if_neg hz])
        obtain ⟨c, hc⟩ : ∃ c, chkI (sgn N) L = c := ⟨_, rfl⟩
        rw [hc] at HC hz
        have q0 : (c != 0) = true := by simpa using hz
        clear hz HD hc
        go_wp2_with fail
        refine HC.out.mono ?_
        rintro e W2 ⟨rfl, b2⟩
        have HB2 := Lib.hid (HB1.out.trans (b2.mono s1))
        clear b2 HC
        go_wp2_with fail
        refine bodyPost_ret (v := .tuple #[.int .i64 0, .slice none 0 0, .int .i64 2]) (by simp [results, Try.results14, go_sem]) rfl ?_
        exact ⟨HB2.out, .inr ⟨hd.out, rfl⟩⟩
    · have HB1 := Lib.hid hb1
      rw [hL] at HD
      have hd : Hid (decO l = none) := Lib.hid HD.out
      clear hb1 hL HW8 HW4 HCO r8 r4 rD HD
      go_wp2_with fail
      refine bodyPost_ret (v := .tuple #[.int .i64 0, .slice none 0 0, .int .i64 2]) (by simp [results, Try.results14, go_sem]) rfl ?_
      exact ⟨HB1.out, .inr ⟨hd.out, rfl⟩⟩
end Go.Proofs.Ythpcgdgahlcblaa
