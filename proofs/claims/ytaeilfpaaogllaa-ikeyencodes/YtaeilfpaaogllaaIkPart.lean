/-
  What common and Part answer.
-/
import Derived.Test.YtaeilfpaaogllaaIkPart0
namespace Go.Proofs.Ytaeilfpaaogllaa
open Go.RowKit

/-- How many are alike at the front. -/
def commonN : List Nat → List Nat → Nat
  | a :: x, b :: y => if a = b then commonN x y + 1 else 0
  | _, _ => 0
theorem common_le (x y : List Nat) : commonN x y ≤ x.length ∧ commonN x y ≤ y.length := by
  induction x generalizing y with
  | nil => cases y <;> simp [commonN]
  | cons a x ih => cases y with
    | nil => simp [commonN]
    | cons b y =>
      unfold commonN; split
      · have := ih y; simp; omega
      · simp
theorem common_step {x y : List Nat} {j : Nat} (hx : j < x.length) (hy : j < y.length) (h : x[j] = y[j]) : commonN (x.drop j) (y.drop j) = commonN (x.drop (j + 1)) (y.drop (j + 1)) + 1 := by
  rw [List.drop_eq_getElem_cons hx, List.drop_eq_getElem_cons hy]
  show (if x[j] = y[j] then _ else 0) = _
  rw [if_pos h]
theorem common_stop {x y : List Nat} {j : Nat} (hx : j < x.length) (hy : j < y.length) (h : ¬ x[j] = y[j]) : commonN (x.drop j) (y.drop j) = 0 := by
  rw [List.drop_eq_getElem_cons hx, List.drop_eq_getElem_cons hy]
  show (if x[j] = y[j] then _ else 0) = _
  rw [if_neg h]
theorem common_end {x y : List Nat} {j : Nat} (h : x.length ≤ j ∨ y.length ≤ j) : commonN (x.drop j) (y.drop j) = 0 := by
  rcases h with h | h
  · rw [List.drop_eq_nil_of_le h]; rfl
  · rw [List.drop_eq_nil_of_le h]; unfold commonN; split <;> simp_all
set_option maxRecDepth 100000 in
set_option maxHeartbeats 800000 in
theorem common_any (a b : ByteArray) (ha : a.size ≤ 140737488351232) (w : World) :
    Calls Try.prog 29 #[.string a, .string b] w fun e w' => e = .returned (.int .i64 (commonN (natsOf a) (natsOf b) : Int)) ∧ Below w.heap.size w w' := by
  have HLA := Lib.hid (natsOf_length a)
  have HLB := Lib.hid (natsOf_length b)
  go_enter Try.func29, Try.ntmps29
  go_wp2
  go_loopw [5] (fun i wr => ∃ j : Nat, j ≤ a.size ∧ i = .int .i64 (j : Int) ∧ Hid (j + commonN ((natsOf a).drop j) ((natsOf b).drop j) = commonN (natsOf a) (natsOf b) ∧ Below w.heap.size w wr)) (fun i _ => a.size - (intOf i).toNat)
  case atStart => exact ⟨0, by omega, rfl, by simp, Below.refl _ _⟩
  case round =>
    obtain ⟨j, hj, rfl, hI⟩ := hrel
    by_cases h1 : j < a.size
    · by_cases h2 : j < b.size
      · have g1 := natsOf_get a j h1
        have g2 := natsOf_get b j h2
        by_cases h3 : a[j].toNat = b[j].toNat
        · have HS := Lib.hid (common_step (x := natsOf a) (y := natsOf b) (j := j) (by rw [HLA.out]; exact h1) (by rw [HLB.out]; exact h2) (by rw [g1, g2, h3]))
          have q : ((a[j].toNat : Int) == (b[j].toNat : Int)) = true := by simp; omega
          clear g1 g2
          go_wp2_with fail
          go_quiet (fail)
          go_wp2
          go_roundw
          case rel => exact ⟨j + 1, by omega, by go_num, by have := hI.out.1; rw [HS.out] at this; omega, hI.out.2.trans (below_drewN _ _ _)⟩
          case measure => simp [intOf]; omega
        · have HS := Lib.hid (common_stop (x := natsOf a) (y := natsOf b) (j := j) (by rw [HLA.out]; exact h1) (by rw [HLB.out]; exact h2) (by rw [g1, g2]; exact h3))
          have q : ((a[j].toNat : Int) == (b[j].toNat : Int)) = false := by rw [beq_eq_false_iff_ne]; omega
          clear g1 g2
          go_wp2_with fail
          go_quiet (fail)
          go_wp2
          go_ret
          exact ⟨by have := hI.out.1; rw [HS.out, Nat.add_zero] at this; rw [← this]; rfl, hI.out.2.trans (below_drewN _ _ _)⟩
      · have HS := Lib.hid (common_end (x := natsOf a) (y := natsOf b) (j := j) (.inr (by rw [HLB.out]; omega)))
        go_wp2_with fail
        go_quiet (fail)
        go_wp2
        go_ret
        exact ⟨by have := hI.out.1; rw [HS.out, Nat.add_zero] at this; rw [← this]; rfl, hI.out.2.trans (below_drewN _ _ _)⟩
    · have HS := Lib.hid (common_end (x := natsOf a) (y := natsOf b) (j := j) (.inl (by rw [HLA.out]; omega)))
      go_wp2_with fail
      go_quiet (fail)
      go_wp2
      go_ret
      exact ⟨by have := hI.out.1; rw [HS.out, Nat.add_zero] at this; rw [← this]; rfl, hI.out.2.trans (below_drewN _ _ _)⟩
/-- A beginning whose next byte is raised. -/
def raise (a : List Nat) (i : Nat) : List Nat := a.take i ++ [a.getD i 0 + 1]
def partF (a b : List Nat) (i : Nat) : List Nat :=
  if i + 1 < a.length then
    if a.getD i 0 = 255 then partF a b (i + 1)
    else if lexN (raise a i) b = true then raise a i else partF a b (i + 1)
  else a
termination_by a.length - i
def partS (a b : List Nat) : List Nat := if lexN a b = true then partF a b (commonN a b) else a
theorem raise_byte {a : List Nat} (h : ∀ x ∈ a, x < 256) (i : Nat) (hi : i < a.length) (h2 : a.getD i 0 ≠ 255) : ∀ x ∈ raise a i, x < 256 := by
  intro x hx
  rcases List.mem_append.1 hx with h1 | h1
  · exact h x (List.mem_of_mem_take h1)
  · simp only [List.mem_singleton] at h1
    have : a.getD i 0 = a[i] := by rw [List.getD_eq_getElem?_getD, List.getElem?_eq_getElem hi]; rfl
    have h3 := h a[i] (List.getElem_mem hi)
    omega
theorem getD_nats (a : ByteArray) (j : Nat) (h : j < a.size) : (natsOf a).getD j 0 = a[j].toNat := by
  rw [List.getD_eq_getElem?_getD, List.getElem?_eq_getElem (by rw [natsOf_length]; exact h), ← natsOf_get a j h]; rfl
set_option maxRecDepth 100000 in
set_option maxHeartbeats 800000 in
theorem part_any (a b : ByteArray) (ha : a.size ≤ 140737488351232) (w : World) :
    Calls Try.prog 23 #[.string a, .string b] w fun e w' => e = .returned (.string (strOf (partS (natsOf a) (natsOf b)))) ∧ Below w.heap.size w w' := by
  have HCL : Hid (∀ wx, Calls Try.prog 28 #[.string a] wx fun e w' => e = .returned (.string a) ∧ Below wx.heap.size wx w') := Lib.hid (sclone_any a ha)
  have HCO : Hid (∀ wx, Calls Try.prog 29 #[.string a, .string b] wx fun e w' => e = .returned (.int .i64 (commonN (natsOf a) (natsOf b) : Int)) ∧ Below wx.heap.size wx w') := Lib.hid (common_any a b ha)
  have HN := Lib.hid (strOf_natsOf a)
  have hlx := less_lex a b
  by_cases hl : lexN (natsOf a) (natsOf b) = true
  · rw [hl] at hlx
    have HR : Hid (partS (natsOf a) (natsOf b) = partF (natsOf a) (natsOf b) (commonN (natsOf a) (natsOf b))) := Lib.hid (by unfold partS; rw [if_pos hl])
    have hc := (common_le (natsOf a) (natsOf b)).1
    rw [natsOf_length] at hc
    clear hl
    generalize commonN (natsOf a) (natsOf b) = c at *
    have HPF : Hid (partF (natsOf a) (natsOf b) c = partS (natsOf a) (natsOf b)) := Lib.hid HR.out.symm
    clear HR
    generalize partS (natsOf a) (natsOf b) = R at *
    go_enter Try.func23, Try.ntmps23
    go_wp2_with fail
    refine (HCO.out _).mono ?_
    rintro e w1 ⟨rfl, hb1⟩
    have HB1 := Lib.hid hb1
    clear hb1
    go_wp2_with fail
    go_loopw [5] (fun i wr => ∃ j : Nat, j ≤ a.size ∧ i = .int .i64 (j : Int) ∧ Hid (partF (natsOf a) (natsOf b) j = R ∧ Below w.heap.size w wr)) (fun i _ => a.size - (intOf i).toNat)
    case atStart => exact ⟨c, hc, rfl, HPF.out, HB1.out⟩
    case round =>
      obtain ⟨j, hj, rfl, hI⟩ := hrel
      have hstep := hI.out.1
      unfold partF at hstep
      rw [natsOf_length] at hstep
      by_cases h1 : j + 1 < a.size
      · rw [if_pos h1, getD_nats a j (by omega)] at hstep
        have hjs : j < a.size := by omega
        have hy := (a[j]).toNat_lt
        by_cases h2 : a[j].toNat = 255
        · rw [if_pos h2] at hstep
          have q : ((a[j].toNat : Int) == 255) = true := by simp; omega
          have HS := Lib.hid hstep
          have HB := Lib.hid hI.out.2
          clear hstep hI HPF
          go_wp2
          go_roundw
          case rel => exact ⟨j + 1, by omega, by go_num, HS.out, HB.out⟩
          case measure => simp [intOf]; omega
        · rw [if_neg h2] at hstep
          have q : ((a[j].toNat : Int) == 255) = false := by rw [beq_eq_false_iff_ne]; omega
          have hw8 : IntKind.u8.wrap ((a[j].toNat : Int) + 1) = ((a[j].toNat + 1 : Nat) : Int) := by simp [IntKind.wrap, IntKind.bits, IntKind.signed]; omega
          have HB := Lib.hid hI.out.2
          have HRB := Lib.hid (raise_byte (natsOf_byte a) j (by rw [natsOf_length]; exact hjs) (by rw [getD_nats a j hjs]; exact h2))
          have HX : Hid (a.extract 0 j ++ strOf [a[j].toNat + 1] = strOf (raise (natsOf a) j)) := Lib.hid (by
            rw [extract_str a 0 j (by omega), strOf_app]
            unfold raise; rw [getD_nats a j hjs, List.drop_zero])
          have hlr := less_strOf (l := raise (natsOf a) j) (m := natsOf b) HRB.out (natsOf_byte b)
          rw [strOf_natsOf] at hlr
          have hsz1 : (a.extract 0 j).size = j := by simp; omega
          have hsz2 : (strOf [a[j].toNat + 1]).size = 1 := strOf_size _
          have hcv : ∀ (W : World) (p : Nat), p < W.heap.size → W.cell? ⟨p, 0, none⟩ = some (.int .u8 ((a[j].toNat + 1 : Nat) : Int)) → (convert 24 9 (.slice (some ⟨p, 0, none⟩) 1 1)).run Try.prog W = .ok (.string (strOf [a[j].toNat + 1])) W := fun W p hp hc => conv_one W p (a[j].toNat + 1) 1 (by omega) hp hc
          go_wp2_with fail
          go_region
          rw [HX.out]
          clear hcv hsz1 hsz2 hw8 HX
          by_cases h3 : lexN (raise (natsOf a) j) (natsOf b) = true
          · rw [h3] at hlr
            rw [if_pos h3] at hstep
            have HS := Lib.hid hstep
            clear hstep h3 hI HPF HRB
            rw [HS.out] at hlr ⊢
            obtain ⟨S, hS⟩ : ∃ S, S = strOf R := ⟨_, rfl⟩
            rw [← hS] at hlr ⊢
            have HSS := Lib.hid hS
            clear hS
            go_wp2
            go_ret
            exact ⟨by rw [← HSS.out]; rfl, (HB.out.alloc HB.out.size _).drew⟩
          · rw [if_neg h3] at hstep
            have h4 : lexN (raise (natsOf a) j) (natsOf b) = false := by simpa using h3
            rw [h4] at hlr
            have HS := Lib.hid hstep
            clear hstep h3 h4 hI HPF HRB
            generalize strOf (raise (natsOf a) j) = S at *
            go_wp2
            go_roundw
            case rel => exact ⟨j + 1, by omega, by go_num, HS.out, (HB.out.alloc HB.out.size _).drew⟩
            case measure => simp [intOf]; omega
      · rw [if_neg h1] at hstep
        have HS := Lib.hid hstep
        have HB := Lib.hid hI.out.2
        clear hstep hI HPF
        go_wp2_with fail
        refine (HCL.out _).mono ?_
        rintro e w4 ⟨rfl, hb4⟩
        have HB4 := Lib.hid hb4
        clear hb4
        go_wp2
        go_ret
        exact ⟨by rw [← HS.out, HN.out]; rfl, HB.out.trans (HB4.out.mono HB.out.size)⟩
  · have hl2 : lexN (natsOf a) (natsOf b) = false := by simpa using hl
    rw [hl2] at hlx
    have HR : Hid (partS (natsOf a) (natsOf b) = natsOf a) := Lib.hid (by unfold partS; rw [if_neg hl])
    clear hl hl2 HCO
    go_enter Try.func23, Try.ntmps23
    go_wp2_with fail
    refine (HCL.out _).mono ?_
    rintro e w4 ⟨rfl, hb4⟩
    have HB4 := Lib.hid hb4
    clear hb4
    go_wp2
    go_ret
    exact ⟨by rw [HR.out, HN.out]; rfl, HB4.out⟩
end Go.Proofs.Ytaeilfpaaogllaa
