/-
  New, Number; the number that a name tells.
-/
import Derived.Test.YtadnecgcoceklaaGreatDoorWalW4
namespace Go.Proofs.YtadnecgcoceklaaGreatDoor
open Go.RowKit Go.Maps

theorem Number_any {G : Nat → Prop} {w : World} {lb pb num lim : Nat} {a : A} (h : Lx G w lb pb num lim a) :
    Calls Tryz.prog 13 #[bp lb] w fun e w' => e = .returned (.int .i64 (num : Int)) ∧ w = w' := by
  have hc := h.cells
  have hlt := h.lt
  clear h
  go_enter Tryz.func13, Tryz.ntmps13
  go_wp2
  go_ret
  exact ⟨rfl, rfl⟩
def wNewR (a : A) (number limit : Int) : Int × A := if number < 1 ∨ 999999 < number ∨ limit < 1 ∨ 1048576 < limit then (1, a) else wBegin a number.toNat
/-- What New answers. -/
def NewAns (G : Nat → Prop) (w : World) (pb : Nat) (number limit : Int) (r : Int × A) (e : Ending) (w' : World) : Prop :=
  Stay G w w' ∧ ((r.1 ≠ 0 ∧ e = .returned (.tuple #[.pointer none, .int .i64 r.1]) ∧ Fx G w' pb r.2) ∨
    (r.1 = 0 ∧ ∃ lb, w.heap.size ≤ lb ∧ e = .returned (.tuple #[bp lb, .int .i64 0]) ∧ Lx G w' lb pb number.toNat limit.toNat r.2))
theorem str_empty {s : ByteArray} : (s.toList == []) = s.toList.isEmpty := by cases s.toList <;> rfl
theorem strB_toList (s : Bs) : (strB s).toList = s := by rw [toList_eq, strB_list]
set_option maxRecDepth 100000 in
set_option maxHeartbeats 1000000 in
theorem New_any {G : Nat → Prop} {w : World} {pb : Nat} {a : A} (h : Fx G w pb a) (hv : VG G w) (number limit : Int) (hn : -9223372036854775808 ≤ number ∧ number ≤ 9223372036854775807) (ht : a.top + 1 < 1073741824) :
    Calls Tryz.prog 16 #[bp pb, .int .i64 number, .int .i64 limit] w (NewAns G w pb number limit (wNewR a number limit)) := by
  have hF := Lib.hid h
  have HN := Lib.hid (Name_any number hn w hv.vars)
  have HV := Lib.hid hv
  have HT := Lib.hid ht
  clear h hv ht
  by_cases h0 : number < 1 ∨ 999999 < number
  · have hw : wName number = [] := by unfold wName; exact if_pos h0
    have HE := Lib.hid (show wNewR a number limit = (1, a) by unfold wNewR; exact if_pos (by omega))
    rw [hw] at HN
    have hemp : (strB ([] : Bs)).toList = [] := strB_toList []
    clear h0 hw
    go_enter Tryz.func16, Tryz.ntmps16
    go_wp2_with fail
    refine HN.out.mono ?_
    rintro e W1 ⟨rfl, hb⟩
    have HB := Lib.hid hb
    clear hb HN
    go_wp2
    go_ret2
    exact ⟨Stay.of_below HB.out, .inl (by rw [HE.out]; exact ⟨(show (1 : Int) ≠ 0 by decide), rfl, hF.out.below HB.out⟩)⟩
  · obtain ⟨m, rfl⟩ : ∃ m : Nat, number = m := ⟨number.toNat, by omega⟩
    have hm1 : 1 ≤ m := by omega
    have hm2 : m ≤ 999999 := by omega
    rw [wName_in hm1 hm2] at HN
    have hemp : (strB (wnm m)).toList.isEmpty = false := by rw [strB_toList]; rfl
    have hemp2 : (strB (wnm m)).toList ≠ [] := by rw [strB_toList]; simp [wnm]
    by_cases hl1 : limit < 1
    · have d1 : decide (limit < 1) = true := by simpa using hl1
      have HE := Lib.hid (show wNewR a (m : Int) limit = (1, a) by unfold wNewR; exact if_pos (by omega))
      go_enter Tryz.func16, Tryz.ntmps16
      go_wp2_with fail
      refine HN.out.mono ?_
      rintro e W1 ⟨rfl, hb⟩
      have HB := Lib.hid hb
      clear hb HN
      go_wp2
      go_ret2
      exact ⟨Stay.of_below HB.out, .inl (by rw [HE.out]; exact ⟨(show (1 : Int) ≠ 0 by decide), rfl, hF.out.below HB.out⟩)⟩
    · have d1 : decide (limit < 1) = false := by simpa using hl1
      by_cases hl2 : 1048576 < limit
      · have d2 : decide (1048576 < limit) = true := by simpa using hl2
        have HE := Lib.hid (show wNewR a (m : Int) limit = (1, a) by unfold wNewR; exact if_pos (by omega))
        go_enter Tryz.func16, Tryz.ntmps16
        go_wp2_with fail
        refine HN.out.mono ?_
        rintro e W1 ⟨rfl, hb⟩
        have HB := Lib.hid hb
        clear hb HN
        go_wp2
        go_ret2
        exact ⟨Stay.of_below HB.out, .inl (by rw [HE.out]; exact ⟨(show (1 : Int) ≠ 0 by decide), rfl, hF.out.below HB.out⟩)⟩
      · have d2 : decide (1048576 < limit) = false := by simpa using hl2
        obtain ⟨l, rfl⟩ : ∃ l : Nat, limit = l := ⟨limit.toNat, by omega⟩
        have HE := Lib.hid (show wNewR a (m : Int) (l : Int) = wBegin a m by unfold wNewR; rw [if_neg (by omega), Int.toNat_natCast])
        obtain ⟨r, hr⟩ : ∃ r, wBegin a m = r := ⟨_, rfl⟩
        have HR := Lib.hid hr
        rw [hr] at HE
        clear hr h0 hl1 hl2
        go_enter Tryz.func16, Tryz.ntmps16
        go_wp2_with fail
        refine HN.out.mono ?_
        rintro e W1 ⟨rfl, hb⟩
        have HB := Lib.hid hb
        have HBG := Lib.hid (begin_any (hF.out.below hb) (HV.out.below hb) hm1 hm2 HT.out)
        rw [HR.out] at HBG
        clear hb HN
        go_wp2_with fail
        refine HBG.out.mono ?_
        rintro e W2 ⟨rfl, hF2, hS2⟩
        have HF2 := Lib.hid hF2
        have HS2 := Lib.hid ((Stay.of_below HB.out).trans hS2)
        clear hF2 hS2 HBG
        obtain ⟨z, a2⟩ := r
        dsimp only at HE HF2 ⊢
        by_cases hz : z = 0
        · subst hz
          have HV2 := Lib.hid (HV.out.stay HS2.out)
          have hwz := HS2.out.size
          go_wp2
          go_ret2
          have hb2 := bel1 W2 (.cells #[bp pb, .int .i64 (m : Int), .int .i64 (l : Int)] 85)
          refine ⟨HS2.out.trans (Stay.of_below hb2), .inr ⟨by rw [HE.out], W2.heap.size, hwz, rfl, ?_⟩⟩
          rw [HE.out, Int.toNat_natCast, Int.toNat_natCast]
          exact ⟨heap_alloc_new W2 _, (HF2.out.grown hb2).mono (fun k hk => by
            rcases hk with hk | hk
            · exact .inl hk
            · exact .inr ⟨by omega, by simp; omega⟩), (fun hg => by have := HF2.out.2 _ hg; omega), HV2.out.below hb2⟩
        · have hz1 : (z == 0) = false := by simpa using hz
          go_wp2
          go_ret2
          exact ⟨HS2.out, .inl (by rw [HE.out]; exact ⟨hz, rfl, HF2.out⟩)⟩

theorem trim_any (s p : ByteArray) (w : World) (hs : s.size ≤ 9223372036854775807) :
    Calls Tryz.prog 97 #[.string s, .string p] w fun e w' => e = .returned (.string (strB (Lib.trimSuffix s.data.toList p.data.toList))) ∧ w = w' := by
  refine (Any.strings_TrimSuffix Tryz.trimD s p w hs).mono ?_
  rintro e w' ⟨rfl, rfl⟩
  exact ⟨rfl, rfl⟩
/-- What Atoi answers. -/
def AtoiAns (s : Bs) (w : World) (e : Ending) (w' : World) : Prop :=
  Below w.heap.size w w' ∧ ((∃ v, Lib.atoiAll s = .ok v ∧ e = .returned (.tuple #[.int .i64 v, .nilIface])) ∨ ((∀ v, Lib.atoiAll s ≠ .ok v) ∧ ∃ v t N, e = .returned (.tuple #[.int .i64 v, .iface t (.pointer (some ⟨N, 0, none⟩))])))
theorem atoi_any (s : ByteArray) (w : World) (hv : Vars w) (hs : s.size ≤ 281474976710656) : Calls Tryz.prog 96 #[.string s] w (AtoiAns s.data.toList w) := by
  cases h : Lib.atoiAll s.data.toList with
  | ok v =>
    refine (Any.strconv_Atoi_ok Tryz.atoiD s (by omega) v h w).mono ?_
    rintro e w' ⟨rfl, hw⟩
    refine ⟨?_, .inl ⟨v, h, rfl⟩⟩
    rcases hw with rfl | ⟨t, rfl⟩
    · exact Below.refl _ _
    · exact Lib.bytesWorld_below _ _ _
  | «syntax» =>
    obtain ⟨t, p, hp⟩ := hv.syn
    refine (Any.strconv_Atoi_syntax_var Tryz.atoiD s hs h t p w hp).mono ?_
    rintro e w' ⟨N, rfl, _, _, hb⟩
    exact ⟨hb, .inr ⟨(fun v e => by rw [h] at e; cases e), _, _, N, rfl⟩⟩
  | range =>
    obtain ⟨t, p, hp⟩ := hv.rng
    refine (Any.strconv_Atoi_range_var Tryz.atoiD s hs h t p w hp).mono ?_
    rintro e w' ⟨N, rfl, _, _, hb⟩
    exact ⟨hb, .inr ⟨(fun v e => by rw [h] at e; cases e), _, _, N, rfl⟩⟩
set_option maxRecDepth 100000 in
set_option maxHeartbeats 1000000 in
theorem numberOf_any (s : Bs) (w : World) (hv : Vars w) (hs : s.length ≤ 100) :
    Calls Tryz.prog 76 #[.string (strB s)] w fun e w' => e = .returned (.tuple #[.int .i64 (((numOf s).getD 0 : Nat) : Int), .bool (numOf s).isSome]) ∧ Below w.heap.size w w' := by
  have HT := Lib.hid (trim_any (strB s) (strB dotLog) w (by rw [strB_size]; omega))
  rw [strB_list, strB_list] at HT
  obtain ⟨t, ht⟩ : ∃ t, Lib.trimSuffix s dotLog = t := ⟨_, rfl⟩
  have htl : t.length ≤ 100 := by rw [← ht]; unfold Lib.trimSuffix; split
                                  · rw [List.length_take]; omega
                                  · exact hs
  rw [ht] at HT
  have HA := Lib.hid (atoi_any (strB t) w hv (by rw [strB_size]; omega))
  rw [strB_list] at HA
  have HV := Lib.hid hv
  have HTT := Lib.hid ht
  clear hv ht htl
  go_enter Tryz.func76, Tryz.ntmps76
  go_wp2_with fail
  refine HT.out.mono ?_
  rintro e W1 ⟨rfl, rfl⟩
  clear HT
  go_wp2_with fail
  refine HA.out.mono ?_
  rintro e W1 ⟨hb, hv | hv⟩
  · obtain ⟨v, hv, rfl⟩ := hv
    obtain ⟨v0, v1⟩ := Lib.atoiAll_bounds hv
    have HN := Lib.hid (Name_any v ⟨v0, v1⟩ W1 (HV.out.below hb))
    have HB := Lib.hid hb
    clear hb HA
    by_cases hw : wName v = s
    · have HE := Lib.hid (show numOf s = some v.toNat by unfold numOf; rw [HTT.out, hv]; simp only [hw, if_true])
      have hvn : ((v.toNat : Nat) : Int) = v ∨ s = [] := by
        unfold wName at hw
        split at hw
        · exact .inr hw.symm
        · exact .inl (by omega)
      have hse : s ≠ [] := fun e => by
        subst e
        rw [show Lib.trimSuffix [] dotLog = [] from rfl] at HTT
        have := HTT.out
        subst this
        simp [Lib.atoiAll] at hv
      have HVN := Lib.hid (hvn.resolve_right hse)
      rw [hw] at HN
      have hq : ((strB s).toList == (strB s).toList) = true := by simp
      clear hw hvn hse hv
      go_wp2_with fail
      refine HN.out.mono ?_
      rintro e W2 ⟨rfl, hb⟩
      have HB2 := Lib.hid (HB.out.trans (hb.mono HB.out.size))
      clear hb HN
      go_wp2
      go_ret2
      rw [HE.out]
      exact ⟨by simp [HVN.out], HB2.out⟩
    · have HE := Lib.hid (show numOf s = none by unfold numOf; rw [HTT.out, hv]; simp only [hw, if_false])
      have hq : ((strB (wName v)).toList == (strB s).toList) = false := by rw [strB_toList, strB_toList]; simpa using hw
      clear hw hv
      go_wp2_with fail
      refine HN.out.mono ?_
      rintro e W2 ⟨rfl, hb⟩
      have HB2 := Lib.hid (HB.out.trans (hb.mono HB.out.size))
      clear hb HN
      go_wp2
      go_ret2
      rw [HE.out]
      exact ⟨rfl, HB2.out⟩
  · obtain ⟨hno, v, tt, N, rfl⟩ := hv
    have HE := Lib.hid (show numOf s = none by
      unfold numOf; rw [HTT.out]
      cases hc : Lib.atoiAll t with
      | ok v => exact absurd hc (hno v)
      | «syntax» => rfl
      | range => rfl)
    have HB := Lib.hid hb
    clear hb HA hno
    go_wp2
    go_ret2
    rw [HE.out]
    exact ⟨rfl, HB.out⟩
end Go.Proofs.YtadnecgcoceklaaGreatDoor
