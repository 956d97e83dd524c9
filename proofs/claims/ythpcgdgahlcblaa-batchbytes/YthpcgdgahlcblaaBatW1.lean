/-
  What isBig, isFormless, ContainsFunc and Check answer.
-/
import Derived.Test.YthpcgdgahlcblaaBatPure
namespace Go.Proofs.Ythpcgdgahlcblaa
open Go.RowKit

theorem run_fn {f : FuncId} {fn : Func} (hf : Try.prog.funcs[f]? = some fn) (hname : (fn.name == "runtime.NumGoroutine") = false) (hb : fn.body.isSome = true) (args : Array Value) (w : World) :
    (callFunc f args).run Try.prog w = .ok (.enter f args) w := by
  obtain ⟨c, hc⟩ := Option.isSome_iff_exists.1 hb
  have h1 : fn.name ≠ "runtime.NumGoroutine" := by simpa using hname
  simp [callFunc, hf, h1, hc]
set_option maxRecDepth 100000 in
theorem isBig_any (o : OpV) (w : World) : Calls Try.prog 38 #[o.v] w fun e w' => e = .returned (.bool (bigB o)) ∧ Below w.heap.size w w' := by
  have HV : Hid (bigB o = (decide (64 < o.key.size) || decide (1000 < o.val.size))) := Lib.hid rfl
  obtain ⟨kd, k, v⟩ := o
  unfold OpV.v
  by_cases h1 : 64 < k.size
  · go_enter Try.func38, Try.ntmps38
    go_wp2
    go_ret
    exact ⟨by rw [HV.out, decide_eq_true h1]; rfl, below_alloc (Nat.le_refl _) _⟩
  · by_cases h2 : 1000 < v.size
    · go_enter Try.func38, Try.ntmps38
      go_wp2
      go_ret
      refine ⟨?_, below_alloc (Nat.le_refl _) _⟩
      rw [HV.out, decide_eq_false h1, decide_eq_true h2]
      simp
      omega
    · go_enter Try.func38, Try.ntmps38
      go_wp2
      go_ret
      refine ⟨?_, below_alloc (Nat.le_refl _) _⟩
      rw [HV.out, decide_eq_false h1, decide_eq_false h2]
      simp
      omega
theorem str_none (x : ByteArray) : x.toList.isEmpty = decide (x.size = 0) := by
  rw [toList_eq]
  by_cases h : x.size = 0
  · rw [decide_eq_true h]
    have : x.data.toList = [] := List.length_eq_zero_iff.1 (by simpa using h)
    rw [this]; rfl
  · rw [decide_eq_false h]
    cases hx : x.data.toList with
    | nil => exfalso; apply h; have := congrArg List.length hx; simpa using this
    | cons c l => rfl
set_option maxRecDepth 100000 in
theorem isFormless_any (o : OpV) (w : World) : Calls Try.prog 39 #[o.v] w fun e w' => e = .returned (.bool (formB o)) ∧ Below w.heap.size w w' := by
  have HV : Hid (formB o = if o.kind = 1 then decide (o.key.size = 0) else if o.kind = 0 then decide (o.key.size = 0) || !decide (o.val.size = 0) else true) := Lib.hid rfl
  obtain ⟨kd, k, v⟩ := o
  unfold OpV.v
  have hk := str_none k
  have hv := str_none v
  obtain ⟨bk, hbk⟩ : ∃ bk, decide (k.size = 0) = bk := ⟨_, rfl⟩
  obtain ⟨bv', hbv⟩ : ∃ bv', decide (v.size = 0) = bv' := ⟨_, rfl⟩
  dsimp only at HV ⊢
  rw [hbk, hbv] at HV
  rw [hbk] at hk
  rw [hbv] at hv
  clear hbk hbv
  by_cases h1 : kd = 1
  · subst h1
    go_enter Try.func39, Try.ntmps39
    go_wp2
    go_ret
    exact ⟨by rw [HV.out]; rfl, below_alloc (Nat.le_refl _) _⟩
  · by_cases h2 : kd = 0
    · subst h2
      cases bk <;> cases bv'
      all_goals
        go_enter Try.func39, Try.ntmps39
        go_wp2
        go_ret
        exact ⟨by rw [HV.out]; rfl, below_alloc (Nat.le_refl _) _⟩
    · have q1 : (kd == 1) = false := by simp [h1]
      have q2 : (kd == 0) = false := by simp [h2]
      have HV2 : Hid (formB ⟨kd, k, v⟩ = true) := Lib.hid (by rw [HV.out, if_neg h1, if_neg h2])
      clear h1 h2 HV
      go_enter Try.func39, Try.ntmps39
      go_wp2
      go_ret
      exact ⟨by rw [HV2.out]; rfl, below_alloc (Nat.le_refl _) _⟩
theorem any_true {p : OpV → Bool} {l : List OpV} {i : Nat} (hi : i < l.length) (h : p l[i] = true) : l.any p = true := List.any_eq_true.2 ⟨_, List.getElem_mem hi, h⟩
theorem any_step {p : OpV → Bool} {l : List OpV} {i : Nat} (hi : i < l.length) (h0 : (l.take i).any p = false) (h : p l[i] = false) : (l.take (i + 1)).any p = false := by
  rw [List.take_succ_eq_append_getElem hi, List.any_append, h0]; simp [h]
set_option maxRecDepth 100000 in
set_option maxHeartbeats 800000 in
theorem index_any (p : OpV → Bool) (fid : FuncId) (hrun : ∀ args w, (callFunc fid args).run Try.prog w = .ok (.enter fid args) w)
    (hp : ∀ (o : OpV) w, Calls Try.prog fid #[o.v] w fun e w' => e = .returned (.bool (p o)) ∧ Below w.heap.size w w')
    (w : World) (a : Option Addr) (n cap : Nat) (l : List OpV) (hl : OpsAt w a l) (hn : l.length = n) (hm : n ≤ 9223372036854775807) :
    Calls Try.prog 59 #[.slice a n cap, .func (.func fid) #[] #[]] w fun e w' => (∃ z : Int, e = .returned (.int .i64 z) ∧ -1 ≤ z ∧ z ≤ 9223372036854775807 ∧ decide (0 ≤ z) = l.any p) ∧ Below w.heap.size w w' := by
  have HL := Lib.hid hl
  have HN := Lib.hid hn
  have HP := Lib.hid hp
  clear hl hn hp
  go_enter Try.func59, Try.ntmps59
  go_wp2_with fail
  go_loopw [5, 8] (fun _ u8 wr => ∃ i : Nat, u8 = .int .i64 (i : Int) ∧ i ≤ n ∧ Below w.heap.size w wr ∧ (l.take i).any p = false) (fun _ u8 _ => n - (intOf u8).toNat)
  case atStart => exact ⟨0, rfl, Nat.zero_le _, Below.refl _ _, rfl⟩
  case round =>
    obtain ⟨i, rfl, hi, hbel, hany⟩ := hrel
    have HB := Lib.hid hbel
    have HA := Lib.hid hany
    have hws := hbel.size
    clear hbel hany
    by_cases hin : i < n
    · have hil : i < l.length := by rw [HN.out]; exact hin
      obtain ⟨b, off, rfl, hlt, c0, c1, c2⟩ := (HL.out.keep HB.out).at hil
      have HPO := Lib.hid (HP.out l[i] wr)
      have HT := Lib.hid (fun h => any_true (p := p) hil h)
      have HF := Lib.hid (fun h => any_step (p := p) hil HA.out h)
      generalize l[i] = o at *
      obtain ⟨kd, ky, vl⟩ := o
      dsimp only at c0 c1 c2
      unfold OpV.v at HPO
      cases hpo : p ⟨kd, ky, vl⟩ with
      | true =>
        rw [hpo] at HPO
        have HT2 := Lib.hid (HT.out hpo)
        clear hpo HF HT
        go_wp2_with fail
        refine HPO.out.mono ?_
        rintro e W1 ⟨rfl, b1⟩
        have HB1 := Lib.hid (HB.out.trans (b1.mono hws))
        clear b1
        go_wp2
        go_ret
        exact ⟨⟨i, rfl, by omega, by omega, by rw [HT2.out]; simp⟩, HB1.out⟩
      | false =>
        rw [hpo] at HPO
        have HF2 := Lib.hid (HF.out hpo)
        clear hpo HF HT
        go_wp2_with fail
        refine HPO.out.mono ?_
        rintro e W1 ⟨rfl, b1⟩
        have HB1 := Lib.hid (HB.out.trans (b1.mono hws))
        clear b1
        go_wp2
        go_roundw
        case rel => exact ⟨i + 1, by go_num, by omega, HB1.out, HF2.out⟩
        case measure => simp [intOf]; omega
    · obtain rfl : i = n := by omega
      have HT : Hid (l.any p = false) := Lib.hid (by
        have := HA.out
        rwa [List.take_of_length_le (by rw [HN.out]; exact Nat.le_refl _)] at this)
      go_wp2
      go_ret
      exact ⟨⟨-1, rfl, by omega, by omega, by rw [HT.out]; rfl⟩, HB.out⟩
set_option maxRecDepth 100000 in
theorem contains_any (p : OpV → Bool) (fid : FuncId) (hrun : ∀ args w, (callFunc fid args).run Try.prog w = .ok (.enter fid args) w)
    (hp : ∀ (o : OpV) w, Calls Try.prog fid #[o.v] w fun e w' => e = .returned (.bool (p o)) ∧ Below w.heap.size w w')
    (w : World) (a : Option Addr) (n cap : Nat) (l : List OpV) (hl : OpsAt w a l) (hn : l.length = n) (hm : n ≤ 9223372036854775807) :
    Calls Try.prog 37 #[.slice a n cap, .func (.func fid) #[] #[]] w fun e w' => e = .returned (.bool (l.any p)) ∧ Below w.heap.size w w' := by
  have HI := Lib.hid (index_any p fid hrun hp w a n cap l hl hn hm)
  clear hl hn hp hrun
  go_enter Try.func37, Try.ntmps37
  go_wp2_with fail
  refine HI.out.mono ?_
  rintro e W1 ⟨⟨z, rfl, hz1, hz2, hz⟩, b1⟩
  have HB := Lib.hid b1
  have HZ := Lib.hid hz
  clear b1 hz
  go_wp2
  go_ret
  exact ⟨by rw [← HZ.out]; rfl, HB.out⟩
theorem big_run : ∀ args w, (callFunc 38 args).run Try.prog w = .ok (.enter 38 args) w := run_fn Try.func38 rfl rfl
theorem form_run : ∀ args w, (callFunc 39 args).run Try.prog w = .ok (.enter 39 args) w := run_fn Try.func39 rfl rfl
set_option maxRecDepth 100000 in
set_option maxHeartbeats 1000000 in
theorem check_any (seq : Int) (hs : -9223372036854775808 ≤ seq ∧ seq ≤ 9223372036854775807) (w : World) (a : Option Addr) (n cap : Nat) (l : List OpV) (hl : OpsAt w a l) (hn : l.length = n) (hm : n ≤ 9223372036854775807) :
    Calls Try.prog 15 #[.int .i64 seq, .slice a n cap] w fun e w' => e = .returned (.int .i64 (chkI seq l)) ∧ Below w.heap.size w w' := by
  have HV : Hid (chkI seq l = if 200 < n ∨ l.any bigB = true then 14 else if n = 0 ∨ l.any formB = true then 2 else if seq < 1 ∨ 72057594037927935 - ((n : Int) - 1) < seq then 1 else 0) := Lib.hid (by unfold chkI; rw [hn])
  have HB1 := Lib.hid (contains_any bigB 38 big_run isBig_any w a n cap l hl hn hm)
  have HF1 : Hid (∀ wx, Below w.heap.size w wx → Calls Try.prog 37 #[.slice a n cap, .func (.func 39) #[] #[]] wx fun e w' => e = .returned (.bool (l.any formB)) ∧ Below wx.heap.size wx w') := Lib.hid (fun wx h => contains_any formB 39 form_run isFormless_any wx a n cap l (hl.keep h) hn hm)
  clear hl hn
  generalize l.any bigB = bb at *
  generalize l.any formB = fb at *
  by_cases h200 : 200 < n
  · have HV2 : Hid (chkI seq l = 14) := Lib.hid (by rw [HV.out, if_pos (.inl h200)])
    go_enter Try.func15, Try.ntmps15
    go_wp2
    go_ret
    exact ⟨by rw [HV2.out]; rfl, Below.refl _ _⟩
  · cases bb with
    | true =>
      have HV2 : Hid (chkI seq l = 14) := Lib.hid (by rw [HV.out, if_pos (.inr rfl)])
      go_enter Try.func15, Try.ntmps15
      go_wp2_with fail
      refine HB1.out.mono ?_
      rintro e W1 ⟨rfl, b1⟩
      have HX := Lib.hid b1
      clear b1
      go_wp2
      go_ret
      exact ⟨by rw [HV2.out]; rfl, HX.out⟩
    | false =>
      by_cases h0 : n = 0
      · have HV2 : Hid (chkI seq l = 2) := Lib.hid (by rw [HV.out, if_neg (by simp; omega), if_pos (.inl h0)])
        have q0 : ((n : Int) == 0) = true := by simp [h0]
        clear h0
        go_enter Try.func15, Try.ntmps15
        go_wp2_with fail
        refine HB1.out.mono ?_
        rintro e W1 ⟨rfl, b1⟩
        have HX := Lib.hid b1
        clear b1
        go_wp2
        go_ret
        exact ⟨by rw [HV2.out]; rfl, HX.out⟩
      · have q0 : ((n : Int) == 0) = false := by simp [h0]
        cases fb with
        | true =>
          have HV2 : Hid (chkI seq l = 2) := Lib.hid (by rw [HV.out, if_neg (by simp; omega), if_pos (.inr rfl)])
          go_enter Try.func15, Try.ntmps15
          go_wp2_with fail
          refine HB1.out.mono ?_
          rintro e W1 ⟨rfl, b1⟩
          have HX := Lib.hid b1
          have s1 := b1.size
          clear b1
          go_wp2_with fail
          refine (HF1.out _ HX.out).mono ?_
          rintro e W2 ⟨rfl, b2⟩
          have HY := Lib.hid (HX.out.trans (b2.mono s1))
          clear b2
          go_wp2
          go_ret
          exact ⟨by rw [HV2.out]; rfl, HY.out⟩
        | false =>
          have HV3 : Hid (chkI seq l = if seq < 1 ∨ 72057594037927935 - ((n : Int) - 1) < seq then 1 else 0) := Lib.hid (by rw [HV.out, if_neg (by simp; omega), if_neg (by simp; omega)])
          by_cases h1 : seq < 1
          · have HV2 : Hid (chkI seq l = 1) := Lib.hid (by rw [HV3.out, if_pos (.inl h1)])
            go_enter Try.func15, Try.ntmps15
            go_wp2_with fail
            refine HB1.out.mono ?_
            rintro e W1 ⟨rfl, b1⟩
            have HX := Lib.hid b1
            have s1 := b1.size
            clear b1
            go_wp2_with fail
            refine (HF1.out _ HX.out).mono ?_
            rintro e W2 ⟨rfl, b2⟩
            have HY := Lib.hid (HX.out.trans (b2.mono s1))
            clear b2
            go_wp2
            go_ret
            exact ⟨by rw [HV2.out]; rfl, HY.out⟩
          · by_cases h2 : 72057594037927935 - ((n : Int) - 1) < seq
            · have HV2 : Hid (chkI seq l = 1) := Lib.hid (by rw [HV3.out, if_pos (.inr h2)])
              go_enter Try.func15, Try.ntmps15
              go_wp2_with fail
              refine HB1.out.mono ?_
              rintro e W1 ⟨rfl, b1⟩
              have HX := Lib.hid b1
              have s1 := b1.size
              clear b1
              go_wp2_with fail
              refine (HF1.out _ HX.out).mono ?_
              rintro e W2 ⟨rfl, b2⟩
              have HY := Lib.hid (HX.out.trans (b2.mono s1))
              clear b2
              go_wp2
              go_ret
              exact ⟨by rw [HV2.out]; rfl, HY.out⟩
            · have HV2 : Hid (chkI seq l = 0) := Lib.hid (by rw [HV3.out, if_neg (fun h => h.elim h1 h2)])
              go_enter Try.func15, Try.ntmps15
              go_wp2_with fail
              refine HB1.out.mono ?_
              rintro e W1 ⟨rfl, b1⟩
              have HX := Lib.hid b1
              have s1 := b1.size
              clear b1
              go_wp2_with fail
              refine (HF1.out _ HX.out).mono ?_
              rintro e W2 ⟨rfl, b2⟩
              have HY := Lib.hid (HX.out.trans (b2.mono s1))
              clear b2
              go_wp2
              go_ret
              exact ⟨by rw [HV2.out]; rfl, HY.out⟩
end Go.Proofs.Ythpcgdgahlcblaa
