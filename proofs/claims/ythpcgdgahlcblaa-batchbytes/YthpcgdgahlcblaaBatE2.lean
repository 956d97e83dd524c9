/-
  What cutOps answers, for any bytes.
-/
import Derived.Test.YthpcgdgahlcblaaBatE1
namespace Go.Proofs.Ythpcgdgahlcblaa
open Go.RowKit

/-- Changes in a row's cells. -/
def CurOps (cur : Array Value) (l : List OpV) : Prop := ∀ j (_ : j < l.length), cur[j * 3]? = some (.int .i64 l[j].kind) ∧ cur[j * 3 + 1]? = some (.string l[j].key) ∧ cur[j * 3 + 2]? = some (.string l[j].val)
theorem CurOps.step {cur : Array Value} {l : List OpV} {o : OpV} (h : CurOps cur l) {j : Nat} (hj : j = l.length * 3) (hs : j + 2 < cur.size) :
    CurOps (((cur.setIfInBounds j (.int .i64 o.kind)).setIfInBounds (j + 1) (.string o.key)).setIfInBounds (j + 2) (.string o.val)) (l ++ [o]) := by
  subst hj
  intro i hi
  have hi' : i < l.length ∨ i = l.length := by simp at hi; omega
  rcases hi' with h1 | rfl
  · obtain ⟨c0, c1, c2⟩ := h i h1
    simp only [List.getElem_append_left h1]
    simp only [Array.getElem?_setIfInBounds]
    rw [if_neg (by omega), if_neg (by omega), if_neg (by omega), if_neg (by omega), if_neg (by omega), if_neg (by omega), if_neg (by omega), if_neg (by omega), if_neg (by omega)]
    exact ⟨c0, c1, c2⟩
  · simp only [List.getElem_concat_length]
    refine ⟨?_, ?_, ?_⟩
    · rw [Array.getElem?_setIfInBounds, if_neg (by omega), Array.getElem?_setIfInBounds, if_neg (by omega), Array.getElem?_setIfInBounds, if_pos rfl, if_pos (by omega)]
    · rw [Array.getElem?_setIfInBounds, if_neg (by omega), Array.getElem?_setIfInBounds, if_pos rfl, if_pos (by simp; omega)]
    · rw [Array.getElem?_setIfInBounds, if_pos rfl, if_pos (by simp; omega)]
theorem CurOps.ops {w : World} {z : Nat} {cur : Array Value} {l : List OpV} (h : CurOps cur l) (hz : w.heap[z]? = some (.cells cur 48 (0, 0))) : OpsAt w (some ⟨z, 0, none⟩) l := by
  refine .inr ⟨z, 0, rfl, (Array.getElem?_eq_some_iff.1 hz).1, fun i hi => ?_⟩
  obtain ⟨c0, c1, c2⟩ := h i hi
  rw [Nat.zero_add]
  exact ⟨by rw [cell_of_row _ _ _ _ _ _ hz]; exact c0, by rw [cell_of_row _ _ _ _ _ _ hz]; exact c1, by rw [cell_of_row _ _ _ _ _ _ hz]; exact c2⟩
/-- What cutOps answers: new changes, or none. -/
def CutV (z : Nat) (w : World) (c : Nat) (l : List Nat) (e : Ending) (w' : World) : Prop :=
  Below z w w' ∧ ((∃ L a, cutAll c l = some L ∧ e = .returned (.tuple #[.slice a L.length L.length, .bool true]) ∧ OpsAt w' a L ∧ (∀ x, a = some x → z ≤ x.block)) ∨
    (∃ a n k, cutAll c l = none ∧ e = .returned (.tuple #[.slice a n k, .bool false])))
/-- A round's state. -/
structure CutI (B z c : Nat) (w : World) (l : List Nat) (i : Nat) (u : Value) (wr : World) (l' : List Nat) (done : List OpV) : Prop where
  rw_ : Rw B wr u l'
  byte : ∀ x ∈ l', x < 256
  len : l'.length ≤ 9223372036854775807
  eq : cutOpsF c l = (cutOpsF (c - i) l').map fun p => (done ++ p.1, p.2)
  dl : done.length = i
  row : 0 < c → ∃ cur : Array Value, wr.heap[z]? = some (.cells cur 48 (0, 0)) ∧ cur.size = c * 3 ∧ CurOps cur done
  bel : Below z w wr
theorem cutOpsF_ok {c : Nat} {l : List Nat} (hc : 0 < c) (h : (cutOpS l).2.2 = true) : cutOpsF c l = (cutOpsF (c - 1) (l.drop (cutOpS l).2.1)).map fun p => ((cutOpS l).1 :: p.1, p.2) := by
  obtain ⟨k, rfl⟩ : ∃ k, c = k + 1 := ⟨c - 1, by omega⟩
  conv => lhs; unfold cutOpsF
  rw [if_pos h]; rfl
theorem cutOpsF_no {c : Nat} {l : List Nat} (hc : 0 < c) (h : (cutOpS l).2.2 = false) : cutOpsF c l = none := by
  obtain ⟨k, rfl⟩ : ∃ k, c = k + 1 := ⟨c - 1, by omega⟩
  unfold cutOpsF
  rw [if_neg (by rw [h]; simp)]
theorem map_two {α β : Type} (o : Option (List α × β)) (d : List α) (x : α) : (o.map fun p => (x :: p.1, p.2)).map (fun p => (d ++ p.1, p.2)) = o.map fun p => ((d ++ [x]) ++ p.1, p.2) := by
  cases o with
  | none => rfl
  | some p => simp
set_option maxRecDepth 100000 in
set_option maxHeartbeats 1000000 in
theorem cutOps_any (B z : Nat) (w : World) (v : Value) (l : List Nat) (c : Nat) (hz : w.heap.size = z) (hBz : B ≤ z) (hr : Rw B w v l) (hb : ∀ x ∈ l, x < 256) (hm : l.length ≤ 9223372036854775807) (_hc : c < 18446744073709551616) :
    Calls Try.prog 36 #[v, .int .u64 (c : Int)] w (CutV z w c l) := by
  by_cases h200 : 200 < c
  · have hn : Hid (cutAll c l = none) := Lib.hid (by unfold cutAll; rw [if_pos h200])
    obtain ⟨a, cap, rfl, h1, h2, h3⟩ := hr
    clear hb hm h1 h2 h3
    go_enter Try.func36, Try.ntmps36
    go_wp2
    go_ret2
    exact ⟨Below.refl _ _, .inr ⟨none, 0, 0, hn.out, rfl⟩⟩
  · obtain ⟨W1, hmk, hrow1, hbel1⟩ := mk_ops w z c hz (by omega)
    have hI0 : CutI B z c w l 0 v W1 l [] := ⟨hr.keep (hbel1.mono hBz), hb, hm, by rw [Nat.sub_zero]; cases cutOpsF c l <;> simp, rfl, fun h0 => by
      obtain ⟨cur, k1, k2⟩ := hrow1 h0
      exact ⟨cur, k1, k2, fun j hj => by simp at hj⟩, hbel1⟩
    have HI0 := Lib.hid hI0
    have hzz := hz
    have HZ := Lib.hid hz
    clear hr hb hm hrow1 hbel1 hI0 hz hzz
    go_enter Try.func36, Try.ntmps36
    go_wp2_with fail
    go_loopw [0, 15] (fun u0 u15 wr => ∃ i : Nat, u15 = .int .i64 (i : Int) ∧ i ≤ c ∧ ∃ l' done, CutI B z c w l i u0 wr l' done) (fun _ u15 _ => c - (intOf u15).toNat)
    case atStart => exact ⟨0, rfl, Nat.zero_le _, l, [], HI0.out⟩
    case round =>
      obtain ⟨i, rfl, hic, l', done, hI⟩ := hrel
      have HI := Lib.hid hI
      clear hI HI0 hmk
      by_cases hin : i < c
      · obtain ⟨cur, hcur, hsz, hops⟩ := HI.out.row (by omega)
        have HC := Lib.hid (cutOp_any B wr.heap.size wr _ l' rfl (by have := HI.out.bel.size; have := HZ.out; omega) HI.out.rw_ HI.out.byte HI.out.len)
        have HCUR := Lib.hid hcur
        have HOPS := Lib.hid hops
        have HSZ := Lib.hid hsz
        have HF1 := Lib.hid (cutOpsF_ok (c := c - i) (l := l') (by omega))
        have HF0 := Lib.hid (cutOpsF_no (c := c - i) (l := l') (by omega))
        have hlt := (Array.getElem?_eq_some_iff.1 hcur).1
        clear hcur hops hsz
        generalize cutOpS l' = co at *
        obtain ⟨⟨kd, ky, vl⟩, m, ok⟩ := co
        unfold OpV.v at HC
        dsimp only at HC HF1 HF0
        go_wp2_with fail
        refine HC.out.mono ?_
        rintro e W2 ⟨v2, rfl, hr2, hb2⟩
        obtain ⟨A1, A2, W3, x0, x1, x2, ha1, ha2, ha3, c0, f0, c1, f1, c2, f2, hrow3, hb3⟩ := set3at (j := i * 3) ((hb2.block z hlt).trans HCUR.out) (by rw [HSZ.out]; omega) (.int .i64 kd) (.string ky) (.string vl)
        have hbz : Below z w W3 := (HI.out.bel.trans (hb2.mono (Nat.le_of_lt hlt))).trans hb3
        have HBZ := Lib.hid hbz
        have HR3 := Lib.hid (hr2.keep (hb3.mono hBz))
        have HROW := Lib.hid hrow3
        clear hr2 hb2 hrow3 hb3 hbz HC
        cases ok with
        | false =>
          have hn : Hid (cutAll c l = none) := Lib.hid (by
            unfold cutAll
            rw [if_neg h200, HI.out.eq, HF0.out rfl]
            rfl)
          clear HF1 HF0
          go_wp2_with fail
          go_ret2
          exact ⟨HBZ.out, .inr ⟨none, 0, 0, hn.out, rfl⟩⟩
        | true =>
          have hN : CutI B z c w l (i + 1) v2 W3 (l'.drop m) (done ++ [⟨kd, ky, vl⟩]) := ⟨HR3.out, fun x hx => HI.out.byte x (List.mem_of_mem_drop hx), by rw [List.length_drop]; have := HI.out.len; omega,
            by rw [HI.out.eq, HF1.out rfl, map_two, show c - i - 1 = c - (i + 1) by omega], by simp [HI.out.dl], fun _ => ⟨_, HROW.out, by simp [HSZ.out], HOPS.out.step (o := ⟨kd, ky, vl⟩) (by rw [HI.out.dl]) (by rw [HSZ.out]; omega)⟩, HBZ.out⟩
          have HN := Lib.hid hN
          clear hN HF1 HF0
          go_wp2_with fail
          go_roundw
          case rel => exact ⟨i + 1, by go_num, by omega, _, _, HN.out⟩
          case measure => simp [intOf]; omega
      · obtain rfl : i = c := by omega
        obtain ⟨a, cap, rfl, -, -, -⟩ := HI.out.rw_
        have hE : cutOpsF i l = some (done, l') := by rw [HI.out.eq, Nat.sub_self]; unfold cutOpsF; simp
        cases l' with
        | nil =>
          have hn : Hid (cutAll i l = some done) := Lib.hid (by unfold cutAll; rw [if_neg h200, hE])
          have hO : OpsAt wr (some ⟨z, 0, none⟩) done := by
            by_cases h0 : 0 < i
            · obtain ⟨cur, k1, k2, k3⟩ := HI.out.row h0
              exact k3.ops k1
            · left
              have := HI.out.dl
              exact List.length_eq_zero_iff.1 (by omega)
          have HO := Lib.hid hO
          have HD := Lib.hid HI.out.dl
          clear hE hO
          go_wp2_with fail
          go_ret2
          exact ⟨HI.out.bel, .inl ⟨done, some ⟨z, 0, none⟩, hn.out, by rw [HD.out]; rfl, HO.out, fun x hx => by cases hx; exact Nat.le_refl _⟩⟩
        | cons x r =>
          have hn : Hid (cutAll i l = none) := Lib.hid (by unfold cutAll; rw [if_neg h200, hE])
          have q0 : (((x :: r).length : Int) == 0) = false := by simp; omega
          generalize (x :: r).length = n at *
          clear hE
          go_wp2_with fail
          go_ret2
          exact ⟨HI.out.bel, .inr ⟨_, _, _, hn.out, rfl⟩⟩
end Go.Proofs.Ythpcgdgahlcblaa
