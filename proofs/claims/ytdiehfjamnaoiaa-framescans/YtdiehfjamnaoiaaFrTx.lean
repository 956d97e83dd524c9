/-
  Texts of the document (are two lists the same?); the laws' own lay.
-/
import Derived.Test.YtdiehfjamnaoiaaFrFr
namespace Go.Proofs.Ytdiehfjamnaoiaa
open Go.RowKit

theorem run_min2 {P : Program} {w : World} (ts : Array TypeId) (t : TypeId) (x y r : Int) (hr : r = min x y) :
    (Builtin.min_ ts t #[.int .i64 x, .int .i64 y]).run P w = .ok (.int .i64 r) w := by
  subst hr
  simp only [Builtin.min_, List.foldlM_cons, List.foldlM_nil, Sem.run_bind, Sem.run_pure, Builtin.min2, Result.andThen]
  repeat' split
  all_goals simp_all
  all_goals omega
/-- Texts that lie in memory. -/
def Strs (w : World) (a : Option Addr) (ss : List ByteArray) : Prop :=
  ss = [] ∨ ∃ b off, a = some ⟨b, off, none⟩ ∧ b < w.heap.size ∧ ∀ i (_ : i < ss.length), w.cell? ⟨b, off + i, none⟩ = some (.string ss[i])
theorem Strs.keep {w w' : World} {a : Option Addr} {ss : List ByteArray} (h : Strs w a ss) (hb : Below w.heap.size w w') : Strs w' a ss := by
  rcases h with h | ⟨b, off, rfl, hlt, hc⟩
  · exact .inl h
  · exact .inr ⟨b, off, rfl, Nat.lt_of_lt_of_le hlt hb.size, fun i hi => (hb.cell (p := ⟨b, off + i, none⟩) hlt).trans (hc i hi)⟩
theorem Strs.at {w : World} {a : Option Addr} {ss : List ByteArray} (h : Strs w a ss) {k : Nat} (hk : k < ss.length) : ∃ b off, a = some ⟨b, off, none⟩ ∧ b < w.heap.size ∧ w.cell? ⟨b, off + k, none⟩ = some (.string ss[k]) := by
  rcases h with h | ⟨b, off, rfl, hlt, hc⟩
  · subst h; simp at hk
  · exact ⟨b, off, rfl, hlt, hc k hk⟩
theorem strs_of_own {w : World} {B n : Nat} {v : Value} {l : List ByteArray} (h : w.ownsRow B 9 1 v n (strV l)) : ∃ a cap, v = .slice a n cap ∧ l.length = n ∧ Strs w a l ∧ n ≤ cap := by
  have hn : n = l.length := by have := h.1; simp [strV] at this; omega
  subst hn
  have hc := fun g hg => World.ownsRow.cells h (g := g) hg
  rcases h.2 with ⟨rfl, h0⟩ | ⟨g, cap, cur, rfl, hB, hg, h1, h2, h3, h4⟩
  · exact ⟨none, 0, by rw [h0], rfl, .inl (List.length_eq_zero_iff.1 h0), by omega⟩
  · refine ⟨some ⟨g, 0, none⟩, cap, rfl, rfl, .inr ⟨g, 0, rfl, ?_, fun i hi => ?_⟩, h1⟩
    · rcases Nat.lt_or_ge g w.heap.size with h | h
      · exact h
      · rw [Array.getElem?_eq_none h] at hg; cases hg
    · have := hc g rfl i (.string l[i]) (by simp [strV, hi])
      rw [addr_add] at this; exact this
theorem str_beq (x y : ByteArray) : (x.toList == y.toList) = decide (x = y) := by
  by_cases h : x = y
  · subst h; simp
  · rw [decide_eq_false h, beq_eq_false_iff_ne]
    intro e
    apply h
    rw [toList_eq, toList_eq] at e
    exact ByteArray.ext (Array.toList_inj.1 e)
set_option maxRecDepth 100000 in
set_option maxHeartbeats 400000 in
theorem Texts_any (w : World) (a b : Option Addr) (n m ca cb : Nat) (x y : List ByteArray) (hx : Strs w a x) (hy : Strs w b y) (hn : x.length = n) (hm : y.length = m) (hb : n ≤ 1000000000) (hb2 : m ≤ 1000000000) :
    Calls Try.prog 17 #[.slice a n ca, .slice b m cb] w fun e w' => e = .returned (.bool (decide (x = y))) ∧ Below w.heap.size w w' := by
  by_cases hl : n = m
  · subst hl
    have HX := Lib.hid hx
    have HY := Lib.hid hy
    have HN := Lib.hid hn
    have HM := Lib.hid hm
    clear hx hy hn hm
    go_enter Try.func17, Try.ntmps17
    go_wp2_with fail
    go_loopw [5] (fun u wr => ∃ i : Nat, u = .int .i64 (i : Int) ∧ i ≤ n ∧ Below w.heap.size w wr ∧ x.take i = y.take i) (fun u _ => n - (intOf u).toNat)
    case atStart => exact ⟨0, rfl, Nat.zero_le _, Below.refl _ _, rfl⟩
    case round =>
      obtain ⟨i, rfl, hi, hbel, he⟩ := hrel
      have HB := Lib.hid hbel
      have HE := Lib.hid he
      clear hbel he
      by_cases hin : i < n
      · have hix : i < x.length := by rw [HN.out]; exact hin
        have hiy : i < y.length := by rw [HM.out]; exact hin
        obtain ⟨b1, o1, rfl, l1, c1⟩ := (HX.out.keep HB.out).at hix
        obtain ⟨b2, o2, rfl, l2, c2⟩ := (HY.out.keep HB.out).at hiy
        have hq := str_beq x[i] y[i]
        have HT : Hid (x.take (i + 1) = x.take i ++ [x[i]] ∧ y.take (i + 1) = y.take i ++ [y[i]]) := Lib.hid ⟨List.take_succ_eq_append_getElem hix, List.take_succ_eq_append_getElem hiy⟩
        have HG : Hid (x = y → x[i] = y[i]) := Lib.hid (fun h => by subst h; rfl)
        generalize x[i] = s at *
        generalize y[i] = t at *
        by_cases hst : s = t
        · rw [decide_eq_true hst] at hq
          have hq2 : (s.toList != t.toList) = false := by rw [bne, hq]; rfl
          have HS := Lib.hid hst
          clear hst
          go_wp2_with fail
          go_quiet (fail)
          go_wp2
          go_roundw
          case rel => exact ⟨i + 1, by go_num, by omega, HB.out.trans (below_drewN _ _ _), by rw [HT.out.1, HT.out.2, HE.out, HS.out]⟩
          case measure => simp [intOf]; omega
        · rw [decide_eq_false hst] at hq
          have hq2 : (s.toList != t.toList) = true := by rw [bne, hq]; rfl
          have HS : Hid (decide (x = y) = false) := Lib.hid (decide_eq_false (fun h => hst (HG.out h)))
          clear hst
          go_wp2_with fail
          go_quiet (fail)
          go_wp2
          go_ret
          exact ⟨by rw [HS.out]; rfl, HB.out.trans (below_drewN _ _ _)⟩
      · obtain rfl : i = n := by omega
        have HS : Hid (decide (x = y) = true) := Lib.hid (decide_eq_true (by
          have := HE.out
          rwa [List.take_of_length_le (by rw [HN.out]; exact Nat.le_refl _), List.take_of_length_le (by rw [HM.out]; exact Nat.le_refl _)] at this))
        go_wp2
        go_ret
        exact ⟨by rw [HS.out]; rfl, HB.out⟩
  · have hne : ((n : Int) != (m : Int)) = true := by simp; omega
    have HS : Hid (decide (x = y) = false) := Lib.hid (decide_eq_false (fun h => hl (by rw [← hn, ← hm, h])))
    clear hl hx hy hn hm
    go_enter Try.func17, Try.ntmps17
    go_wp2
    go_ret
    exact ⟨by rw [HS.out]; rfl, Below.refl _ _⟩
theorem Try.info3 : (Try.prog.info? 3).map (fun i => (i.zero, i.size, i.bytes)) = some (some (.int .i64 0), 1, 8) := by kernel_rfl
def intV (l : List Nat) : List Value := l.map fun n : Nat => Value.int .i64 (n : Int)
/-- A number appended to a row of numbers of one's own. -/
theorem appI (B : Nat) (w : World) (v : Value) (ys : List Nat) (s : Nat) (n : Nat) (hown : w.ownsRow B 3 1 v n (intV ys)) (hB : B ≤ w.heap.size) (hl : n ≤ 1000000000) :
    ∃ v' w2, (Builtin.append_ #[37, 37] 37 #[v, .slice (some ⟨w.heap.size, 0, none⟩) 1 1]).run Try.prog (w.alloc (.cells #[.int .i64 (s : Int)] 3)) = .ok v' w2 ∧ w2.ownsRow B 3 1 v' (n + 1) (intV (ys ++ [s])) ∧ Below B w w2 ∧ ∀ q, q < w.heap.size → v.ownBlock ≠ some q → v'.ownBlock ≠ some q ∧ w2.heap[q]? = w.heap[q]? := by
  obtain ⟨i0, hi0, hz0, hz1, hz2⟩ := info_parts Try.info3
  obtain ⟨v', w2, h1, h2, h3, _, h5⟩ := run_append_own_at (P := Try.prog) (w.alloc (.cells #[.int .i64 (s : Int)] 3)) B 37 37 3 i0 (.int .i64 0) 1 8 Try.underlying37 hi0 hz0 hz1 hz2 rfl (by decide) v n (intV ys) (hown.alloc _) ⟨w.heap.size, 0, none⟩ 1 1 [.int .i64 (s : Int)] rfl (cell_one_new _ _ _) (by intro u hu; simp at hu; subst hu; rfl) (by unfold maxLen; omega) (by omega) (by simp; omega)
  refine ⟨v', w2, h1, by unfold intV; rw [List.map_append]; exact h2, (below_alloc hB _).grown h3 (by simp; omega) (fun g hg => (hown.lt g hg).1), fun q hq hv => ⟨fun e => ?_, ?_⟩⟩
  · rcases h5 with h5 | h5
    · exact hv (by rw [← h5]; exact e)
    · rw [h5] at e; have := Option.some.inj e; simp at this; omega
  · rw [h3.block q (by simp; omega) (fun e => hv e.symm)]
    exact Below.heap_alloc _ _ _ hq
/-- Where each record ends. -/
def endsL (hs : List (List Nat)) : List Nat := (List.range hs.length).map fun k => (Frm.layL 0 (hs.take (k + 1))).length
theorem endsL_length (hs : List (List Nat)) : (endsL hs).length = hs.length := by simp [endsL]
theorem endsL_snoc (hs : List (List Nat)) (h : List Nat) : endsL (hs ++ [h]) = endsL hs ++ [(Frm.layL 0 (hs ++ [h])).length] := by
  unfold endsL
  rw [List.length_append, List.length_singleton, List.range_succ, List.map_append, List.map_singleton]
  congr 1
  · apply List.map_congr_left
    intro k hk
    rw [List.take_append_of_le_length (by have := List.mem_range.1 hk; omega)]
  · rw [List.take_of_length_le (by simp)]
/-- What lay tells: the bytes, where each record ends, the records. -/
structure Laid (B : Nat) (w : World) (hs : List (List Nat)) (va ve vh : Value) : Prop where
  all : w.ownsRow B 5 1 va (Frm.layL 0 hs).length (u8s (Frm.layL 0 hs))
  ends : w.ownsRow B 3 1 ve hs.length (intV (endsL hs))
  had : w.ownsRow B 9 1 vh hs.length (strV (hs.map strOf))
  ae : Apart va ve
  ah : Apart va vh
  eh : Apart ve vh
  byte : ∀ h ∈ hs, ∀ x ∈ h, x < 256
  small : (Frm.layL 0 hs).length ≤ 10000
theorem layL_len : ∀ (n : Nat) (hs : List (List Nat)), 7 * hs.length ≤ (Frm.layL n hs).length
  | _, [] => Nat.le_refl _
  | n, r :: hs => by
    have h1 := Frm.frameL_pos n r
    have h2 := layL_len (n + (Frm.frameL n r).length) hs
    show 7 * (hs.length + 1) ≤ (Frm.frameL n r ++ Frm.layL (n + (Frm.frameL n r).length) hs).length
    rw [List.length_append]; omega
theorem Laid.count {B : Nat} {w : World} {hs : List (List Nat)} {va ve vh : Value} (h : Laid B w hs va ve vh) : hs.length ≤ 2000 := by
  have h1 := layL_len 0 hs
  have h2 := h.small
  omega
theorem Apart.symm {v u : Value} (h : Apart v u) : Apart u v := fun q hq hv => h q hv hq
theorem Laid.keep {B : Nat} {w w' : World} {hs : List (List Nat)} {va ve vh : Value} (h : Laid B w hs va ve vh) (hb : Below w.heap.size w w') : Laid B w' hs va ve vh :=
  ⟨own_keep h.all hb, own_keep h.ends hb, own_keep h.had hb, h.ae, h.ah, h.eh, h.byte, h.small⟩
/-- A record more: three appends. -/
theorem Laid.more {B : Nat} {w : World} {hs : List (List Nat)} {va ve vh : Value} (h : Laid B w hs va ve vh) (hB : B ≤ w.heap.size) (hl : hs.length ≤ 1000) (r : List Nat) (hr : ∀ x ∈ r, x < 256) (hrl : r.length ≤ 800) (h5 : (Frm.layL 0 hs).length < 5000)
    (ab : Option Addr) (cb L : Nat) (hL : (Frm.frameL (Frm.layL 0 hs).length r).length = L) (hy : Byt w ab (Frm.frameL (Frm.layL 0 hs).length r)) (hno : ab = none → Frm.frameL (Frm.layL 0 hs).length r = []) :
    ∃ va' ve' vh' w1 w2 w3, (Builtin.append_ #[22, 22] 22 #[va, .slice ab L cb]).run Try.prog w = .ok va' w1 ∧
      (∃ a' c', va' = .slice a' ((Frm.layL 0 hs).length + L) c') ∧
      (Builtin.append_ #[37, 37] 37 #[ve, .slice (some ⟨w1.heap.size, 0, none⟩) 1 1]).run Try.prog (w1.alloc (.cells #[.int .i64 (((Frm.layL 0 hs).length + L : Nat) : Int)] 3)) = .ok ve' w2 ∧
      (Builtin.append_ #[31, 31] 31 #[vh, .slice (some ⟨w2.heap.size, 0, none⟩) 1 1]).run Try.prog (w2.alloc (.cells #[.string (strOf r)] 9)) = .ok vh' w3 ∧
      Laid B w3 (hs ++ [r]) va' ve' vh' ∧ Below B w w3 := by
  have hno' : ab ≠ none := fun e => by
    have h1 := hno e
    have h2 := Frm.frameL_pos (Frm.layL 0 hs).length r
    rw [h1] at h2; simp at h2
  have hfl := Frm.frameL_len (Frm.layL 0 hs).length r
  have eL : Frm.layL 0 (hs ++ [r]) = Frm.layL 0 hs ++ Frm.frameL (Frm.layL 0 hs).length r := by rw [Frm.layL_snoc, Nat.zero_add]
  have eLl : (Frm.layL 0 (hs ++ [r])).length = (Frm.layL 0 hs).length + L := by rw [eL, List.length_append, hL]
  obtain ⟨va', w1, r1, o1, b1, k1⟩ := appU B w va (Frm.layL 0 hs) (Frm.frameL (Frm.layL 0 hs).length r) (Frm.layL 0 hs).length ab cb h.all hy (fun e => absurd e hno') hB (by omega)
  rw [hL] at r1 o1
  have s1 := b1.size
  have E1 : w1.ownsRow B 3 1 ve hs.length (intV (endsL hs)) := own_stay h.ends (fun q hq => (k1 q (own_ltE h.ends hq) (h.ae.symm q hq)).2)
  have H1 : w1.ownsRow B 9 1 vh hs.length (strV (hs.map strOf)) := own_stay h.had (fun q hq => (k1 q (own_ltE h.had hq) (h.ah.symm q hq)).2)
  have AE1 : Apart va' ve := Apart.symm (fun q hq => (k1 q (own_ltE h.ends hq) (h.ae.symm q hq)).1)
  have AH1 : Apart va' vh := Apart.symm (fun q hq => (k1 q (own_ltE h.had hq) (h.ah.symm q hq)).1)
  obtain ⟨ve', w2, r2, o2, b2, k2⟩ := appI B w1 ve (endsL hs) ((Frm.layL 0 hs).length + L) hs.length E1 (by omega) (by omega)
  have s2 := b2.size
  have A2 := own_stay o1 (fun q hq => (k2 q (own_ltE o1 hq) (AE1 q hq)).2)
  have H2 := own_stay H1 (fun q hq => (k2 q (own_ltE H1 hq) (h.eh.symm q hq)).2)
  have AE2 : Apart va' ve' := fun q hq => (k2 q (own_ltE o1 hq) (AE1 q hq)).1
  have EH2 : Apart ve' vh := Apart.symm (fun q hq => (k2 q (own_ltE H1 hq) (h.eh.symm q hq)).1)
  obtain ⟨vh', w3, r3, o3, b3, k3⟩ := appT B w2 vh (hs.map strOf) (strOf r) hs.length H2 (by omega) (by omega)
  have A3 := own_stay A2 (fun q hq => (k3 q (own_ltE A2 hq) (AH1 q hq)).2)
  have E3 := own_stay o2 (fun q hq => (k3 q (own_ltE o2 hq) (EH2 q hq)).2)
  have AH3 : Apart va' vh' := fun q hq => (k3 q (own_ltE A2 hq) (AH1 q hq)).1
  have EH3 : Apart ve' vh' := fun q hq => (k3 q (own_ltE o2 hq) (EH2 q hq)).1
  obtain ⟨a', c', hv, _⟩ := byt_of_own o1
  refine ⟨va', ve', vh', w1, w2, w3, r1, ⟨a', c', ?_⟩, r2, r3, ⟨?_, ?_, ?_, AE2, AH3, EH3, ?_, by rw [eLl]; omega⟩, (b1.trans b2).trans b3⟩
  · rw [hv, List.length_append, hL]
  · rw [eLl, eL]; exact A3
  · rw [endsL_snoc, eLl, List.length_append]; exact E3
  · rw [List.map_append, List.length_append]; exact o3
  · intro x hx
    rcases List.mem_append.1 hx with h1 | h1
    · exact h.byte x h1
    · simp at h1; subst h1; exact hr
set_option maxRecDepth 100000 in
set_option maxHeartbeats 4000000 in
theorem lay_any (w : World) (a : Option Addr) (n cap : Nat) (z : List ByteArray) (hz : Strs w a z) (hn : z.length = n) (hzs : ∀ s ∈ z, s.size ≤ 9223372036854775807) :
    Calls Try.prog 18 #[.slice a n cap] w fun e w' => ∃ hs va ve vh, e = .returned (.tuple #[va, ve, vh]) ∧ hs.length ≤ n ∧ Laid w.heap.size w' hs va ve vh ∧ Below w.heap.size w w' := by
  have HZ := Lib.hid hz
  have HN := Lib.hid hn
  have HZS := Lib.hid hzs
  clear hz hn hzs
  go_enter Try.func18, Try.ntmps18
  go_wp2_with fail
  go_loopw [5, 6, 7, 8, 9, 10, 11] (fun u5 u6 u7 u8 _ _ _ wr => ∃ (i : Nat) (hs : List (List Nat)) (a5 : Option Addr) (c5 : Nat), u8 = .int .i64 (i : Int) ∧ i ≤ n ∧ i ≤ 30 ∧ hs.length = i ∧ u5 = .slice a5 (Frm.layL 0 hs).length c5 ∧ Laid w.heap.size wr hs u5 u6 u7 ∧ Below w.heap.size w wr) (fun _ _ _ u8 _ _ _ _ => 30 - (intOf u8).toNat)
  case atStart => exact ⟨0, [], none, 0, rfl, Nat.zero_le _, Nat.zero_le _, rfl, rfl, ⟨World.ownsRow_nil _ _ _ _, World.ownsRow_nil _ _ _ _, World.ownsRow_nil _ _ _ _, (fun q h => by cases h), (fun q h => by cases h), (fun q h => by cases h), (fun x h => by cases h), Nat.zero_le _⟩, Below.refl _ _⟩
  case round =>
    obtain ⟨i, hs, a5, c5, rfl, hin, hi30, hhs, rfl, hlaid, hbel⟩ := hrel
    have hws := hbel.size
    have HLD := Lib.hid hlaid
    have HBE := Lib.hid hbel
    have HHS := Lib.hid hhs
    have hsm := hlaid.small
    obtain ⟨LL, hLL⟩ : ∃ LL, (Frm.layL 0 hs).length = LL := ⟨_, rfl⟩
    rw [hLL] at hsm ⊢
    have HLL := Lib.hid hLL
    clear hlaid hbel hLL
    by_cases hgo : i < n ∧ i < 30 ∧ LL < 5000
    · obtain ⟨g1, g2, g3⟩ := hgo
      have hiz : i < z.length := by rw [HN.out]; exact g1
      obtain ⟨zb, zo, rfl, hzl, hzc⟩ := HZ.out.at hiz
      obtain ⟨S0, hS0⟩ : ∃ S0, z[i] = S0 := ⟨_, rfl⟩
      rw [hS0] at hzc
      have hs0 : S0.size ≤ 9223372036854775807 := by rw [← hS0]; exact HZS.out _ (List.getElem_mem hiz)
      obtain ⟨k, hk⟩ : ∃ k, min S0.size 800 = k := ⟨_, rfl⟩
      have hm1 := fun ts t wx => run_min2 (P := Try.prog) (w := wx) ts t (S0.size : Int) 800 (k : Int) (by omega)
      have l1 : k ≤ S0.size := by omega
      have l2 : k ≤ 800 := by omega
      have hSI : wr.drew.cell? ⟨zb, zo + i, none⟩ = some (.string S0) := ((HBE.out.trans (below_drewN _ _ 1)).cell (p := ⟨zb, zo + i, none⟩) hzl).trans hzc
      have HSI := Lib.hid hSI
      have hxs : (S0.extract 0 k).size = k := by rw [ByteArray.size_extract]; omega
      obtain ⟨cT, wT, rT, hcT, hbT, hBT⟩ := conv_new wr.drew (S0.extract 0 k) wr.heap.size rfl
      have hFr := Frame_any wT LL (by omega) (some ⟨wr.heap.size, 0, none⟩) cT (natsOf (S0.extract 0 k)) hbT (natsOf_byte _) (by rw [natsOf_length]; exact hcT) (fun h => by cases h) (by rw [natsOf_length]; omega)
      rw [natsOf_length] at hFr
      obtain ⟨X, hX⟩ : ∃ X, S0.extract 0 k = X := ⟨_, rfl⟩
      rw [hX] at hFr rT hbT hxs
      rw [hxs] at hFr rT
      have HFR := Lib.hid hFr
      have HBT : Hid (Below wr.heap.size wr wT) := Lib.hid ((below_drewN _ wr 1).trans hBT)
      have HX : Hid ((natsOf X).length = k ∧ strOf (natsOf X) = X) := Lib.hid ⟨by rw [natsOf_length]; exact hxs, strOf_natsOf X⟩
      clear hzc hFr hbT hBT hS0 hSI hk hcT
      go_wp2_with fail
      refine wp_region_held_drew (S := fun w' => w'.cell? ⟨zb, zo + i, none⟩ = some (.string S0)) (by kernel_rfl) HSI.out (fun hHeld => ?_)
      refine wpAnyH_take (i := 0) (v := ?_) rfl (by kernel_rfl) (by kernel_rfl) (by kernel_rfl) (fun _ _ _ h => h) (Or.inl ⟨by rfl, ?_⟩) hHeld ?_
      rotate_left
      · (intro wx hSw; (try dsimp only at hSw); first | (go_simp; done) | (go_simp; with_reducible rfl))
      simp only [Act.put, List.getElem_toArray, List.getElem_cons_zero, List.setIfInBounds_toArray, List.set_cons_zero, List.set_cons_succ]
      refine wpAnyH_take (i := 1) (v := ?_) rfl (by kernel_rfl) (by kernel_rfl) (by kernel_rfl) (fun _ _ _ h => h) (Or.inl ⟨by rfl, ?_⟩) hHeld ?_
      rotate_left
      · (intro wx hSw; (try dsimp only at hSw); first | (go_simp; done) | (go_simp; with_reducible rfl))
      simp only [Act.put, List.getElem_toArray, List.getElem_cons_zero, List.getElem_cons_succ, List.setIfInBounds_toArray, List.set_cons_zero, List.set_cons_succ]
      refine wpAnyH_take (i := 2) (v := ?_) rfl (by kernel_rfl) (by kernel_rfl) (by kernel_rfl) (fun _ _ _ h => h) (Or.inl ⟨by rfl, ?_⟩) hHeld ?_
      rotate_left
      · (intro wx hSw; (try dsimp only at hSw); first | (go_simp; done) | (go_simp; with_reducible rfl))
      simp only [Act.put, List.getElem_toArray, List.getElem_cons_zero, List.getElem_cons_succ, List.setIfInBounds_toArray, List.set_cons_zero, List.set_cons_succ]
      refine wpAnyH_take (i := 3) (v := ?_) rfl (by kernel_rfl) (by kernel_rfl) (by kernel_rfl) (fun _ _ _ h => h) (Or.inl ⟨by rfl, ?_⟩) hHeld ?_
      rotate_left
      · (intro wx hSw; (try dsimp only at hSw); first | (go_simp; done) | (go_simp; with_reducible rfl))
      simp only [Act.put, List.getElem_toArray, List.getElem_cons_zero, List.getElem_cons_succ, List.setIfInBounds_toArray, List.set_cons_zero, List.set_cons_succ]
      refine wpAnyH_take (i := 4) (v := ?_) rfl (by kernel_rfl) (by kernel_rfl) (by kernel_rfl) (fun _ _ _ h => h) (Or.inl ⟨by rfl, ?_⟩) hHeld ?_
      rotate_left
      · (intro wx hSw; (try dsimp only at hSw); first | (go_simp; done) | (go_simp; with_reducible rfl))
      simp only [Act.put, List.getElem_toArray, List.getElem_cons_zero, List.getElem_cons_succ, List.setIfInBounds_toArray, List.set_cons_zero, List.set_cons_succ]
      refine wpAnyH_take (i := 5) (v := ?_) rfl (by kernel_rfl) (by kernel_rfl) (by kernel_rfl) (fun _ _ _ h => h) (Or.inl ⟨by rfl, ?_⟩) hHeld ?_
      rotate_left
      · (intro wx hSw; (try dsimp only at hSw); first | (go_simp; done) | (go_simp; with_reducible rfl))
      simp only [Act.put, List.getElem_toArray, List.getElem_cons_zero, List.getElem_cons_succ, List.setIfInBounds_toArray, List.set_cons_zero, List.set_cons_succ]
      refine wpAnyH_take (i := 6) (v := ?_) rfl (by kernel_rfl) (by kernel_rfl) (by kernel_rfl) (fun _ _ _ h => h) (Or.inl ⟨by rfl, ?_⟩) hHeld ?_
      rotate_left
      · (intro wx hSw; (try dsimp only at hSw); first | (go_simp; done) | (go_simp; with_reducible rfl))
      simp only [Act.put, List.getElem_toArray, List.getElem_cons_zero, List.getElem_cons_succ, List.setIfInBounds_toArray, List.set_cons_zero, List.set_cons_succ]
      refine wpAnyH_take (i := 7) (v := ?_) rfl (by kernel_rfl) (by kernel_rfl) (by kernel_rfl) (fun _ _ _ h => h) (Or.inl ⟨by rfl, ?_⟩) hHeld ?_
      rotate_left
      · (intro wx hSw; (try dsimp only at hSw); first | (go_simp; done) | (go_simp; with_reducible rfl))
      simp only [Act.put, List.getElem_toArray, List.getElem_cons_zero, List.getElem_cons_succ, List.setIfInBounds_toArray, List.set_cons_zero, List.set_cons_succ]
      refine wpAnyH_take (i := 8) (v := ?_) rfl (by kernel_rfl) (by kernel_rfl) (by kernel_rfl) (fun _ _ _ h => h) (Or.inl ⟨by rfl, ?_⟩) hHeld ?_
      rotate_left
      · (intro wx hSw; (try dsimp only at hSw); first | (go_simp; done) | (go_simp; with_reducible rfl))
      simp only [Act.put, List.getElem_toArray, List.getElem_cons_zero, List.getElem_cons_succ, List.setIfInBounds_toArray, List.set_cons_zero, List.set_cons_succ]
      refine wpAnyH_take (i := 9) (v := ?_) rfl (by kernel_rfl) (by kernel_rfl) (by kernel_rfl) (fun _ _ _ h => h) (Or.inl ⟨by rfl, ?_⟩) hHeld ?_
      rotate_left
      · (intro wx hSw; (try dsimp only at hSw); first | (go_simp; done) | (go_simp; with_reducible rfl))
      simp only [Act.put, List.getElem_toArray, List.getElem_cons_zero, List.getElem_cons_succ, List.setIfInBounds_toArray, List.set_cons_zero, List.set_cons_succ]
      refine wpAnyH_take (i := 10) (v := ?_) rfl (by kernel_rfl) (by kernel_rfl) (by kernel_rfl) (fun _ _ _ h => h) (Or.inl ⟨by rfl, ?_⟩) hHeld ?_
      rotate_left
      · (intro wx hSw; (try dsimp only at hSw); first | (go_simp; done) | (go_simp; with_reducible rfl))
      simp only [Act.put, List.getElem_toArray, List.getElem_cons_zero, List.getElem_cons_succ, List.setIfInBounds_toArray, List.set_cons_zero, List.set_cons_succ]
      refine wpAnyH_take (i := 11) (v := ?_) rfl (by kernel_rfl) (by kernel_rfl) (by kernel_rfl) (fun _ _ _ h => h) (Or.inl ⟨by rfl, ?_⟩) hHeld ?_
      rotate_left
      · (intro wx hSw; (try dsimp only at hSw); first | (go_simp; done) | (go_simp; with_reducible rfl))
      simp only [Act.put, List.getElem_toArray, List.getElem_cons_zero, List.getElem_cons_succ, List.setIfInBounds_toArray, List.set_cons_zero, List.set_cons_succ]
      refine wpAnyH_done (by kernel_rfl) ?_ _
      go_wp2_with fail
      refine HFR.out.mono ?_
      rintro e W2 ⟨vb, rfl, hob, hb2⟩
      obtain ⟨ab, cb, rfl, hyb, hnob, hcb⟩ := byt_of_own hob
      have sT := HBT.out.size
      have hb2' : Below wr.heap.size wr W2 := HBT.out.trans (hb2.mono sT)
      obtain ⟨L, hL⟩ : ∃ L, (Frm.frameL LL (natsOf X)).length = L := ⟨_, rfl⟩
      have hmore := (HLD.out.keep hb2').more (by have := hb2'.size; omega) (by rw [HHS.out]; omega) (natsOf X) (natsOf_byte X) (by rw [HX.out.1]; exact l2) (by rw [HLL.out]; exact g3) ab cb L (by rw [HLL.out]; exact hL) (by rw [HLL.out]; exact hyb) (by rw [HLL.out]; exact hnob)
      rw [HLL.out, HX.out.2] at hmore
      obtain ⟨va', ve', vh', w1, w2, w3, r1, ⟨a', c', rfl⟩, r2, r3, hlaid', hb'⟩ := hmore
      have hl2 : (Frm.layL 0 (hs ++ [natsOf X])).length = LL + L := by rw [Frm.layL_snoc, Nat.zero_add, List.length_append, HLL.out, hL]
      have HL2 := Lib.hid hl2
      have HLN := Lib.hid hlaid'
      have HBN := Lib.hid ((HBE.out.trans (hb2'.mono hws)).trans hb')
      have hLs : LL + L ≤ 10000 := by rw [← hl2]; exact hlaid'.small
      have HH1 : Hid ((hs ++ [natsOf X]).length = i + 1) := Lib.hid (by rw [List.length_append, HHS.out]; rfl)
      rw [hL]
      clear hob hyb hnob hb2 hb2' hlaid' hb' hl2 hL HFR HX HLD HBT hcb
      go_wp2_with (at_builtin; first | refine wpList_app_run rfl rfl r1 rfl rfl ?_ | refine wpList_app_run rfl rfl r2 rfl rfl ?_ | refine wpList_app_run rfl rfl r3 rfl rfl ?_)
      go_roundw
      case rel => exact ⟨i + 1, hs ++ [natsOf X], a', c', by go_num, g1, g2, HH1.out, by rw [HL2.out], HLN.out, HBN.out⟩
      case measure => simp [intOf]; omega
    · have HLQ : Hid (Laid w.heap.size wr hs (.slice a5 LL c5) u6 u7) := Lib.hid (by have h := HLD.out; rw [HLL.out] at h; exact h)
      by_cases g1 : i < n
      · by_cases g2 : i < 30
        · have g3 : ¬ LL < 5000 := fun h => hgo ⟨g1, g2, h⟩
          clear hgo
          go_wp2
          go_ret3
          exact ⟨hs, _, _, _, rfl, by rw [HHS.out]; exact hin, HLQ.out, HBE.out⟩
        · clear hgo
          go_wp2
          go_ret3
          exact ⟨hs, _, _, _, rfl, by rw [HHS.out]; exact hin, HLQ.out, HBE.out⟩
      · clear hgo
        go_wp2
        go_ret3
        exact ⟨hs, _, _, _, rfl, by rw [HHS.out]; exact hin, HLQ.out, HBE.out⟩
end Go.Proofs.Ytdiehfjamnaoiaa
