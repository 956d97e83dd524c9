/-
  The law VarintBack, walked.
-/
import Derived.Test.YtngofiajcicmlaaVarBackB
import Derived.Deep.RegionHeld3
namespace Go.Proofs.Ytngofiajcicmlaa
open Go.RowKit

theorem Byt.take {w : World} {a : Option Addr} {l : List Nat} (h : Byt w a l) (k : Nat) : Byt w a (l.take k) := by
  rcases h with h | ⟨b, off, rfl, hlt, hc⟩
  · left; rw [h]; simp
  · refine .inr ⟨b, off, rfl, hlt, fun i hi => ?_⟩
    simp at hi
    rw [hc i (by omega), List.getElem_take]
theorem Byt.from {w : World} {a : Option Addr} {l : List Nat} (h : Byt w a l) (cap p : Nat) (hc : l.length ≤ cap) (hp : p ≤ l.length) : Byt w (Ytngofiajcicmlaa.part a cap p) (l.drop p) := by
  by_cases h0 : p = l.length
  · left; subst h0; simp
  · right
    rcases h with h | ⟨b, off, rfl, hlt, hcl⟩
    · subst h; simp at hp h0; omega
    · refine ⟨b, off + p, ?_, hlt, fun i hi => ?_⟩
      · unfold Ytngofiajcicmlaa.part; rw [if_neg (by omega)]; simp [addr_add]
      · simp at hi
        have := hcl (p + i) (by omega)
        rw [Nat.add_assoc, this]; simp
theorem run_part_from {w : World} {a : Option Addr} (len cap p : Nat) (z : Int) (hz : z = p) (hp : p ≤ len) (_hl : len ≤ cap) :
    (Instr.slice 23 (.slice a len cap) (some (.int .i64 z)) none none).run Try.prog w = .ok (.slice (part a cap p) (len - p) (cap - p)) w := by
  subst hz
  have hel : Try.prog.elem 23 = 5 := by kernel_rfl
  rw [run_slice_l (P := Try.prog) w 23 a len cap (by rw [hel]; exact Try.underlying23) .i64 p (by omega) (by omega), hel]
  simp [go_sem, sliced, part]
theorem run_part_to' {w : World} {a : Option Addr} (len cap q : Nat) (z : Int) (hz : z = q) (hq : q ≤ cap) :
    (Instr.slice 23 (.slice a len cap) none (some (.int .i64 z)) none).run Try.prog w = .ok (.slice (part a cap 0) q cap) w := by
  subst hz; exact run_part_to len cap q hq
theorem part_nil {a : Option Addr} {cap p : Nat} (h : part a cap p = none) : a = none := by
  unfold part at h; split at h
  · exact h
  · simpa using h
theorem sg_wrap (n : Nat) (h : n < 18446744073709551616) : wrap64 (n : Int) = sg n := by unfold wrap64 sg; split <;> omega
theorem sg_wrapI (n : Nat) (h : n < 18446744073709551616) : IntKind.i64.wrap (n : Int) = sg n := by
  have : IntKind.i64.wrap (n : Int) = wrap64 (n : Int) := by
    simp [IntKind.wrap, wrap64, IntKind.bits, IntKind.signed]; split <;> omega
  rw [this, sg_wrap n h]
def Gives (w : World) (S : ByteArray) (n : Nat) (e : Ending) (w' : World) : Prop := ∃ a cap, e = .returned (.slice a n cap) ∧ Below w.heap.size w w' ∧ ∀ wx, Below w'.heap.size w' wx → (convert 23 9 (.slice a n cap)).run Try.prog wx = .ok (.string S) wx
namespace varintBack
set_option maxRecDepth 100000 in
set_option maxHeartbeats 40000000 in
theorem walk (a0 : Option Addr) (len0 cap0 : Nat) (z0 : List Int) (a1 : Option Addr) (len1 cap1 : Nat) (z1 : List Int) (w : World) (w0 : IsRow .u64 w a0 len0 cap0 z0) (w1 : IsRow .u8 w a1 len1 cap1 z1) :
    Calls Try.prog 3 #[.slice a0 len0 cap0, .slice a1 len1 cap1] w fun e w' => e = .returned (.bool true) ∧ Below w.heap.size w w' := by
  obtain ⟨l, hln, hl, hlb, hc0, hcm0⟩ := w0.n64
  obtain ⟨bs, hbn, hbs, hbb, hc1, hcm1, hbnil⟩ := w1.byt
  have hlen : len0 ≤ 9223372036854775807 := by unfold maxLen at hcm0; omega
  obtain ⟨M, hM⟩ : ∃ M, M = min len0 50 := ⟨_, rfl⟩
  have hM50 : M ≤ 50 := by omega
  have hML : M ≤ len0 := by omega
  have hMe : M = len0 ∨ (M = 50 ∧ 50 < len0) := by omega
  have HNS : Hid ((l.take M).length = M) := Lib.hid (by simp; omega)
  have HN64 : Hid (N64 w a0 (l.take M)) := Lib.hid (by
    rcases hl with h | ⟨b, off, rfl, hlt, hc⟩
    · left; rw [h]; simp
    · refine .inr ⟨b, off, rfl, hlt, fun i hi => ?_⟩
      simp at hi
      rw [hc i (by omega), List.getElem_take])
  have HNB : Hid (∀ x ∈ l.take M, x < 18446744073709551616) := Lib.hid (fun x hx => hlb x (List.mem_of_mem_take hx))
  generalize l.take M = ns at *
  have HBS := Lib.hid hbs
  have HBB := Lib.hid hbb
  have HBN := Lib.hid hbn
  have HBL := Lib.hid hbnil
  clear hM hl hlb hln hbs hbb hbn hbnil w0 w1
  go_enter Try.func3, Try.ntmps3
  go_wp2_with fail
  refine (counts_any _).mono ?_
  rintro e w1 ⟨rfl, hb1⟩
  have B1 := Lib.hid hb1
  have HN1 := Lib.hid (HN64.out.keep hb1)
  clear hb1
  go_wp2_with fail
  go_loopw [5, 6] (fun v x wr => ∃ i : Nat, i ≤ M ∧ x = .int .i64 (i : Int) ∧ Hid (wr.ownsRow w1.heap.size 5 1 v (catL (ns.take i)).length (u8s (catL (ns.take i))) ∧ Below w1.heap.size w1 wr)) (fun _ x _ => M - (intOf x).toNat)
  case atStart => exact ⟨0, by omega, rfl, World.ownsRow_nil _ _ _ _, Below.refl _ _⟩
  case round =>
    obtain ⟨i, hi, rfl, hI⟩ := hrel
    by_cases hlt : i < M
    · obtain ⟨ho, hB⟩ := hI.out
      have hin : i < ns.length := by rw [HNS.out]; exact hlt
      obtain ⟨b, off, rfl, hbl, hcl⟩ := HN1.out.at hin
      have hn64 := HNB.out _ (List.getElem_mem hin)
      have HCS := Lib.hid (catL_snoc ns i hin)
      have hcat : (catL (ns.take i)).length ≤ 1000 := by
        have h1 := catL_length (ns.take i) (fun x hx => HNB.out x (List.mem_of_mem_take hx))
        have h2 : (ns.take i).length ≤ 50 := by simp; omega
        omega
      generalize ns[i] = n at *
      have HCL : Hid (∀ wx, Below w1.heap.size w1 wx → wx.cell? ⟨b, off + i, none⟩ = some (.int .u64 (n : Int))) := Lib.hid (fun wx hx => (hx.cell (p := ⟨b, off + i, none⟩) hbl).trans hcl)
      have c1 := HCL.out wr hB
      have q1 : decide ((i : Int) < (len0 : Int)) = true := by simp; omega
      have q2 : decide ((i : Int) < 50) = true := by simp; omega
      have qi : i < len0 := by omega
      have HO := Lib.hid ho
      have HB := Lib.hid hB
      clear hI ho hB hcl
      go_wp2_with fail
      refine (Put_any _ n hn64).mono ?_
      rintro e w2 hF
      obtain ⟨vp, rfl, hop, hb2⟩ := hF
      have hp1 := putL_len10 n hn64
      have hpn : putL n ≠ [] := fun h => by rw [h] at hp1; simp at hp1
      obtain ⟨ap, cp, rfl, hyp, hnp, hcp⟩ := byt_of_own hop
      have hpblk : ∀ q, (Value.slice ap (putL n).length cp).ownBlock = some q → wr.heap.size ≤ q := fun q hq => (hop.lt q hq).1
      have HO2 := Lib.hid (own_keep HO.out hb2)
      have HB2 := Lib.hid (HB.out.trans (hb2.mono HB.out.size))
      have HYP := Lib.hid hyp
      have hob := fun (q : Nat) hq => (HO.out.lt q hq).2
      have HPB := Lib.hid (putL_byte n)
      have HPX := Lib.hid (fun k => get_prefix n k hn64)
      have hs2 := hb2.size
      clear hop hyp hb2 HO HB c1
      generalize hL : catL (ns.take i) = L at *
      clear hL
      go_wp2_with fail
      go_loop [8] (fun x => ∃ k : Nat, k ≤ (putL n).length ∧ x = .int .i64 (k : Int)) (fun x => (putL n).length - (intOf x).toNat)
      case atStart => exact ⟨0, by omega, rfl⟩
      case round =>
        obtain ⟨k, hk, rfl⟩ := hrel
        by_cases hklt : k < (putL n).length
        · have hpt := run_part_to (w := w2) (a := ap) (putL n).length cp k (by omega)
          have HG : Hid (Calls Try.prog 6 #[.slice (part ap cp 0) k cp] w2 fun e w' => e = .returned (tup (0, 0, 9)) ∧ w2 = w') := Lib.hid (by
            have h := get_at w2 (part ap cp 0) cp k ((putL n).take k) (by simp; omega) ((part_zero HYP.out).take k) (fun x hx => HPB.out x (List.mem_of_mem_take hx)) (by omega) (by unfold maxLen; omega)
            rwa [HPX.out k hklt] at h)
          generalize part ap cp 0 = pa at *
          go_wp2_with fail
          refine HG.out.mono ?_
          rintro e w3 ⟨rfl, rfl⟩
          unfold tup
          go_wp2
          go_round
          case rel => exact ⟨k + 1, by omega, by go_num⟩
          case measure => simp [intOf]; omega
        · obtain rfl : k = (putL n).length := by omega
          have hob2 : ∀ q, u5.ownBlock = some q → q < w2.drew.heap.size := fun q hq => Nat.lt_of_lt_of_le (hob q hq) hs2
          have hsg := sg_wrap n hn64
          have hsgI := sg_wrapI n hn64
          have hsr := sg_in n hn64
          have HPS : Hid (∀ wx, Calls Try.prog 7 #[.int .i64 (sg n)] wx (FreshU wx (putL (foldN (sg n))))) := Lib.hid (fun wx => PutSigned_any wx (sg n) hsr)
          have hq10 := putL_len10 (foldN (sg n)) (fold_lt _ hsr)
          have hqn : putL (foldN (sg n)) ≠ [] := fun h => by rw [h] at hq10; simp at hq10
          generalize hQ : putL (foldN (sg n)) = Q at *
          generalize hP : putL n = P at *
          have HPQ : Hid (catL (ns.take (i + 1)) = L ++ P ++ Q) := Lib.hid HCS.out
          generalize sg n = sn at *
          clear hQ hP
          have HOd : Hid (w2.drew.ownsRow w1.heap.size 5 1 u5 L.length (u8s L)) := Lib.hid HO2.out
          have HYd : Hid (Byt w2.drew ap P) := Lib.hid HYP.out
          have HBd : Hid (Below w1.heap.size w1 w2.drew) := Lib.hid HB2.out.drew
          obtain ⟨v6, w6, r6, o6, b6, -, -⟩ := appL w1.heap.size w1 w2.drew _ _ _ _ ap cp HOd.out HYd.out hpn HBd.out (Nat.le_refl _) (by omega)
          have O6 := Lib.hid o6
          have B6 := Lib.hid b6
          have c2 := HCL.out w2.drew HBd.out
          have c6 := HCL.out w6 b6
          clear o6 b6 HPX HPB hnp HCS
          go_wp2_with fail
          go_region_law (first
            | refine step_app_run rfl rfl r6 rfl rfl ?_
            | refine step_app_run rfl rfl r8 rfl rfl ?_
            | refine step_app_run rfl rfl r9 rfl rfl ?_
            | (go_simp; go_at_call 7; ((with_reducible refine (HPS.out _).mono ?_)); rintro e w7 ⟨v7, rfl, o7, b7⟩; have O8 := Lib.hid (own_keep O6.out b7); obtain ⟨a7, c7, rfl, y7, n7, -⟩ := byt_of_own o7; obtain ⟨v9, w9, r9, o9, b9, -, -⟩ := appL w1.heap.size w1 w7 _ _ _ _ a7 c7 O8.out y7 hqn (B6.out.trans (b7.mono B6.out.size)) (Nat.le_refl _) (by omega); have HF := Lib.hid (And.intro o9 b9); clear o7 b7 y7 n7 O8 o9 b9)
            | (go_simp; go_at_call 7; ((with_reducible refine (HPS.out _).mono ?_)); rintro e w7 ⟨v7, rfl, o7, b7⟩; have O8 := Lib.hid (own_keep HOd.out b7); have B7 := Lib.hid (HBd.out.trans (b7.mono HBd.out.size)); obtain ⟨a7, c7, rfl, y7, n7, -⟩ := byt_of_own o7; obtain ⟨v8, w8, r8, o8, b8, s8, k8⟩ := appL w1.heap.size w1 w7 _ _ _ _ ap cp O8.out (HYd.out.keep b7) hpn B7.out (Nat.le_refl _) (by omega); have c8 := HCL.out w8 b8; have Y8 : Hid (Byt w8 a7 Q) := (Lib.hid (y7.aside o7 hob2 s8 k8)); obtain ⟨v9, w9, r9, o9, b9, -, -⟩ := appL w1.heap.size w1 w8 _ _ _ _ a7 c7 o8 Y8.out hqn b8 (Nat.le_refl _) (by omega); have HF := Lib.hid (And.intro o9 b9); clear o7 b7 y7 n7 O8 o9 b9))
          all_goals
            go_wp2
            go_roundw
            case rel => exact ⟨i + 1, by omega, by go_num, by rw [HPQ.out]; simpa [Nat.add_assoc] using HF.out.1, HF.out.2⟩
            case measure => simp [intOf]; omega
    · obtain rfl : M = i := by omega
      obtain ⟨ho, hB⟩ := hI.out
      obtain ⟨av, cv, rfl, hy, hnv, hcv⟩ := byt_of_own ho
      have hns : ns.take M = ns := List.take_of_length_le (by rw [HNS.out]; exact Nat.le_refl _)
      rw [hns] at hy hcv ⊢
      have HY := Lib.hid hy
      have HW := Lib.hid (B1.out.trans (hB.mono B1.out.size))
      have HN2 := Lib.hid (HN1.out.keep hB)
      have hcat : (catL ns).length ≤ 1000 := by
        have h1 := catL_length ns HNB.out
        rw [HNS.out] at h1; omega
      have HBW := Lib.hid (HBS.out.keep HW.out)
      clear ho hB hI hns hnv hy HN1
      have hex : (¬ M < len0 ∧ decide (M < len0) = false) ∨ ((M < len0 ∧ decide (M < len0) = true) ∧ decide ((M : Int) < 50) = false) := by
        rcases hMe with h | ⟨h, h2⟩
        · left; simp; omega
        · right; simp; omega
      have hcd : catL (ns.drop 0) = catL ns := rfl
      rcases hex with ⟨q1, q1b⟩ | ⟨⟨q1, q1b⟩, q2⟩
      all_goals
        go_wp2_with fail
        go_loop [5, 12] (fun v x => ∃ (j : Nat) (a : Option Addr) (c : Nat), j ≤ M ∧ x = .int .i64 (j : Int) ∧ v = .slice a (catL (ns.drop j)).length c ∧ (catL (ns.drop j)).length ≤ c ∧ Hid (Byt wr a (catL (ns.drop j)))) (fun _ x => M - (intOf x).toNat)
        case atStart => exact ⟨0, av, cv, by omega, rfl, rfl, hcv, HY.out⟩
        case round =>
          obtain ⟨j, a, c, hj, rfl, rfl, hc, hJ⟩ := hrel
          by_cases hlt2 : j < M
          · have hin : j < ns.length := by rw [HNS.out]; exact hlt2
            obtain ⟨b, off, rfl, hbl, hcl⟩ := HN2.out.at hin
            have hn64 := HNB.out _ (List.getElem_mem hin)
            have HCD := Lib.hid (catL_drop ns j hin)
            have HCN : Hid (∀ x ∈ catL (ns.drop (j + 1)), x < 256) := Lib.hid (catL_byte _)
            have hdl : (catL (ns.drop j)).length ≤ 1000 := by
              have h1 := catL_length (ns.drop j) (fun x hx => HNB.out x (List.mem_of_mem_drop hx))
              have h2 : (ns.drop j).length ≤ 50 := by simp [HNS.out]; omega
              omega
            generalize ns[j] = n at *
            have hsr := sg_in n hn64
            have hsg := sg_wrap n hn64
            have hp1 := putL_len10 n hn64
            have hp2 := putL_len10 (foldN (sg n)) (fold_lt _ hsr)
            have HPB := Lib.hid (putL_byte n)
            have HQB := Lib.hid (putL_byte (foldN (sg n)))
            have HG1 : Hid (Calls Try.prog 6 #[.slice a (catL (ns.drop j)).length c] wr fun e w' => e = .returned (tup (n, (putL n).length, 0)) ∧ wr = w') := Lib.hid (by
              have h := get_at wr a c _ (catL (ns.drop j)) rfl hJ.out (catL_byte _) hc (by unfold maxLen; omega)
              rwa [HCD.out, getS_put n _ hn64, ← HCD.out] at h)
            have hll : (catL (ns.drop j)).length = (putL n).length + ((putL (foldN (sg n))).length + (catL (ns.drop (j + 1))).length) := by rw [HCD.out]; simp
            have s1 := run_part_from (w := wr) (a := a) (catL (ns.drop j)).length c (putL n).length ((putL n).length : Int) rfl (by omega) hc
            have y1 := hJ.out.from c (putL n).length hc (by omega)
            have y2 := hJ.out.from c ((putL n).length + (putL (foldN (sg n))).length) hc (by omega)
            rw [show (catL (ns.drop j)).drop (putL n).length = putL (foldN (sg n)) ++ catL (ns.drop (j + 1)) by rw [HCD.out]; simp] at y1
            rw [show (catL (ns.drop j)).drop ((putL n).length + (putL (foldN (sg n))).length) = catL (ns.drop (j + 1)) by rw [HCD.out, ← List.drop_drop]; simp] at y2
            have s2 := run_part_from (w := wr) (a := a) (catL (ns.drop j)).length c ((putL n).length + (putL (foldN (sg n))).length) (((putL n).length : Int) + ((putL (foldN (sg n))).length : Int)) (by omega) (by omega) hc
            have HG2 : Hid (Calls Try.prog 8 #[.slice (part a c (putL n).length) ((catL (ns.drop j)).length - (putL n).length) (c - (putL n).length)] wr fun e w' => e = .returned (tupS (foldN (sg n), (putL (foldN (sg n))).length, 0)) ∧ wr = w') := Lib.hid (by
              have h := getSigned_any wr (part a c (putL n).length) (c - (putL n).length) ((catL (ns.drop j)).length - (putL n).length) (putL (foldN (sg n)) ++ catL (ns.drop (j + 1))) (by simp; omega) y1 (fun x hx => (List.mem_append.1 hx).elim (HQB.out x) (HCN.out x)) (by omega) (by unfold maxLen; omega)
              rwa [getS_put _ _ (fold_lt _ hsr)] at h)
            have hl2 : (catL (ns.drop j)).length - ((putL n).length + (putL (foldN (sg n))).length) = (catL (ns.drop (j + 1))).length := by omega
            rw [hl2] at s2
            have hc2 : (catL (ns.drop (j + 1))).length ≤ c - ((putL n).length + (putL (foldN (sg n))).length) := by omega
            have HY2 := Lib.hid y2
            have huf := unfold_fold (sg n)
            have q1 : decide ((j : Int) < (len0 : Int)) = true := by simp; omega
            have q2 : decide ((j : Int) < 50) = true := by simp; omega
            have qi : j < len0 := by omega
            have qa : ((n : Int) != (n : Int)) = false := by simp
            have qb : (sg n != sg n) = false := by simp
            clear y1 y2 hJ HCD HCN hll hl2 HPB HQB
            generalize (putL n).length = pn at *
            generalize (putL (foldN (sg n))).length = qn at *
            generalize (catL (ns.drop j)).length = cn at *
            generalize hcn2 : (catL (ns.drop (j + 1))).length = cn2 at *
            have HC2 := Lib.hid hcn2
            generalize part a c pn = pa at *
            generalize part a c (pn + qn) = pb at *
            generalize foldN (sg n) = fn at *
            clear hcn2
            go_wp2_with fail
            refine HG1.out.mono ?_
            rintro e w3 ⟨rfl, rfl⟩
            unfold tup
            go_wp2_with fail
            refine HG2.out.mono ?_
            rintro e w3 ⟨rfl, rfl⟩
            unfold tupS
            simp only [huf]
            go_wp2
            go_round
            case rel => exact ⟨j + 1, pb, c - (pn + qn), by omega, by go_num, by rw [HC2.out], by rw [HC2.out]; exact hc2, HY2.out⟩
            case measure => simp [intOf]; omega
          · obtain rfl : M = j := by omega
            have hnil : catL (ns.drop M) = [] := by rw [List.drop_eq_nil_of_le (by rw [HNS.out]; exact Nat.le_refl _)]; rfl
            rw [hnil] at hc ⊢
            simp only [List.length_nil] at hc ⊢
            clear hnil hJ
            have HG : Hid (Calls Try.prog 6 #[.slice a1 len1 cap1] wr fun e w' => e = .returned (tup (getS bs)) ∧ wr = w') := Lib.hid (get_at wr a1 cap1 len1 bs HBN.out HBW.out HBB.out hc1 (Nat.le_trans hc1 hcm1))
            have hgl := getS_lt bs HBB.out
            have hle1 : len1 ≤ 9223372036854775807 := by unfold maxLen at hcm1; omega
            rw [HBN.out] at hgl
            by_cases he : (getS bs).2.2 = 0
            · have hinv := get_inv bs (getS bs).1 (getS bs).2.1 HBB.out (by rw [← he])
              have HK : Hid (putL (getS bs).1 = bs.take (getS bs).2.1) := Lib.hid hinv.2
              clear hinv
              generalize getS bs = r at *
              obtain ⟨rn, rk, re⟩ := r
              simp only at he hgl HK
              subst he
              have hr1 := hgl.1
              have hr2 := hgl.2.1
              have s3 := fun wx => run_part_to' (w := wx) (a := a1) len1 cap1 rk (rk : Int) rfl (by omega)
              have HCB : Hid (∀ wx, Below wr.heap.size wr wx → (convert 23 9 (.slice (part a1 cap1 0) rk cap1)).run Try.prog wx = .ok (.string (strOf (putL rn))) wx) := Lib.hid (fun wx hx => by
                rw [HK.out]
                exact conv_bytes ((part_zero (HBW.out.keep hx)).take rk) (fun x hx => HBB.out x (List.mem_of_mem_take hx)) (fun h => by rw [HBL.out (part_nil h)]; simp) cap1 rk (by rw [List.length_take, HBN.out]; omega))
              generalize part a1 cap1 0 = pa at *
              have HPU : Hid (∀ wx, Calls Try.prog 5 #[.int .u64 (rn : Int)] wx (Gives wx (strOf (putL rn)) (putL rn).length)) := Lib.hid (fun wx => (Put_any wx rn hr1).mono (fun e w' h => by
                obtain ⟨a, cap, he, hb, _, _, hc⟩ := h.open (putL_byte rn)
                exact ⟨a, cap, he, hb, hc⟩))
              have qs : ((strOf (putL rn)).toList == (strOf (putL rn)).toList) = true := by simp
              have hcb0 := HCB.out wr.drew ((Below.refl _ wr).drew)
              have qk : decide (rk ≤ len1) = true := by simp; omega
              have qk2 : decide ((rk : Int) ≤ (len1 : Int)) = true := by simp; omega
              clear hcd hcat hMe hM50 hML hcv hc0 hcm0 hlen HBS HN64 HNB HNS HY HN2
              clear HK hgl
              generalize strOf (putL rn) = SP at *
              generalize (putL rn).length = np at *
              go_wp2_with fail
              refine HG.out.mono ?_
              rintro e w3 ⟨rfl, rfl⟩
              unfold tup
              go_wp2_with fail
              refine wp_region_held_drew (S := fun w' => (convert 23 9 (.slice pa rk cap1)).run Try.prog w' = .ok (.string SP) w') (by kernel_rfl) (HCB.out _ ((Below.refl _ wr).drew)) (fun hHeld => ?_)
              refine wpAnyH_take (i := 0) (v := ?_) rfl (by kernel_rfl) (by kernel_rfl) (by kernel_rfl) (fun _ _ _ h => h) (Or.inl ⟨by rfl, ?_⟩) hHeld ?_
              rotate_left
              · (intro w hSw; (try dsimp only at hSw); first | (go_simp; done) | (go_simp; with_reducible rfl))
              simp only [Act.put, List.getElem_toArray, List.getElem_cons_zero, List.setIfInBounds_toArray, List.set_cons_zero, List.set_cons_succ]
              refine wpAnyH_take (i := 1) (v := ?_) rfl (by kernel_rfl) (by kernel_rfl) (by kernel_rfl) (fun _ _ _ h => h) (Or.inl ⟨by rfl, ?_⟩) hHeld ?_
              rotate_left
              · (intro w hSw; (try dsimp only at hSw); first | (go_simp; done) | (go_simp; with_reducible rfl))
              simp only [Act.put, List.getElem_toArray, List.getElem_cons_zero, List.getElem_cons_succ, List.setIfInBounds_toArray, List.set_cons_zero, List.set_cons_succ]
              refine wpAnyH_take (i := 2) (v := ?_) rfl (by kernel_rfl) (by kernel_rfl) (by kernel_rfl) (fun _ _ _ h => h) (Or.inl ⟨by rfl, ?_⟩) hHeld ?_
              rotate_left
              · (intro w hSw; (try dsimp only at hSw); first | (go_simp; done) | (go_simp; with_reducible rfl))
              simp only [Act.put, List.getElem_toArray, List.getElem_cons_zero, List.getElem_cons_succ, List.setIfInBounds_toArray, List.set_cons_zero, List.set_cons_succ]
              refine wpAnyH_take (i := 3) (v := ?_) rfl (by kernel_rfl) (by kernel_rfl) (by kernel_rfl) (fun _ _ _ h => h) (Or.inl ⟨by rfl, ?_⟩) hHeld ?_
              rotate_left
              · (intro w hSw; (try dsimp only at hSw); first | (go_simp; done) | (go_simp; with_reducible rfl))
              simp only [Act.put, List.getElem_toArray, List.getElem_cons_zero, List.getElem_cons_succ, List.setIfInBounds_toArray, List.set_cons_zero, List.set_cons_succ]
              refine wpAnyH_take (i := 4) (v := ?_) rfl (by kernel_rfl) (by kernel_rfl) (by kernel_rfl) (fun _ _ _ h => h) (Or.inl ⟨by rfl, ?_⟩) hHeld ?_
              rotate_left
              · (intro w hSw; (try dsimp only at hSw); first | (go_simp; done) | (go_simp; with_reducible rfl))
              simp only [Act.put, List.getElem_toArray, List.getElem_cons_zero, List.getElem_cons_succ, List.setIfInBounds_toArray, List.set_cons_zero, List.set_cons_succ]
              refine wpAnyH_take (i := 5) (v := ?_) rfl (by kernel_rfl) (by kernel_rfl) (by kernel_rfl) (fun _ _ _ h => h) (Or.inl ⟨by rfl, ?_⟩) hHeld ?_
              rotate_left
              · (intro w hSw; (try dsimp only at hSw); first | (go_simp; done) | (go_simp; with_reducible rfl))
              simp only [Act.put, List.getElem_toArray, List.getElem_cons_zero, List.getElem_cons_succ, List.setIfInBounds_toArray, List.set_cons_zero, List.set_cons_succ]
              refine wpAnyH_take (i := 6) (v := ?_) rfl (by kernel_rfl) (by kernel_rfl) (by kernel_rfl) (fun _ _ _ h => h) (Or.inl ⟨by rfl, ?_⟩) hHeld ?_
              rotate_left
              · (intro w hSw; (try dsimp only at hSw); first | (go_simp; done) | (go_simp; with_reducible rfl))
              simp only [Act.put, List.getElem_toArray, List.getElem_cons_zero, List.getElem_cons_succ, List.setIfInBounds_toArray, List.set_cons_zero, List.set_cons_succ]
              refine wpAnyH_take (i := 7) (v := ?_) rfl (by kernel_rfl) (by kernel_rfl) (by kernel_rfl) (fun _ _ _ h => h) (Or.inl ⟨by rfl, ?_⟩) hHeld ?_
              rotate_left
              · (intro w hSw; (try dsimp only at hSw); first | (go_simp; done) | (go_simp; with_reducible rfl))
              simp only [Act.put, List.getElem_toArray, List.getElem_cons_zero, List.getElem_cons_succ, List.setIfInBounds_toArray, List.set_cons_zero, List.set_cons_succ]
              refine wpAnyH_take (i := 8) (v := ?_) rfl (by kernel_rfl) (by kernel_rfl) (by kernel_rfl) (fun _ _ _ h => h) (Or.inl ⟨by rfl, ?_⟩) hHeld ?_
              rotate_left
              · (intro w hSw; (try dsimp only at hSw); first | (go_simp; done) | (go_simp; with_reducible rfl))
              simp only [Act.put, List.getElem_toArray, List.getElem_cons_zero, List.getElem_cons_succ, List.setIfInBounds_toArray, List.set_cons_zero, List.set_cons_succ]
              refine wpAnyH_take (i := 9) (v := ?_) rfl (by kernel_rfl) (by kernel_rfl) (by kernel_rfl) (fun _ _ _ h => h) (Or.inl ⟨by rfl, ?_⟩) hHeld ?_
              rotate_left
              · (intro w hSw; (try dsimp only at hSw); first | (go_simp; done) | (go_simp; with_reducible rfl))
              simp only [Act.put, List.getElem_toArray, List.getElem_cons_zero, List.getElem_cons_succ, List.setIfInBounds_toArray, List.set_cons_zero, List.set_cons_succ]
              refine wpAnyH_take (i := 10) (v := ?_) rfl (by kernel_rfl) (by kernel_rfl) (by kernel_rfl) (fun _ _ _ h => h) (Or.inl ⟨by rfl, ?_⟩) hHeld ?_
              rotate_left
              · (intro w hSw; (try dsimp only at hSw); first | (go_simp; done) | (go_simp; with_reducible rfl))
              simp only [Act.put, List.getElem_toArray, List.getElem_cons_zero, List.getElem_cons_succ, List.setIfInBounds_toArray, List.set_cons_zero, List.set_cons_succ]
              refine wpAnyH_take (i := 11) (v := ?_) rfl (by kernel_rfl) (by kernel_rfl) (by kernel_rfl) (fun _ _ _ h => h) (Or.inl ⟨by rfl, ?_⟩) hHeld ?_
              rotate_left
              · (intro w hSw; (try dsimp only at hSw); first | (go_simp; done) | (go_simp; with_reducible rfl))
              simp only [Act.put, List.getElem_toArray, List.getElem_cons_zero, List.getElem_cons_succ, List.setIfInBounds_toArray, List.set_cons_zero, List.set_cons_succ]
              refine wpAnyH_take (i := 12) (v := ?_) rfl (by kernel_rfl) (by kernel_rfl) (by kernel_rfl) (fun _ _ _ h => h) (Or.inl ⟨by rfl, ?_⟩) hHeld ?_
              rotate_left
              · (intro w hSw; (try dsimp only at hSw); first | (go_simp; done) | (go_simp; with_reducible rfl))
              simp only [Act.put, List.getElem_toArray, List.getElem_cons_zero, List.getElem_cons_succ, List.setIfInBounds_toArray, List.set_cons_zero, List.set_cons_succ]
              refine wpAnyH_take (i := 15) (v := ?_) rfl (by kernel_rfl) (by kernel_rfl) (by kernel_rfl) (fun _ _ _ h => h) (Or.inl ⟨by rfl, ?_⟩) hHeld ?_
              rotate_left
              · (intro w hSw; (try dsimp only at hSw); first | (go_simp; done) | (go_simp; with_reducible rfl))
              simp only [Act.put, List.getElem_toArray, List.getElem_cons_zero, List.getElem_cons_succ, List.setIfInBounds_toArray, List.set_cons_zero, List.set_cons_succ]
              refine wpAnyH_take (i := 16) (v := ?_) rfl (by kernel_rfl) (by kernel_rfl) (by kernel_rfl) (fun _ _ _ h => h) (Or.inl ⟨by rfl, ?_⟩) hHeld ?_
              rotate_left
              · (intro w hSw; (try dsimp only at hSw); first | (go_simp; done) | (go_simp; with_reducible rfl))
              simp only [Act.put, List.getElem_toArray, List.getElem_cons_zero, List.getElem_cons_succ, List.setIfInBounds_toArray, List.set_cons_zero, List.set_cons_succ]
              refine wpAnyH_take (i := 17) (v := ?_) rfl (by kernel_rfl) (by kernel_rfl) (by kernel_rfl) (fun _ _ _ h => h) (Or.inl ⟨by rfl, ?_⟩) hHeld ?_
              rotate_left
              · (intro w hSw; (try dsimp only at hSw); first | (go_simp; done) | (go_simp; with_reducible rfl))
              simp only [Act.put, List.getElem_toArray, List.getElem_cons_zero, List.getElem_cons_succ, List.setIfInBounds_toArray, List.set_cons_zero, List.set_cons_succ]
              refine wpAnyH_take (i := 18) (v := ?_) rfl (by kernel_rfl) (by kernel_rfl) (by kernel_rfl) (fun _ _ _ h => h) (Or.inl ⟨by rfl, ?_⟩) hHeld ?_
              rotate_left
              · (intro w hSw; (try dsimp only at hSw); first | (go_simp; done) | (go_simp; with_reducible rfl))
              simp only [Act.put, List.getElem_toArray, List.getElem_cons_zero, List.getElem_cons_succ, List.setIfInBounds_toArray, List.set_cons_zero, List.set_cons_succ]
              refine wpAnyH_ready (rs := [13]) (by kernel_rfl) (by simp) ?_
              refine AllReadyH.cons rfl (fun K hK => ?_) AllReadyH.nil
              go_simp
              refine (HPU.out _).mono ?_
              rintro e w7 ⟨a7, c7, rfl, hb7, hcv7⟩
              have hx7 := hcv7 w7 (Below.refl _ _)
              have HB7 : Hid (Below wr.heap.size wr w7) := Lib.hid (((Below.refl _ wr).drew).trans hb7)
              clear hb7 hcv7
              try go_wp2_with fail
              refine hK.out _ _ (HCB.out _ HB7.out) (fun hHeld => ?_)
              clear hK K
              try simp only [Act.put, List.setIfInBounds_toArray, List.set_cons_zero, List.set_cons_succ]
              refine wpAnyH_ready (rs := [14]) (by kernel_rfl) (by simp) ?_
              refine AllReadyH.cons rfl (fun K hK => ?_) AllReadyH.nil
              go_simp
              refine hK.out _ _ hHeld (fun hHeld => ?_)
              clear hK K
              try simp only [Act.put, List.setIfInBounds_toArray, List.set_cons_zero, List.set_cons_succ]
              refine wpAnyH_take (i := 19) (v := ?_) rfl (by kernel_rfl) (by kernel_rfl) (by kernel_rfl) (fun _ _ _ h => h) (Or.inl ⟨by rfl, ?_⟩) hHeld ?_
              rotate_left
              · (intro w hSw; (try dsimp only at hSw); first | (go_simp; done) | (go_simp; with_reducible rfl))
              simp only [Act.put, List.getElem_toArray, List.getElem_cons_zero, List.getElem_cons_succ, List.setIfInBounds_toArray, List.set_cons_zero, List.set_cons_succ]
              refine wpAnyH_take (i := 20) (v := ?_) rfl (by kernel_rfl) (by kernel_rfl) (by kernel_rfl) (fun _ _ _ h => h) (Or.inl ⟨by rfl, ?_⟩) hHeld ?_
              rotate_left
              · (intro w hSw; (try dsimp only at hSw); first | (go_simp; done) | (go_simp; with_reducible rfl))
              simp only [Act.put, List.getElem_toArray, List.getElem_cons_zero, List.getElem_cons_succ, List.setIfInBounds_toArray, List.set_cons_zero, List.set_cons_succ]
              refine wpAnyH_take (i := 21) (v := ?_) rfl (by kernel_rfl) (by kernel_rfl) (by kernel_rfl) (fun _ _ _ h => h) (Or.inl ⟨by rfl, ?_⟩) hHeld ?_
              rotate_left
              · (intro w hSw; (try dsimp only at hSw); first | (go_simp; done) | (go_simp; with_reducible rfl))
              simp only [Act.put, List.getElem_toArray, List.getElem_cons_zero, List.getElem_cons_succ, List.setIfInBounds_toArray, List.set_cons_zero, List.set_cons_succ]
              refine wpAnyH_take (i := 22) (v := ?_) rfl (by kernel_rfl) (by kernel_rfl) (by kernel_rfl) (fun _ _ _ h => h) (Or.inl ⟨by rfl, ?_⟩) hHeld ?_
              rotate_left
              · (intro w hSw; (try dsimp only at hSw); first | (go_simp; done) | (go_simp; with_reducible rfl))
              simp only [Act.put, List.getElem_toArray, List.getElem_cons_zero, List.getElem_cons_succ, List.setIfInBounds_toArray, List.set_cons_zero, List.set_cons_succ]
              refine wpAnyH_take (i := 23) (v := ?_) rfl (by kernel_rfl) (by kernel_rfl) (by kernel_rfl) (fun _ _ _ h => h) (Or.inl ⟨by rfl, ?_⟩) hHeld ?_
              rotate_left
              · (intro w hSw; (try dsimp only at hSw); first | (go_simp; done) | (go_simp; with_reducible rfl))
              simp only [Act.put, List.getElem_toArray, List.getElem_cons_zero, List.getElem_cons_succ, List.setIfInBounds_toArray, List.set_cons_zero, List.set_cons_succ]
              refine wpAnyH_done (by kernel_rfl) ?_ _
              all_goals
                go_wp2
                go_ret
                exact ⟨rfl, HW.out.trans (HB7.out.mono HW.out.size)⟩
            · have he0 : 0 < (getS bs).2.2 := by omega
              generalize getS bs = r at *
              obtain ⟨rn, rk, re⟩ := r
              simp only at he0 hgl
              have hr1 := hgl.1
              have hr2 := hgl.2.1
              have hr3 := hgl.2.2
              have qe : ((re : Int) != 0) = true := by simp; omega
              clear hgl he
              go_wp2_with fail
              refine HG.out.mono ?_
              rintro e w3 ⟨rfl, rfl⟩
              unfold tup
              go_wp2_with fail
              go_region
              all_goals
                go_wp2
                go_ret
                exact ⟨rfl, HW.out.trans ((Below.refl _ _).drew)⟩
end varintBack
end Go.Proofs.Ytngofiajcicmlaa
