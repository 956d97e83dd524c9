/-
  RegionCounts answers true, whatever it is asked, and turns nothing that was there: the walk.
-/
import Derived.Test.YtkmnclcppalbbaaRegCntA
import Derived.Deep.DeepCutAuto
import Derived.Deep.CutBlock
namespace Go.Proofs.Ytkmnclcppalbbaa.regionCounts
open Go.RowKit

/-- Behind k times Make. -/
def N1 (w0 : World) (pb k : Nat) (wr : World) : Prop :=
  ∃ (S : Ps) (F : Nat → Prop), St w0 wr S F ∧ S.pb = pb ∧ S.size = 96 ∧ S.n = 7 ∧ (∀ i, i < 256 → S.live i = decide (i < k)) ∧ ∀ i, i < 256 → S.gen i ≤ 1 ∧ (k ≤ i → S.gen i = 0)
def N2 (w0 : World) (pb m : Nat) (wr : World) : Prop := ∃ (S : Ps) (F : Nat → Prop), St w0 wr S F ∧ S.pb = pb ∧ CInv S m

/-- The slabs of the first k. -/
def pre (S : Ps) (k : Nat) : List Nat := (List.range k).flatMap S.sl
theorem pre_succ (S : Ps) (k : Nat) : pre S (k + 1) = pre S k ++ S.sl k := by unfold pre; rw [List.range_succ, List.flatMap_append]; simp
theorem pre_three (S : Ps) : pre S 3 = Ps.all3 S := by rw [pre_succ, pre_succ, pre_succ]; simp [pre, Ps.all3]
theorem pre_nodup {S : Ps} (hO : S.Ok) {k : Nat} (hk : k < 3) : (pre S k ++ S.sl k).Nodup := by
  have h := all3_nodup hO
  unfold Ps.all3 at h
  match k, hk with
  | 0, _ => simpa [pre] using hO.v3 0 (by omega)
  | 1, _ => rw [pre_succ]; simpa [pre] using (List.nodup_append.1 h).1
  | 2, _ => rw [pre_succ, pre_succ]; simpa [pre] using h

theorem shl_al (c : Nat) (hc : c < 7) : ∃ al : Nat, alB al = true ∧ (2 : Int) ^ c = (al : Int) ∧ al ≤ 64 ∧ 1 ≤ al := by
  match c, hc with
  | 0, _ => exact ⟨1, rfl, rfl, by omega, by omega⟩
  | 1, _ => exact ⟨2, rfl, rfl, by omega, by omega⟩
  | 2, _ => exact ⟨4, rfl, rfl, by omega, by omega⟩
  | 3, _ => exact ⟨8, rfl, rfl, by omega, by omega⟩
  | 4, _ => exact ⟨16, rfl, rfl, by omega, by omega⟩
  | 5, _ => exact ⟨32, rfl, rfl, by omega, by omega⟩
  | 6, _ => exact ⟨64, rfl, rfl, by omega, by omega⟩

set_option maxRecDepth 100000 in
set_option maxHeartbeats 4000000 in
theorem walk (a0 : Option Addr) (len0 cap0 : Nat) (w : World) (w0 : IsTil w a0 len0 cap0) :
    Calls Try.prog 7 #[.slice a0 len0 cap0] w fun e w' => e = .returned (.bool true) ∧ Below w.heap.size w w' := by
  have hlen : len0 ≤ 9223372036854775807 := by have := w0.1; have := w0.2.1; unfold maxLen at this; omega
  have HW := Lib.hid w0.2.2
  clear w0
  go_enter Try.func7, Try.ntmps7
  go_wp2_with fail
  refine (fertile_any _).mono ?_
  rintro e w1 ⟨rfl, hg1⟩
  have HG1 := Lib.hid hg1
  have HN : Hid (Calls Try.prog 15 #[.int .i64 96, .int .i64 7] w1 _) := St.new w1 96 7 (by omega) (by omega) (by omega) (by omega) (by omega) (by omega)
  clear hg1
  go_wp2_with fail
  refine HN.out.mono ?_
  rintro e w2 ⟨pb, bb, tb, F0, rfl, hS0, hF0⟩
  have HM0 := Lib.hid (show N1 w1 pb 0 w2 from ⟨_, F0, hS0, rfl, rfl, rfl, fun i _ => by simp [Ps.new], fun i _ => ⟨Nat.zero_le _, fun _ => rfl⟩⟩)
  clear hS0 hF0 HN
  go_wp2_with fail
  go_loopw [5] (fun i wq => ∃ k : Nat, k ≤ 3 ∧ i = .int .i64 k ∧ Hid (N1 w1 pb k wq)) (fun i _ => 3 - (intOf i).toNat)
  case atStart => exact ⟨0, Nat.zero_le _, rfl, HM0.out⟩
  case round =>
    obtain ⟨k, hk, rfl, hM⟩ := hrel
    clear HM0
    by_cases hlt : k < 3
    · obtain ⟨S, F, hS, e1, e2, e3, e4, e5⟩ := hM.out
      have hnx : S.next = some k := idleFrom_is (by omega) (by rw [e4 k (by omega)]; simp) (fun q hq => by rw [e4 q (by omega)]; simpa using hq)
      have hmk := hS.make (fun i hi => by have := (e5 i hi).1; omega) hnx
      rw [e1] at hmk
      have hnext : ∀ w', St w1 w' (S.made k) F → N1 w1 pb (k + 1) w' := fun w' h => ⟨S.made k, F, h, e1, e2, e3, fun i hi => by
          by_cases e : i = k
          · subst e; simp [Ps.made]
          · simp only [Ps.made, if_neg e, e4 i hi]; rw [decide_eq_decide]; omega, fun i hi => by
          by_cases e : i = k
          · subst e; simp [Ps.made, (e5 i hi).2 (Nat.le_refl _)]
          · simp only [Ps.made, if_neg e]; exact ⟨(e5 i hi).1, fun h => (e5 i hi).2 (by omega)⟩⟩
      have HMK := Lib.hid hmk
      have HNX := Lib.hid hnext
      clear hmk hnext hS e1 e2 e3 e4 e5 hnx hM
      go_wp2_with fail
      refine HMK.out.mono ?_
      rintro e w3 ⟨rfl, hS3, _⟩
      have H3 := Lib.hid (HNX.out w3 hS3)
      clear hS3
      go_wp2
      go_roundw
      case rel => exact ⟨k + 1, by omega, by go_num, H3.out⟩
      case measure => simp [intOf]; omega
    · have : k = 3 := by omega
      subst this
      obtain ⟨S, F, hS, e1, e2, e3, e4, e5⟩ := hM.out
      have HN2 := Lib.hid (show N2 w1 pb 1 wr from ⟨S, F, hS, e1, ⟨e2, e3, e4, fun i hi => (e5 i hi).1⟩⟩)
      clear hS e1 e2 e3 e4 e5 hM
      go_wp2_with fail
      go_loopw [6] (fun i wq => ∃ m : Nat, m ≤ 80 ∧ i = .int .i64 m ∧ Hid (N2 w1 pb (m + 1) wq)) (fun i _ => 80 - (intOf i).toNat)
      case atStart => exact ⟨0, Nat.zero_le _, rfl, HN2.out⟩
      case round =>
        obtain ⟨m, hm, rfl, hM⟩ := hrel
        clear HN2
        by_cases hml : m < len0 ∧ m < 80
        · obtain ⟨hm1, hm2⟩ := hml
          obtain ⟨b, off, rfl, hb, tc, ta, tb', tz, tt, ts, hT⟩ := HW.out m hm1
          obtain ⟨S, F, hS, e1, hI⟩ := hM.out
          have hbw : Below w.heap.size w wr := HG1.out.then hS.below
          have t0 := (hbw.cell (p := ⟨b, off + m * 6, none⟩) hb).trans hT.c0
          have t1 := (hbw.cell (p := ⟨b, off + m * 6 + 1, none⟩) hb).trans hT.c1
          have t2 := (hbw.cell (p := ⟨b, off + m * 6 + 2, none⟩) hb).trans hT.c2
          have t3 := (hbw.cell (p := ⟨b, off + m * 6 + 3, none⟩) hb).trans hT.c3
          obtain ⟨r, hr, hrq⟩ : ∃ k : Nat, k < 3 ∧ wrap64 ((IntKind.u64.wrap ta).tmod 3) = (k : Int) := modPos ta 3 (by omega) (by omega)
          have hid := idle_any hS.at_ hS.ok.s5
          rw [hI.n, e1] at hid
          have HID := Lib.hid hid
          have hic := idleCnt_le S.tk 7
          clear hid hbw hT
          go_wp2_with fail
          refine HID.out.mono ?_
          rintro e w3 ⟨rfl, rfl⟩
          go_upto_if 60 with (fail)
          go_cut [] (fun wx => Hid (N2 w1 pb (m + 2) wx))
          case first =>
            by_cases h5 : tc = 5
            · have h5b : (tc == 5) = true := by simpa using h5
              have hlv : S.live r = true := by rw [hI.lv r (by omega)]; simpa using hr
              have hfr := hS.free (i := r) (by omega) hlv
              rw [e1] at hfr
              have HFR := Lib.hid hfr
              have HI := Lib.hid (And.intro e1 hI)
              clear hfr hlv hS e1 hI h5 HID hM
              go_wp2_with fail
              refine HFR.out.mono ?_
              rintro e w4 ⟨rfl, hS4, _⟩
              obtain ⟨e1, hI⟩ := HI.out
              have hnx : (S.freed r).next = some r := idleFrom_is (by omega) (by simp [Ps.freed]) (fun q hq => by
                have : q ≠ r := by omega
                simp [Ps.freed, this, hI.lv q (by omega)]; omega)
              have hmk := hS4.make (fun i hi => by have := hI.g i hi; show S.gen i < _; omega) hnx
              rw [show (S.freed r).pb = pb from e1] at hmk
              have HMK := Lib.hid hmk
              have hfin : ∀ w5, St w1 w5 ((S.freed r).made r) F → N2 w1 pb (m + 2) w5 := fun w5 h => ⟨_, F, h, e1, hI.sz, hI.n, fun i hi => by
                  by_cases e : i = r
                  · subst e; simp [Ps.made]; exact hr
                  · simp [Ps.made, Ps.freed, e, hI.lv i hi], fun i hi => by
                  have h1 := hI.g i hi
                  have h2 := hI.g r (by omega)
                  by_cases e : i = r
                  · subst e; simp [Ps.made, Ps.freed]; omega
                  · simp [Ps.made, Ps.freed, e]; omega⟩
              have HFN := Lib.hid hfin
              have hrr : ((r : Int) != (r : Int)) = false := by simp
              clear hmk hnx hS4 e1 hI hfin HFR HI
              go_wp2_with fail
              refine HMK.out.mono ?_
              rintro e w5 ⟨rfl, hS5, _⟩
              have H5 := Lib.hid (HFN.out w5 hS5)
              clear hS5
              go_wp2_with fail
              go_meet
              exact H5.out
            · have h5b : (tc == 5) = false := by simpa using h5
              obtain ⟨c, hc, hcq⟩ : ∃ c : Nat, c < 7 ∧ (IntKind.u64.wrap tz).tmod 7 = (c : Int) := by
                have h1 : 0 ≤ IntKind.u64.wrap tz := by simp [IntKind.wrap, IntKind.bits, IntKind.signed]; omega
                rw [Int.tmod_eq_emod_of_nonneg h1]
                have h2 := Int.emod_nonneg (IntKind.u64.wrap tz) (show (7 : Int) ≠ 0 by decide)
                have h3 := Int.emod_lt_of_pos (IntKind.u64.wrap tz) (show (0 : Int) < 7 by decide)
                exact ⟨((IntKind.u64.wrap tz) % 7).toNat, by omega, by omega⟩
              obtain ⟨nn, hnn, hnq⟩ : ∃ k : Nat, k < 100 ∧ wrap64 ((IntKind.u64.wrap tb').tmod 100) = (k : Int) := modPos tb' 100 (by omega) (by omega)
              obtain ⟨al, hal, hal2, hal3, hal4⟩ := shl_al c hc
              have halt := alloc_three (i := r) (n := 1 + nn) (al := al) hS hI hr (by omega) hal
              rw [e1] at halt
              have HIS := Lib.hid (And.intro hS (And.intro e1 hI))
              have HAL2 := Lib.hid hal2
              generalize hicd : idleCnt S.tk 7 = ic at *
              have HICD := Lib.hid hicd
              clear h5 HID hM hS e1 hI hal hal2 hicd
              go_wp2_with fail
              rw [show wrap64 ((2 : Int) ^ c) = (al : Int) from by rw [HAL2.out]; unfold wrap64; omega, show (1 + (nn : Int)) = ((1 + nn : Nat) : Int) from by omega]
              generalize hn : 1 + nn = n at *
              have hn1 : 1 ≤ n := by omega
              have hn2 : n ≤ 100 := by omega
              clear hn HAL2
              have hsame : ∀ w', Grew wr w' → N2 w1 pb (m + 2) w' ∧ (Calls Try.prog 13 #[.pointer (some ⟨pb, 0, none⟩)] w' fun e w'' => e = .returned (.int .i64 ic) ∧ w' = w'') := fun w' hg => by
                obtain ⟨hS, e1, hI⟩ := HIS.out
                refine ⟨⟨S, F, hS.grew hg, e1, hI.sz, hI.n, hI.lv, fun i hi => Nat.le_succ_of_le (hI.g i hi)⟩, ?_⟩
                have := idle_any (hS.grew hg).at_ hS.ok.s5
                rw [hI.n, e1, HICD.out] at this; exact this
              have HSM := Lib.hid hsame
              clear hsame
              rcases halt with ⟨hb1, hal⟩ | ⟨hb1, hal⟩ | ⟨g, o, ho1, ho2, hal⟩
              · have HAL := Lib.hid hal
                have hic2 : ((ic : Int) != (ic : Int)) = false := by simp
                clear hal
                refine HAL.out.mono ?_
                rintro e w5 ⟨rfl, hg5⟩
                have h5 := HSM.out _ (hg5.then (Grew.alloc w5 (.cells #[.int .i64 0, .int .i64 0, .int .i64 0, .int .i64 0] 41)))
                have H5 := Lib.hid h5
                clear h5 hg5
                go_wp2_with fail
                refine H5.out.2.mono ?_
                rintro e w6 ⟨rfl, rfl⟩
                go_wp2_with fail
                go_meet
                exact H5.out.1
              · have HAL := Lib.hid hal
                have hic1 : ((ic : Int) != 0) = false := by simp; exact hb1
                have hic2 : ((ic : Int) != (ic : Int)) = false := by simp
                have HB1 := Lib.hid hb1
                clear hal hb1
                refine HAL.out.mono ?_
                rintro e w5 ⟨rfl, hg5⟩
                have h5 := HSM.out _ (hg5.then (Grew.alloc w5 (.cells #[.int .i64 0, .int .i64 0, .int .i64 0, .int .i64 0] 41)))
                have H5 := Lib.hid h5
                clear h5 hg5
                go_wp2_with fail
                refine H5.out.2.mono ?_
                rintro e w6 ⟨rfl, rfl⟩
                go_wp2_with fail
                go_meet
                exact H5.out.1
              · have HAL := Lib.hid hal
                have hm1 : ((o : Int) % 96 % (al : Int) != 0) = false := by
                  have : ((o : Int) % 96 % (al : Int)) = ((o % 96 % al : Nat) : Int) := by push_cast; rfl
                  rw [this, ho1]; rfl
                have hm2' : (o : Int) % 96 + (n : Int) ≤ 96 := by omega
                have hob : o % 96 < 96 := Nat.mod_lt _ (by omega)
                clear hal ho1 ho2
                refine HAL.out.mono ?_
                rintro e w5 ⟨rfl, S', F', hS', e1', hI', hic'⟩
                have hid := idle_any (hS'.alloc (.cells #[.int .i64 r, .int .i64 g, .int .i64 o, .int .i64 n] 41)).at_ hS'.ok.s5
                rw [hI'.n, e1'] at hid
                have hN : N2 w1 pb (m + 2) (w5.alloc (.cells #[.int .i64 r, .int .i64 g, .int .i64 o, .int .i64 n] 41)) := ⟨S', F', hS'.alloc _, e1', hI'.sz, hI'.n, hI'.lv, fun i hi => Nat.le_succ_of_le (hI'.g i hi)⟩
                have hic3 := idleCnt_le S'.tk 7
                generalize idleCnt S'.tk 7 = ic' at *
                have HI5 := Lib.hid hid
                have HN5 := Lib.hid hN
                have hd1 : ¬ (1 < (ic : Int) - (ic' : Int)) := by omega
                clear hid hN hS' e1' hI' hic' HAL HSM
                go_wp2_with fail
                refine HI5.out.mono ?_
                rintro e w6 ⟨rfl, rfl⟩
                go_wp2_with fail
                go_meet
                exact HN5.out
          case rest =>
            clear hS e1 hI HID hM hic t0 t1 t2 t3
            obtain ⟨S, F, hS, e1, hI⟩ := hcut.out
            have hid := idle_any hS.at_ hS.ok.s5
            rw [hI.n, e1] at hid
            have HID := Lib.hid hid
            have hic := idleCnt_le S.tk 7
            have hall := idle_all hS.ok hI
            have HALL := Lib.hid hall
            have hl0 : (S.sl 0).length ≤ 7 := by omega
            have hl1 : (S.sl 1).length ≤ 7 := by omega
            have hl2 : (S.sl 2).length ≤ 7 := by omega
            have kmk : ∀ w, (Instr.makeSlice 71 (.int .i64 7) (.int .i64 7)).run Try.prog w = .ok (.slice (some ⟨w.heap.size, 0, none⟩) 7 7) (w.alloc (.cells (madeCells #[.bool false] 7) 4)) :=
              run_make_row' (P := Try.prog) 71 4 (.bool false) 1 Try.underlying71 (by kernel_rfl) rfl .i64 .i64 7 (by omega) (by omega)
            have hstart : St w1 (wc.alloc (.cells (madeCells #[.bool false] 7) 4)) S F ∧ (wc.alloc (.cells (madeCells #[.bool false] 7) 4)).rowIs wc.heap.size 4 7 (fun x => .bool (decide (x ∈ pre S 0))) :=
              ⟨hS.alloc _, (World.rowIs_made wc (.bool false) 7 4).congr (fun x _ => by simp [pre])⟩
            have HST := Lib.hid hstart
            have HC := Lib.hid (And.intro e1 (And.intro hI (And.intro hS.ok (And.intro hS.at_.outNew hS.mv.size))))
            clear hid hall hstart hS e1 hI hcut
            go_wp2_with fail
            refine HID.out.mono ?_
            rintro e w3 ⟨rfl, rfl⟩
            go_wp2_with fail
            generalize wc.heap.size = SB at *
            clear kmk HID
            generalize hicd : idleCnt S.tk 7 = ic at *
            clear hicd
            go_loopw [15, 17, 18, 19, 20] (fun al k _ _ _ wq => ∃ q : Nat, q ≤ 3 ∧ k = .int .i64 q ∧ al = .int .i64 (ic + (pre S q).length : Nat) ∧ Hid (St w1 wq S F ∧ wq.rowIs SB 4 7 (fun x => .bool (decide (x ∈ pre S q))))) (fun _ k _ _ _ _ => 3 - (intOf k).toNat)
            case atStart => exact ⟨0, by omega, rfl, by simp [pre], HST.out⟩
            case round =>
              obtain ⟨q, hq, rfl, rfl, hQ⟩ := hrel
              clear HST
              by_cases hql : q < 3
              · obtain ⟨hS, hrow⟩ := hQ.out
                obtain ⟨e1, hI, hO, hnF, hbF⟩ := HC.out
                have hlv : S.live q = true := by rw [hI.lv q (by omega)]; simpa using hql
                have hsb := slabs_ok hS.at_ hS.ok (i := q) (by omega) hlv
                rw [e1] at hsb
                have HSB := Lib.hid hsb
                have hll : (S.sl q).length ≤ 7 := by have := hO.len (i := q) (by omega); rw [hI.n] at this; exact this
                have hpl : (pre S q).length ≤ 21 := by
                  match q, hql with
                  | 0, _ => simp [pre]
                  | 1, _ => rw [pre_succ]; simp [pre]; omega
                  | 2, _ => rw [pre_succ, pre_succ]; simp [pre]; omega
                clear hsb hS hrow e1 hI hO hlv hnF hbF
                go_wp2_with fail
                refine HSB.out.mono ?_
                rintro e w4 ⟨lv, rfl, hfo⟩
                have hg4 : Grew wr w4 := by rcases hfo with ⟨_, _, h⟩ | ⟨_, _, _, _, _, _, h⟩ <;> exact h
                obtain ⟨la, lcap, hlv, hlc⟩ : ∃ la lcap, lv = .slice la (S.sl q).length lcap ∧ (∀ i, i < (S.sl q).length → ∃ gL, la = some ⟨gL, 0, none⟩ ∧ wr.heap.size ≤ gL ∧ gL < w4.heap.size ∧ w4.cell? ⟨gL, i, none⟩ = some (.int .i64 ((S.sl q).getD i 0 : Nat))) := by
                  rcases hfo with ⟨h1, h2, _⟩ | ⟨gL, cap, h1, h2, h3, h4, _⟩
                  · have h0 : S.sl q = [] := by simpa [i64s] using h1
                    exact ⟨none, 0, by rw [h2, h0]; rfl, fun i hi => by rw [h0] at hi; simp at hi⟩
                  · have hl : (i64s (S.sl q)).length = (S.sl q).length := by simp [i64s]
                    rw [hl] at h1 h4
                    refine ⟨_, cap, h1, fun i hi => ⟨gL, rfl, h2, h3, ?_⟩⟩
                    have := World.ownsRow.cells h4 (g := gL) (by rw [h1]; rfl) i (.int .i64 ((S.sl q).getD i 0 : Nat)) (by
                      rw [i64s, List.getElem?_map, List.getElem?_eq_getElem hi, List.getD_eq_getElem?_getD, List.getElem?_eq_getElem hi]; rfl)
                    rw [add_spot rfl, Nat.zero_add] at this; exact this
                subst hlv
                have hst4 : St w1 w4 S F ∧ w4.rowIs SB 4 7 (fun x => .bool (decide (x ∈ pre S q ++ (S.sl q).take 0))) := ⟨hQ.out.1.grew hg4, (hQ.out.2.of_block (hg4.block _ hQ.out.2.lt)).congr (fun x _ => by simp)⟩
                have hSBlt := hQ.out.2.lt
                have HST4 := Lib.hid hst4
                have HLC := Lib.hid hlc
                clear hst4 hlc hfo hg4 hQ HSB
                go_wp2_with fail
                go_loopw [20] (fun j wq => ∃ i : Nat, i ≤ (S.sl q).length ∧ j = .int .i64 i ∧ Hid (St w1 wq S F ∧ wq.rowIs SB 4 7 (fun x => .bool (decide (x ∈ pre S q ++ (S.sl q).take i))) ∧ Touch SB w4 wq)) (fun j _ => (S.sl q).length - (intOf j).toNat)
                case atStart => exact ⟨0, by omega, rfl, HST4.out.1, HST4.out.2, Touch.refl _ _⟩
                case round =>
                  obtain ⟨i, hi, rfl, hR⟩ := hrel
                  clear HST4
                  by_cases hil : i < (S.sl q).length
                  · obtain ⟨hS, hrow, htc⟩ := hR.out
                    obtain ⟨e1, hI, hO, hnF, hbF⟩ := HC.out
                    obtain ⟨gL, hla, hg1, hg2, hcl⟩ := HLC.out i hil
                    subst hla
                    have hcw : wr.cell? ⟨gL, i, none⟩ = some (.int .i64 ((S.sl q).getD i 0 : Nat)) := (World.cell?_of_block (w := w4) (htc.block gL (by omega))).trans hcl
                    have hmem : (S.sl q).getD i 0 ∈ S.sl q := by rw [List.getD_eq_getElem?_getD, List.getElem?_eq_getElem hil]; simp
                    have hj7 : (S.sl q).getD i 0 < 7 := by have := hO.v1 q (by omega) _ hmem; rw [hI.n] at this; exact this
                    have htk : (S.sl q).take (i + 1) = (S.sl q).take i ++ [(S.sl q).getD i 0] := by
                      rw [List.take_succ_eq_append_getElem hil, List.getD_eq_getElem?_getD, List.getElem?_eq_getElem hil]; rfl
                    have hnot : (S.sl q).getD i 0 ∉ pre S q ++ (S.sl q).take i := by
                      have hnd := pre_nodup hO hql
                      have hsub : (pre S q ++ (S.sl q).take (i + 1)).Nodup := by
                        refine List.Sublist.nodup ?_ hnd
                        exact (List.Sublist.refl _).append (List.take_sublist _ _)
                      rw [htk, ← List.append_assoc] at hsub
                      have := (List.nodup_append.1 hsub).2.2
                      exact fun hm => this _ hm _ (by simp) rfl
                    generalize (S.sl q).getD i 0 = x at *
                    have hsr := hrow.cell hj7
                    rw [show decide (x ∈ pre S q ++ (S.sl q).take i) = false from by simpa using hnot] at hsr
                    have hfz := hrow.frozen x
                    have hfin : St w1 (wr.setCell ⟨SB, x, none⟩ (.bool true)) S F ∧ (wr.setCell ⟨SB, x, none⟩ (.bool true)).rowIs SB 4 7 (fun y => .bool (decide (y ∈ pre S q ++ (S.sl q).take (i + 1)))) ∧ Touch SB w4 (wr.setCell ⟨SB, x, none⟩ (.bool true)) :=
                      ⟨hS.setOut (a := ⟨SB, x, none⟩) hnF hbF _, (hrow.set x (.bool true)).congr (fun y _ => by
                        rw [htk, ← List.append_assoc]
                        by_cases e : y = x
                        · simp [e]
                        · simp [e]), htc.trans (Touch.setCell (a := ⟨SB, x, none⟩) _)⟩
                    have HFN := Lib.hid hfin
                    clear hfin htk hnot hmem hcl hS hrow htc e1 hI hO hnF hbF hR hg1 hg2
                    go_wp2
                    go_roundw
                    case rel => exact ⟨i + 1, by omega, by go_num, HFN.out⟩
                    case measure => simp [intOf]; omega
                  · have : i = (S.sl q).length := by omega
                    subst this
                    have hfin : St w1 wr S F ∧ wr.rowIs SB 4 7 (fun x => .bool (decide (x ∈ pre S (q + 1)))) := ⟨hR.out.1, by have := hR.out.2.1; rw [List.take_length, ← pre_succ] at this; exact this⟩
                    have HFN := Lib.hid hfin
                    have hpl2 : ((ic + (pre S q).length : Nat) : Int) + ((S.sl q).length : Int) = ((ic + (pre S (q + 1)).length : Nat) : Int) := by rw [pre_succ, List.length_append]; omega
                    have HPL := Lib.hid hpl2
                    clear hfin hpl2 hR
                    go_wp2
                    go_roundw
                    case rel => exact ⟨q + 1, by omega, by go_num, by rw [← HPL.out]; go_num, HFN.out⟩
                    case measure => simp [intOf]; omega
              · have : q = 3 := by omega
                subst this
                have hsum : ic + (pre S 3).length = 7 := by
                  have := HALL.out
                  rw [pre_three]; unfold Ps.all3; simp; omega
                rw [hsum]
                obtain ⟨e1, hI, hO, hnF, hbF⟩ := HC.out
                have HF := Lib.hid (show N2 w1 pb (m + 1 + 1) wr from ⟨S, F, hQ.out.1, e1, hI⟩)
                clear hQ e1 hI hO hnF hbF hsum
                go_wp2
                go_roundw
                case rel => (repeat apply Exists.intro); exact ⟨⟨m + 1, by omega, by go_num, HF.out⟩, rfl⟩
                case measure => simp [intOf]; omega
        · have HB := Lib.hid (by obtain ⟨S, F, hS, _⟩ := hM.out; exact HG1.out.then hS.below : Below w.heap.size w wr)
          by_cases hm0 : m < len0
          · have hm1 : m = 80 := by omega
            subst hm1
            clear hml
            go_wp2
            go_ret
            exact ⟨rfl, HB.out⟩
          · clear hml
            go_wp2
            go_ret
            exact ⟨rfl, HB.out⟩
end Go.Proofs.Ytkmnclcppalbbaa.regionCounts
