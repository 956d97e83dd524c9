/-
  RegionMany answers true, whatever it is asked, and turns nothing that was there: the walk.
-/
import Derived.Test.YtkmnclcppalbbaaRegFert
namespace Go.Proofs.Ytkmnclcppalbbaa.regionMany
open Go.RowKit

/-- What is told of a slice of integers that came in (as the shell of the proof has it). -/
def IsRow (k : IntKind) (w : World) (a : Option Addr) (len cap : Nat) (zs : List Int) : Prop :=
  (a = none ∧ len = 0 ∧ cap = 0 ∧ zs = []) ∨
  ∃ x, a = some x ∧ len ≤ cap ∧ cap ≤ maxLen ∧ zs.length = cap ∧ (∀ i, i < zs.length → w.cell? (x.add i) = some (.int k (zs.getD i 0))) ∧ ∀ n ∈ zs, (Lit.int k n).wf = true

/-- Each element, where it lies. -/
theorem IsRow.at {k : IntKind} {w : World} {a : Option Addr} {len cap : Nat} {zs : List Int} (h : IsRow k w a len cap zs) (hl : 0 < len) :
    ∃ b off, a = some ⟨b, off, none⟩ ∧ b < w.heap.size ∧ (∀ i, i < len → w.cell? ⟨b, off + i, none⟩ = some (.int k (zs.getD i 0))) ∧ ∀ i, i < len → (Lit.int k (zs.getD i 0)).wf = true := by
  rcases h with ⟨_, h0, _⟩ | ⟨x, rfl, h1, _, h3, h4, h5⟩
  · omega
  · have hc0 := h4 0 (by omega)
    have hx : x.add 0 = x := by simp [Addr.add]
    rw [hx] at hc0
    obtain ⟨b, off, spot⟩ := x
    have hsp : spot = none := by
      cases spot with
      | none => rfl
      | some s => simp [World.cell?] at hc0; split at hc0 <;> simp at hc0
    subst hsp
    refine ⟨b, off, rfl, World.block_lt_of_cell? w _ hc0, fun i hi => ?_, fun i hi => ?_⟩
    · have := h4 i (by omega)
      have hadd : (⟨b, off, none⟩ : Addr).add i = ⟨b, off + i, none⟩ := by unfold Addr.add; split <;> simp_all
      rw [hadd] at this; exact this
    · refine h5 _ ?_
      rw [List.getD_eq_getElem?_getD, List.getElem?_eq_getElem (by omega)]; simp

/-- The pool behind k times Make. -/
def M1 (w0 : World) (pb : Nat) (k : Nat) (wr : World) : Prop :=
  ∃ S F, St w0 wr S F ∧ S.pb = pb ∧ S.size = 64 ∧ S.n = 1 ∧ (∀ i, i < 256 → S.live i = decide (i < k)) ∧ (∀ i, i < 256 → S.gen i = if i < k then 1 else 0) ∧ (∀ k, F k → w0.heap.size ≤ k)

/-- The pool, and which regions are gone. -/
def M2 (w0 : World) (pb GB : Nat) (wr : World) : Prop :=
  ∃ (S : Ps) (F : Nat → Prop) (th : Nat → Bool), St w0 wr S F ∧ S.pb = pb ∧ S.size = 64 ∧ S.n = 1 ∧ wr.rowIs GB 4 256 (fun j => .bool (th j)) ∧ ¬ F GB ∧ w0.heap.size ≤ GB ∧ (∀ i, i < 256 → S.live i = !th i) ∧ (∀ i, i < 256 → S.gen i = 1)

/-- The regions that were gone, made anew below k. -/
def M3 (w0 : World) (pb GB : Nat) (th : Nat → Bool) (k : Nat) (wr : World) : Prop :=
  ∃ (S : Ps) (F : Nat → Prop), St w0 wr S F ∧ S.pb = pb ∧ S.size = 64 ∧ S.n = 1 ∧ wr.rowIs GB 4 256 (fun j => .bool (th j)) ∧ ¬ F GB ∧ w0.heap.size ≤ GB ∧ (∀ i, i < 256 → S.live i = (decide (i < k) || !th i)) ∧ (∀ i, i < 256 → S.gen i = if i < k ∧ th i = true then 2 else 1)

set_option maxRecDepth 100000 in
set_option maxHeartbeats 4000000 in
theorem walk (a0 : Option Addr) (len0 cap0 : Nat) (z0 : List Int) (w : World) (w0 : IsRow .i64 w a0 len0 cap0 z0) :
    Calls Try.prog 8 #[.slice a0 len0 cap0] w fun e w' => e = .returned (.bool true) ∧ Below w.heap.size w w' := by
  have hlen : len0 ≤ 9223372036854775807 := by
    rcases w0 with ⟨_, h, _⟩ | ⟨x, _, h1, h2, _⟩
    · omega
    · unfold maxLen at h2; omega
  have HW := Lib.hid w0
  clear w0
  go_enter Try.func8, Try.ntmps8
  go_wp2_with fail
  refine (fertile_any _).mono ?_
  rintro e w1 ⟨rfl, hg1⟩
  have HG1 := Lib.hid hg1
  have HN := Lib.hid (St.new w1 64 1 (by omega) (by omega) (by omega) (by omega) (by omega) (by omega))
  clear hg1
  go_wp2_with fail
  refine HN.out.mono ?_
  rintro e w2 ⟨pb, bb, tb, F0, rfl, hS0, hF0⟩
  have hM0 : M1 w1 pb 0 w2 := ⟨_, F0, hS0, rfl, rfl, rfl, fun i _ => by simp [Ps.new], fun i _ => by simp [Ps.new], hF0⟩
  have HM0 := Lib.hid hM0
  clear hS0 hF0 hM0
  go_wp2_with fail
  go_loopw [5, 6, 7] (fun i _ _ wr => ∃ k : Nat, k ≤ 256 ∧ i = .int .i64 k ∧ Hid (M1 w1 pb k wr)) (fun i _ _ _ => 256 - (intOf i).toNat)
  case atStart => exact ⟨0, Nat.zero_le _, rfl, HM0.out⟩
  case round =>
    obtain ⟨k, hk, rfl, hM⟩ := hrel
    by_cases hlt : k < 256
    · obtain ⟨S, F, hS, e1, e2, e3, e4, e5, e6⟩ := hM.out
      have hnx : S.next = some k := idleFrom_is hlt (by rw [e4 k hlt]; simp) (fun q hq => by rw [e4 q (by omega)]; simpa using hq)
      have hmk := hS.make (fun i hi => by rw [e5 i hi]; split <;> omega) hnx
      rw [e1] at hmk
      have hnext : ∀ w', St w1 w' (S.made k) F → M1 w1 pb (k + 1) w' := fun w' h => ⟨S.made k, F, h, e1, e2, e3, fun i hi => by
          simp only [Ps.made, e4 i hi]; split
          · rename_i e; subst e; simp
          · rw [decide_eq_decide]; omega, fun i hi => by
          simp only [Ps.made, e5 i hi, e5 k hlt]; split
          · rename_i e; subst e; simp
          · rename_i e; by_cases hh : i < k
            · rw [if_pos hh, if_pos (by omega)]
            · rw [if_neg hh, if_neg (by omega)], e6⟩
      have HMK := Lib.hid hmk
      have HNX := Lib.hid hnext
      have hq : ((k : Int) != (k : Int)) = false := by simp
      clear hmk hnext hS e1 e2 e3 e4 e5 e6 hnx hM
      go_wp2_with fail
      refine HMK.out.mono ?_
      rintro e w3 ⟨rfl, hS3, _⟩
      have H3 := Lib.hid (HNX.out w3 hS3)
      clear hS3
      go_wp2
      go_roundw
      case rel => exact ⟨k + 1, by omega, by go_num, H3.out⟩
      case measure => simp [intOf]; omega
    · have : k = 256 := by omega
      subst this
      obtain ⟨S, F, hS, e1, e2, e3, e4, e5, e6⟩ := hM.out
      have hnx : S.next = none := by
        cases hn : S.next with
        | none => rfl
        | some i => obtain ⟨hi, hl, _⟩ := S.next_some hn; rw [e4 i hi] at hl; simp at hl; omega
      have hmk := make_any hS.at_ (fun i hi => by rw [e5 i hi]; split <;> omega)
      have hmk2 : Calls Try.prog 11 #[.pointer (some ⟨pb, 0, none⟩)] wr fun e w' => e = .returned (.tuple #[.int .i64 0, .int .i64 5]) ∧ wr = w' := by
        rw [e1] at hmk
        refine hmk.mono ?_
        intro e w' hp
        unfold MakeP at hp; rw [hnx] at hp; exact hp
      have HMK := Lib.hid hmk2
      have hM2 : M2 w1 pb wr.heap.size (wr.alloc (.cells (madeCells #[.bool false] 256) 4)) :=
        ⟨S, F, fun _ => false, hS.alloc _, e1, e2, e3, World.rowIs_made wr (.bool false) 256 4, hS.at_.outNew, hS.mv.size, fun i hi => by rw [e4 i hi]; simp; omega, fun i hi => by rw [e5 i hi, if_pos (by omega)]⟩
      have HM2 := Lib.hid hM2
      have kmk : ∀ w, (Instr.makeSlice 71 (.int .i64 256) (.int .i64 256)).run Try.prog w = .ok (.slice (some ⟨w.heap.size, 0, none⟩) 256 256) (w.alloc (.cells (madeCells #[.bool false] 256) 4)) :=
        run_make_row' (P := Try.prog) 71 4 (.bool false) 1 Try.underlying71 (by kernel_rfl) rfl .i64 .i64 256 (by omega) (by omega)
      clear hmk hmk2 hnx hS e1 e2 e3 e4 e5 e6 hM hM2 HM0 HN
      go_wp2_with fail
      refine HMK.out.mono ?_
      rintro e w3 ⟨rfl, rfl⟩
      go_wp2_with fail
      generalize wr.heap.size = GB at *
      go_loopw [11, 12, 13] (fun c i _ wq => ∃ (n m : Nat), n ≤ m ∧ m ≤ 300 ∧ c = .int .i64 n ∧ i = .int .i64 m ∧ Hid (M2 w1 pb GB wq)) (fun _ i _ _ => 300 - (intOf i).toNat)
      case atStart => exact ⟨0, 0, Nat.le_refl _, by omega, rfl, rfl, HM2.out⟩
      case round =>
        obtain ⟨n, m, hnm, hm, rfl, rfl, hM⟩ := hrel
        clear HM2 HMK kmk
        by_cases hml : m < len0 ∧ m < 300
        · obtain ⟨hm1, hm2⟩ := hml
          obtain ⟨b, off, rfl, hb, hcells, hwf⟩ := HW.out.at (by omega)
          have hcm := hcells m hm1
          generalize z0.getD m 0 = x at *
          obtain ⟨S, F, th, hS, e1, e2, e3, hrow, hnF, hGB, e4, e5⟩ := hM.out
          have hbw : Below w.heap.size w wr := HG1.out.then hS.below
          have hcq : wr.cell? ⟨b, off + m, none⟩ = some (.int .i64 x) := (hbw.cell (p := ⟨b, off + m, none⟩) hb).trans hcm
          obtain ⟨k, hk, hkk⟩ : ∃ k : Nat, k < 256 ∧ wrap64 ((IntKind.u64.wrap x).tmod 256) = (k : Int) := by
            have h1 : 0 ≤ IntKind.u64.wrap x := by simp [IntKind.wrap, IntKind.bits, IntKind.signed]; omega
            rw [Int.tmod_eq_emod_of_nonneg h1]
            have h2 := Int.emod_nonneg (IntKind.u64.wrap x) (show (256 : Int) ≠ 0 by decide)
            have h3 := Int.emod_lt_of_pos (IntKind.u64.wrap x) (show (0 : Int) < 256 by decide)
            refine ⟨((IntKind.u64.wrap x) % 256).toNat, by omega, ?_⟩
            unfold wrap64; omega
          have hrk := hrow.cell hk
          have hrf := hrow.frozen k
          cases hth : th k
          · rw [hth] at hrk
            have hlv : S.live k = true := by rw [e4 k hk, hth]; rfl
            have hfr := hS.drew.free hk hlv
            rw [e1] at hfr
            have HFR := Lib.hid hfr
            have hr4 : ∀ w4, Moves F wr.drew F w4 → w4.rowIs GB 4 256 (fun j => .bool (th j)) := fun w4 h => hrow.of_block (h.block GB hrow.lt hnF)
            have HR4 := Lib.hid hr4
            have hc4 : ∀ w4, Moves F wr.drew F w4 → w4.cell? ⟨GB, k, none⟩ = some (.bool false) := fun w4 h => by rw [(hr4 w4 h).cell hk, hth]
            have HC4 := Lib.hid hc4
            have hz4 : ∀ w4, Moves F wr.drew F w4 → w4.frozen? ⟨GB, k, none⟩ = false := fun w4 h => (hr4 w4 h).frozen k
            have HZ4 := Lib.hid hz4
            have hfin : ∀ w4, St w1 w4 (S.freed k) F → Moves F wr.drew F w4 → M2 w1 pb GB (w4.setCell ⟨GB, k, none⟩ (.bool true)) := fun w4 h1 h2 =>
              ⟨S.freed k, F, fun j => if j = k then true else th j, h1.setOut (a := ⟨GB, k, none⟩) hnF hGB _, e1, e2, e3, ((hr4 w4 h2).set k (.bool true)).congr (fun j _ => by by_cases e : j = k <;> simp [e]), hnF, hGB,
               fun i hi => by by_cases e : i = k <;> simp [Ps.freed, e, e4 i hi], fun i hi => by simp [Ps.freed, e5 i hi]⟩
            have HFN := Lib.hid hfin
            clear hcells hwf hbw hfr hr4 hc4 hz4 hfin hS e1 e2 e3 e4 e5 hrow hnF hGB hth hlv hM
            go_wp2_with fail
            go_region_with (go_at_call 14; refine HFR.out.mono ?_; rintro e w4 ⟨rfl, hS4, hM4⟩; have hc4 := HC4.out w4 hM4; have hz4 := HZ4.out w4 hM4; have HF4 := Lib.hid (HFN.out w4 hS4 hM4); clear hS4 hM4)
            all_goals
              go_wp2
              go_roundw
              case rel => exact ⟨n + 1, m + 1, by omega, by omega, by go_num, by go_num, HF4.out⟩
              case measure => simp [intOf]; omega
          · rw [hth] at hrk
            have hlv : S.has k = false := by simp [Ps.has, e4 k hk, hth]
            have hfr := free_miss hS.drew.at_ k hlv
            rw [e1] at hfr
            have HFR := Lib.hid hfr
            have hfin : M2 w1 pb GB wr.drew := ⟨S, F, th, hS.drew, e1, e2, e3, hrow.drew, hnF, hGB, e4, e5⟩
            have HF4 := Lib.hid hfin
            clear hcells hwf hbw hfr hfin hS e1 e2 e3 e4 e5 hrow hnF hGB hth hlv hM
            go_wp2_with fail
            go_region_with (go_at_call 14; refine HFR.out.mono ?_; rintro e w4 ⟨rfl, rfl⟩)
            all_goals
              go_wp2
              go_roundw
              case rel => exact ⟨n, m + 1, by omega, by omega, rfl, by go_num, HF4.out⟩
              case measure => simp [intOf]; omega
        · obtain ⟨S, F, th, hS, e1, e2, e3, hrow, hnF, hGB, e4, e5⟩ := hM.out
          have hM3 : M3 w1 pb GB th 0 wr := ⟨S, F, hS, e1, e2, e3, hrow, hnF, hGB, fun i hi => by simp [e4 i hi], fun i hi => by simp [e5 i hi]⟩
          have HM3 := Lib.hid hM3
          have hend : ¬ ((m : Int) < (len0 : Int)) ∨ ¬ ((m : Int) < 300) := by omega
          clear hM hM3 hS e1 e2 e3 e4 e5 hrow hnF hGB hml
          have hwh : (decide ((m : Int) < (len0 : Int)) && decide ((m : Int) < 300)) = false := by
            rw [Bool.and_eq_false_iff]; simp only [decide_eq_false_iff_not]; exact hend
          by_cases hm0 : m < len0
          all_goals
            first
              | (have hm1 : m = 300 := by omega
                 subst hm1)
              | skip
            clear hend hwh
            go_wp2_with fail
            go_loopw [14, 15, 16, 17, 18] (fun i _ _ _ _ wq => ∃ k : Nat, k ≤ 256 ∧ i = .int .i64 k ∧ Hid (M3 w1 pb GB th k wq)) (fun i _ _ _ _ _ => 256 - (intOf i).toNat)
            case atStart => exact ⟨0, by omega, rfl, HM3.out⟩
            case round =>
              obtain ⟨k, hk, rfl, hM⟩ := hrel
              clear HM3
              by_cases hlt : k < 256
              · obtain ⟨S, F, hS, e1, e2, e3, hrow, hnF, hGB, e4, e5⟩ := hM.out
                have hrk := hrow.cell hlt
                cases hth : th k
                · rw [hth] at hrk
                  have hM4 : M3 w1 pb GB th (k + 1) wr := ⟨S, F, hS, e1, e2, e3, hrow, hnF, hGB, fun i hi => by
                      rw [e4 i hi]
                      by_cases e : i = k
                      · subst e; simp [hth]
                      · congr 1; rw [decide_eq_decide]; omega, fun i hi => by
                      rw [e5 i hi]
                      by_cases e : i = k
                      · subst e; simp [hth]
                      · by_cases h1 : i < k ∧ th i = true
                        · rw [if_pos h1, if_pos ⟨by omega, h1.2⟩]
                        · rw [if_neg h1, if_neg (fun h => h1 ⟨by omega, h.2⟩)]⟩
                  have HM4 := Lib.hid hM4
                  clear hM4 hS e1 e2 e3 e4 e5 hrow hnF hGB hth hM
                  go_wp2
                  go_roundw
                  case rel => exact ⟨k + 1, by omega, by go_num, HM4.out⟩
                  case measure => simp [intOf]; omega
                · rw [hth] at hrk
                  have hnx : S.next = some k := idleFrom_is hlt (by rw [e4 k hlt, hth]; simp) (fun q hq => by rw [e4 q (by omega)]; simp [hq])
                  have hmk := hS.make (fun i hi => by rw [e5 i hi]; split <;> omega) hnx
                  rw [e1] at hmk
                  have HMK := Lib.hid hmk
                  have hg1 : (S.made k).gen k = 2 := by simp [Ps.made, e5 k hlt]
                  have hl1 : (S.made k).live k = true := by simp [Ps.made]
                  have hs1 : (S.made k).sl k = [] := by simp [Ps.made]
                  have hnext : ∀ (S' : Ps) (F' : Nat → Prop) w', St w1 w' S' F' → (∀ i, S'.live i = (S.made k).live i) → (∀ i, S'.gen i = (S.made k).gen i) → S'.pb = S.pb → S'.size = S.size → S'.n = S.n → w'.rowIs GB 4 256 (fun j => .bool (th j)) → ¬ F' GB → M3 w1 pb GB th (k + 1) w' :=
                    fun S' F' w' h1 h2 h3 h4 h5 h6 h7 h8 => ⟨S', F', h1, h4.trans e1, h5.trans e2, h6.trans e3, h7, h8, hGB, fun i hi => by
                      rw [h2 i]
                      by_cases e : i = k
                      · subst e; simp [Ps.made]
                      · simp only [Ps.made, if_neg e, e4 i hi]; congr 1; rw [decide_eq_decide]; omega, fun i hi => by
                      rw [h3 i]
                      by_cases e : i = k
                      · subst e; rw [if_pos ⟨by omega, hth⟩]; exact hg1
                      · simp only [Ps.made, if_neg e, e5 i hi]
                        by_cases h1 : i < k ∧ th i = true
                        · rw [if_pos h1, if_pos ⟨by omega, h1.2⟩]
                        · rw [if_neg h1, if_neg (fun h => h1 ⟨by omega, h.2⟩)]⟩
                  have HNX := Lib.hid hnext
                  have HE := Lib.hid (And.intro e1 (And.intro e2 (And.intro hrow (And.intro hnF (And.intro hg1 (And.intro hl1 hs1))))))
                  have hkk : ((k : Int) != (k : Int)) = false := by simp
                  clear hnext hmk hnx hS e1 e2 e3 e4 e5 hrow hnF hGB hth hM hg1 hl1 hs1
                  go_wp2_with fail
                  refine HMK.out.mono ?_
                  rintro e w3 ⟨rfl, hS3, hM3⟩
                  obtain ⟨e1, e2, hrow, hnF, hg1, hl1, hs1⟩ := HE.out
                  have hrow3 := hrow.of_block (hM3.block GB hrow.lt hnF)
                  have hfit : (S.made k).fits k 1 1 = false := by simp [Ps.fits, hs1]
                  have hsz : 1 ≤ (S.made k).size := by have := hS3.ok.s1; omega
                  cases hid : (S.made k).idle with
                  | none =>
                    have hal := alloc_full hS3.at_ hS3.ok (i := k) (n := 1) (al := 1) hlt hl1 (by omega) hsz rfl hfit hid
                    have hal2 : Calls Try.prog 20 #[.pointer (some ⟨pb, 0, none⟩), .int .i64 k, .int .i64 1, .int .i64 1] w3 fun e w' => e = .returned (.tuple #[zeroH, .int .i64 5]) ∧ Grew w3 w' := by rw [← e1]; exact hal
                    have HAL := Lib.hid hal2
                    have hnx2 : ∀ w', Grew w3 w' → M3 w1 pb GB th (k + 1) (w'.alloc (.cells #[.int .i64 0, .int .i64 0, .int .i64 0, .int .i64 0] 41)) := fun w' hg =>
                      HNX.out (S.made k) F _ ((hS3.grew hg).alloc _) (fun _ => rfl) (fun _ => rfl) rfl rfl rfl ((hrow3.of_block (hg.block GB hrow3.lt)).alloc _) hnF
                    have HN2 := Lib.hid hnx2
                    clear hal hal2 hnx2 hS3 hM3 e1 e2 hrow hrow3 hnF hg1 hl1 hs1 hfit hsz hid HMK HE
                    go_wp2_with fail
                    refine HAL.out.mono ?_
                    rintro e w4 ⟨rfl, hg4⟩
                    have H4 := Lib.hid (HN2.out w4 hg4)
                    clear hg4
                    go_wp2
                    go_roundw
                    case rel => exact ⟨k + 1, by omega, by go_num, H4.out⟩
                    case measure => simp [intOf]; omega
                  | some j =>
                    have hal := hS3.allocNew (i := k) (n := 1) (al := 1) hlt hl1 (by omega) hsz rfl hfit hid
                    rw [hg1, hs1] at hal
                    have hal2 : Calls Try.prog 20 #[.pointer (some ⟨pb, 0, none⟩), .int .i64 k, .int .i64 1, .int .i64 1] w3 fun e w' => e = .returned (.tuple #[Hv k 2 0 1, .int .i64 0]) ∧ M3 w1 pb GB th (k + 1) (w'.alloc (.cells #[.int .i64 k, .int .i64 2, .int .i64 0, .int .i64 1] 41)) := by
                      rw [show (S.made k).pb = pb from e1] at hal
                      refine hal.mono ?_
                      rintro e w' ⟨rfl, v, F', hS4, hM4⟩
                      refine ⟨by simp, HNX.out _ F' _ (hS4.alloc _) (fun _ => rfl) (fun _ => rfl) rfl rfl rfl ((hrow3.of_block (hM4.block GB hrow3.lt hnF)).alloc _) (hM4.out hrow3.lt hnF)⟩
                    have HAL := Lib.hid hal2
                    clear hal hal2 hS3 hM3 e1 e2 hrow hrow3 hnF hg1 hl1 hs1 hfit hsz hid HMK HE
                    go_wp2_with fail
                    refine HAL.out.mono ?_
                    rintro e w4 ⟨rfl, h4⟩
                    have H4 := Lib.hid h4
                    clear h4
                    go_wp2
                    go_roundw
                    case rel => exact ⟨k + 1, by omega, by go_num, H4.out⟩
                    case measure => simp [intOf]; omega
              · have : k = 256 := by omega
                subst this
                obtain ⟨S, F, hS, e1, e2, e3, hrow, hnF, hGB, e4, e5⟩ := hM.out
                have hnx : S.next = none := by
                  cases hn : S.next with
                  | none => rfl
                  | some i => obtain ⟨hi, hl, _⟩ := S.next_some hn; rw [e4 i hi] at hl; simp at hl; omega
                have hmk := make_any hS.at_ (fun i hi => by rw [e5 i hi]; split <;> omega)
                have hmk2 : Calls Try.prog 11 #[.pointer (some ⟨pb, 0, none⟩)] wr fun e w' => e = .returned (.tuple #[.int .i64 0, .int .i64 5]) ∧ wr = w' := by
                  rw [e1] at hmk
                  refine hmk.mono ?_
                  intro e w' hp
                  unfold MakeP at hp; rw [hnx] at hp; exact hp
                have HMK := Lib.hid hmk2
                have HB := Lib.hid (HG1.out.then hS.below)
                clear hmk hmk2 hnx hS e1 e2 e3 e4 e5 hrow hnF hGB hM
                go_wp2_with fail
                refine HMK.out.mono ?_
                rintro e w3 ⟨rfl, rfl⟩
                go_wp2
                go_ret
                exact ⟨by simp, HB.out⟩
end Go.Proofs.Ytkmnclcppalbbaa.regionMany
