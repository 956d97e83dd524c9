/-
  RegionStale answers true, whatever it is asked, and turns nothing that was there: the walk.
-/
import Derived.Test.YtkmnclcppalbbaaRegStaleB
namespace Go.Proofs.Ytkmnclcppalbbaa.regionStale
open Go.RowKit

theorem rl0 {w : World} {LB : Nat} {H : Nat → Hd} (h : w.rowIs LB 41 16 (fun c => (H (c / 4)).cell (c % 4))) {k : Nat} (hk : k < 4) : w.cell? ⟨LB, k * 4, none⟩ = some (.int .i64 (H k).r) := by
  rw [h.cell (by omega)]; simp [Hd.cell]
theorem rl1 {w : World} {LB : Nat} {H : Nat → Hd} (h : w.rowIs LB 41 16 (fun c => (H (c / 4)).cell (c % 4))) {k : Nat} (hk : k < 4) : w.cell? ⟨LB, k * 4 + 1, none⟩ = some (.int .i64 (H k).g) := by
  rw [h.cell (by omega), show (k * 4 + 1) / 4 = k from by omega, show (k * 4 + 1) % 4 = 1 from by omega]; simp [Hd.cell]
theorem rl2 {w : World} {LB : Nat} {H : Nat → Hd} (h : w.rowIs LB 41 16 (fun c => (H (c / 4)).cell (c % 4))) {k : Nat} (hk : k < 4) : w.cell? ⟨LB, k * 4 + 2, none⟩ = some (.int .i64 (H k).o) := by
  rw [h.cell (by omega), show (k * 4 + 2) / 4 = k from by omega, show (k * 4 + 2) % 4 = 2 from by omega]; simp [Hd.cell]
theorem rl3 {w : World} {LB : Nat} {H : Nat → Hd} (h : w.rowIs LB 41 16 (fun c => (H (c / 4)).cell (c % 4))) {k : Nat} (hk : k < 4) : w.cell? ⟨LB, k * 4 + 3, none⟩ = some (.int .i64 (H k).l) := by
  rw [h.cell (by omega), show (k * 4 + 3) / 4 = k from by omega, show (k * 4 + 3) % 4 = 3 from by omega]; simp [Hd.cell]

set_option maxRecDepth 100000 in
set_option maxHeartbeats 4000000 in
theorem walk (a0 : Option Addr) (len0 cap0 : Nat) (z0 : List Int) (w : World) (w0 : IsRow .i64 w a0 len0 cap0 z0) :
    Calls Try.prog 5 #[.slice a0 len0 cap0] w fun e w' => e = .returned (.bool true) ∧ Below w.heap.size w w' := by
  obtain ⟨i0, hi0, hz0, hz1, hz2⟩ := info_parts Try.info41
  have hlen : len0 ≤ 9223372036854775807 := by
    rcases w0 with ⟨_, h, _⟩ | ⟨x, _, h1, h2, _⟩
    · omega
    · unfold maxLen at h2; omega
  have HW := Lib.hid w0
  clear w0
  go_enter Try.func5, Try.ntmps5
  go_wp2_with fail
  refine (fertile_any _).mono ?_
  rintro e w1 ⟨rfl, hg1⟩
  have HG1 := Lib.hid hg1
  have HN := Lib.hid (St.new w1 64 8 (by omega) (by omega) (by omega) (by omega) (by omega) (by omega))
  clear hg1
  go_wp2_with fail
  refine HN.out.mono ?_
  rintro e w2 ⟨pb, bb, tb, F0, rfl, hS0, hF0⟩
  have HS0 := Lib.hid hS0
  have kmk : ∀ w, (Instr.makeSlice 71 (.int .i64 4) (.int .i64 4)).run Try.prog w = .ok (.slice (some ⟨w.heap.size, 0, none⟩) 4 4) (w.alloc (.cells (madeCells #[.bool false] 4) 4)) :=
    run_make_row' (P := Try.prog) 71 4 (.bool false) 1 Try.underlying71 (by kernel_rfl) rfl .i64 .i64 4 (by omega) (by omega)
  have kmh : ∀ w, (Instr.makeSlice 37 (.int .i64 4) (.int .i64 4)).run Try.prog w = .ok (.slice (some ⟨w.heap.size, 0, none⟩) 4 4) (w.alloc (.cells (madeCells #[.int .i64 0] 16) 41)) := fun _ => by kernel_rfl
  clear hS0 hF0 HN
  go_wp2_with fail
  have HI0 := Lib.hid (SInv.start HS0.out)
  generalize (w2.alloc (.cells (madeCells #[.int .i64 0] 16) 41)).alloc (.cells (madeCells #[.bool false] 4) 4) = W0 at *
  generalize w2.heap.size + 1 = TB at *
  generalize w2.heap.size = LB at *
  clear kmk kmh
  go_loopw [7, 8] (fun dv i wq => ∃ m : Nat, m ≤ 120 ∧ i = .int .i64 m ∧ ∃ S F H th D, Hid (SInv w1 wq pb LB TB dv m S F H th D)) (fun _ i _ => 120 - (intOf i).toNat)
  case atStart => exact ⟨0, by omega, rfl, _, _, _, _, _, HI0.out⟩
  case round =>
    obtain ⟨m, hm, rfl, S, F, H, th, D, hI⟩ := hrel
    clear HI0
    by_cases hml : m < len0 ∧ m < 120
    · obtain ⟨hm1, hm2⟩ := hml
      obtain ⟨b, off, rfl, hb, hcells, hwf⟩ := IsRow.at HW.out (by omega)
      have hcm := hcells m hm1
      generalize z0.getD m 0 = x at *
      have hbw : Below w.heap.size w wr := HG1.out.then hI.out.st.below
      have hcq : wr.cell? ⟨b, off + m, none⟩ = some (.int .i64 x) := (hbw.cell (p := ⟨b, off + m, none⟩) hb).trans hcm
      obtain ⟨k, hk, hkk⟩ : ∃ k : Nat, k < 4 ∧ wrap64 ((IntKind.u64.wrap x).tmod 4) = (k : Int) := by
        have h1 : 0 ≤ IntKind.u64.wrap x := by simp [IntKind.wrap, IntKind.bits, IntKind.signed]; omega
        rw [Int.tmod_eq_emod_of_nonneg h1]
        have h2 := Int.emod_nonneg (IntKind.u64.wrap x) (show (4 : Int) ≠ 0 by decide)
        have h3 := Int.emod_lt_of_pos (IntKind.u64.wrap x) (show (0 : Int) < 4 by decide)
        refine ⟨((IntKind.u64.wrap x) % 4).toNat, by omega, ?_⟩
        unfold wrap64; omega
      have hrk := hI.out.rt.cell hk
      clear hcells hwf hbw hcm
      cases hth : th k
      case' true =>
        rw [hth] at hrk
        have l0 := rl0 hI.out.rl hk
        have hgk := hI.out.pv.a1 k hk hth
        have hfr := hI.out.st.free hgk.r hgk.lv
        rw [hI.out.pb] at hfr
        have HFR := Lib.hid hfr
        have HTH := Lib.hid hth
        have hdl := hI.out.pv.a7
        clear hfr hth hgk
        go_wp2_with fail
        refine HFR.out.mono ?_
        rintro e w3 ⟨rfl, hS3, hM3⟩
        have hl3 : w3.rowIs LB 41 16 (fun c => (H (c / 4)).cell (c % 4)) := hI.out.rl.of_block (hM3.block _ hI.out.rl.lt hI.out.nl)
        have ht3 : w3.rowIs TB 4 4 (fun c => .bool (th c)) := hI.out.rt.of_block (hM3.block _ hI.out.rt.lt hI.out.nt)
        have q0 := rl0 hl3 hk
        have q1 := rl1 hl3 hk
        have q2 := rl2 hl3 hk
        have q3 := rl3 hl3 hk
        have t3 := ht3.cell hk
        have z3 := ht3.frozen k
        have hne := hI.out.ne
        have hne2 := hI.out.ne.symm
        have hm2 := free_miss hS3.at_ ((H k).r : Int) (by simp [Ps.has, Ps.freed])
        rw [show (S.freed (H k).r).pb = pb from hI.out.pb] at hm2
        have HM2 := Lib.hid hm2
        have HS3 := Lib.hid hS3
        have HM3 := Lib.hid hM3
        clear hm2 hS3 hM3 hl3 ht3 hrk l0 HFR
        go_wp2_with fail
        refine HM2.out.mono ?_
        rintro e w4 ⟨rfl, rfl⟩
        go_wp2_with (at_builtin; refine wpList_append_lies _ rfl _ _ 37 rfl w1.heap.size 41 i0 (.agg #[.int .i64 0, .int .i64 0, .int .i64 0, .int .i64 0]) 4 32 Try.underlying37 hi0 hz0 hz1 hz2 rfl (by decide) u7 D.length (D.flatMap Hd.cells) rfl ?c0 ⟨w3.heap.size, 0, none⟩ 1 1 (H k).cells rfl ?c1 ?c2 ?c3 ?c4 ?c5 ?c6 ?c7 (w3.heap.size + 1) ?c8 ?_)
        case c0 => exact ((ownsRow_block hI.out.rd (fun g hg => (Below.heap_setCell _ _ _ _ (hI.out.nd g hg).2.2).trans (HM3.out.block g (hI.out.rd.lt g hg).2 (hI.out.nd g hg).1)))).alloc _
        case c1 => rfl
        case c2 => exact World.news_of_block (w := (w3.setCell ⟨TB, k, none⟩ (.bool false)).alloc (.cells #[.int .i64 (H k).r, .int .i64 (H k).g, .int .i64 (H k).o, .int .i64 (H k).l] 41)) (by rw [show w3.heap.size = (w3.setCell ⟨TB, k, none⟩ (.bool false)).heap.size from by simp [World.setCell]]; exact heap_alloc_new _ _)
        case c3 => intro u hu; simp [Hd.cells] at hu; rcases hu with rfl | rfl | rfl | rfl <;> rfl
        case c4 => decide
        case c5 => unfold maxLen; omega
        case c6 => omega
        case c7 => have := hI.out.st.mv.size; have := HM3.out.size; simp [World.setCell]; omega
        case c8 => simp [World.setCell]
        intro g cap w5 hown hgr hg hlt
        have HJ0 := Lib.hid (hI.out.freed hk HTH.out HS3.out HM3.out hown hgr hg)
        clear hown hgr hg hlt HS3 HM3 HM2 q0 q1 q2 q3 t3 z3 hne hne2 hI
        go_wp2_with fail
        refine wp_gen (fun W => SInv w1 W pb LB TB (.slice (some ⟨g, 0, none⟩) (D.length + 1) cap) (m + 1) (S.freed (H k).r) F H (fun q => if q = k then false else th q) (D ++ [H k])) HJ0.out ?_
        intro W hJ0
        obtain ⟨S', F', H', th', D', hJ⟩ : ∃ S' F' H' th' D', Hid (SInv w1 W pb LB TB (.slice (some ⟨g, 0, none⟩) (D.length + 1) cap) (m + 1) S' F' H' th' D') := ⟨_, _, _, _, _, hJ0⟩
        clear hJ0 HJ0
        generalize Value.slice (some ⟨g, 0, none⟩) (D.length + 1) cap = dv at *
      case' false =>
        rw [hth] at hrk
        obtain ⟨r, hr⟩ := hI.out.pv.next
        have hmk := hI.out.st.make (fun i hi => by have := hI.out.pv.a6 i hi; omega) hr
        rw [hI.out.pb] at hmk
        have HMK := Lib.hid hmk
        have HTH := Lib.hid hth
        have HR := Lib.hid hr
        clear hmk hth hr
        go_wp2_with fail
        refine HMK.out.mono ?_
        rintro e w3 ⟨rfl, hS3, hM3⟩
        obtain ⟨j, hj⟩ := hI.out.pv.idle hI.out.st.ok
        obtain ⟨hr1, hr2, _⟩ := S.next_some HR.out
        have hal := hS3.allocNew (i := r) (n := 1 + m % 64) (al := 1) (j := j) hr1 (by simp [Ps.made]) (by omega) (by show _ ≤ S.size; rw [hI.out.pv.sz]; omega) rfl (by simp [Ps.fits, Ps.made]) hj
        rw [show (S.made r).pb = pb from hI.out.pb, show (S.made r).gen r = S.gen r + 1 from by simp [Ps.made], show (S.made r).sl r = [] from by simp [Ps.made]] at hal
        have hal2 : Calls Try.prog 20 #[.pointer (some ⟨pb, 0, none⟩), .int .i64 r, .int .i64 (1 + (m : Int) % 64), .int .i64 1] w3 fun e w' => e = .returned (.tuple #[Hv r (S.gen r + 1 : Nat) 0 (1 + m % 64 : Nat), .int .i64 0]) ∧ ∃ v F', St w1 w' (((S.made r).handed r j v).filled r (1 + m % 64)) F' ∧ Moves F w3 F' w' := by
          have e : ((1 + m % 64 : Nat) : Int) = 1 + (m : Int) % 64 := by omega
          rw [← e]
          refine hal.mono ?_
          rintro e w' ⟨rfl, v, F', h1, h2⟩
          simp only [List.length_nil, Nat.zero_mul, Nat.zero_add] at h1
          exact ⟨by simp, v, F', h1, h2⟩
        have HAL := Lib.hid hal2
        have HM3 := Lib.hid hM3
        have HJI := Lib.hid hj
        have hgb : S.gen r ≤ 120 := by have := hI.out.pv.a6 r hr1; omega
        clear hal hal2 hM3 hS3 hj hr2 HMK hrk
        generalize hgg : S.gen r + 1 = gg at *
        have hgb2 : gg ≤ 121 := by omega
        have HGG := Lib.hid hgg
        clear hgg hgb
        generalize hn : 1 + m % 64 = n at *
        have hn1 : 1 ≤ n := by omega
        have hn2 : n ≤ 64 := by omega
        have HNN := Lib.hid hn
        clear hn
        go_wp2_with fail
        refine HAL.out.mono ?_
        rintro e w4 ⟨rfl, v, F4, hS4, hM4⟩
        have hst := (((hS4.alloc (.cells #[.int .i64 r, .int .i64 gg, .int .i64 0, .int .i64 n] 41)).alloc (.cells #[.int .u8 k] 5))).store (i := r) (o := 0) (l := n) (at_ := 0) (v := .slice (some ⟨w4.heap.size + 1, 0, none⟩) 1 1) (bs := [k]) hr1 (by simp [Ps.filled, Ps.handed, Ps.made]) hn1 (by simp [Ps.filled]) (by show _ ≤ S.size; rw [hI.out.pv.sz]; simp; exact hn2)
          (ReadsB.one w k _ _ _ (by rw [show w4.heap.size + 1 = (w4.alloc (.cells #[.int .i64 r, .int .i64 gg, .int .i64 0, .int .i64 n] 41)).heap.size from by simp]; exact heap_alloc_new _ _)) (by simp; omega) (by simp; exact hn1)
        rw [show (((S.made r).handed r j v).filled r n).pb = pb from hI.out.pb, show (((S.made r).handed r j v).filled r n).gen r = gg from by rw [← HGG.out]; simp [Ps.filled, Ps.handed, Ps.made],
          show (((S.made r).handed r j v).filled r n).addr r 0 + 0 = j * 64 from by simp [Ps.addr, Ps.filled, Ps.handed, Ps.made, hI.out.pv.sz]] at hst
        have HST : Hid (Calls Try.prog 26 #[.pointer (some ⟨pb, 0, none⟩), Hv r gg 0 n, .int .i64 0, .slice (some ⟨w4.heap.size + 1, 0, none⟩) 1 1] ((w4.alloc (.cells #[.int .i64 r, .int .i64 gg, .int .i64 0, .int .i64 n] 41)).alloc (.cells #[.int .u8 k] 5)) _) := hst
        have HM4 := Lib.hid (HM3.out.trans hM4)
        have hA4 := (HAt.new w4 r gg 0 n).alloc (.cells #[.int .u8 k] 5)
        have HA4 := Lib.hid hA4
        have HNA := Lib.hid hS4.at_.outNew
        clear hst hM4 hS4 hA4 HAL HM3
        go_wp2_with fail
        refine HST.out.mono ?_
        rintro e w5 ⟨rfl, hS5, hM5⟩
        have hM5' := (HM4.out.trans ((Moves.alloc F4 w4 _).trans (Moves.alloc F4 _ _))).trans hM5
        have hA5 := HA4.out.moves hM5 HNA.out
        have hl5 : w5.rowIs LB 41 16 (fun c => (H (c / 4)).cell (c % 4)) := hI.out.rl.of_block (hM5'.block _ hI.out.rl.lt hI.out.nl)
        have ht5 : w5.rowIs TB 4 4 (fun c => .bool (th c)) := hI.out.rt.of_block (hM5'.block _ hI.out.rt.lt hI.out.nt)
        have b0 := hA5.c0
        have b1 := hA5.c1
        have b2 := hA5.c2
        have b3 := hA5.c3
        have q0 := rl0 hl5 hk
        have q1 := rl1 hl5 hk
        have q2 := rl2 hl5 hk
        have q3 := rl3 hl5 hk
        have y0 := hl5.frozen (k * 4)
        have y1 := hl5.frozen (k * 4 + 1)
        have y2 := hl5.frozen (k * 4 + 2)
        have y3 := hl5.frozen (k * 4 + 3)
        have t5 := ht5.cell hk
        have z5 := ht5.frozen k
        have hne := hI.out.ne
        have hne2 := hI.out.ne.symm
        have hfin := hI.out.made hk HTH.out HR.out HJI.out hn1 hn2 hS5 hM5'
        rw [HGG.out] at hfin
        have HFN := Lib.hid hfin
        clear hM5' hA5 hl5 ht5 hS5 hM5 hfin HST HM4 HA4 HNA hI
        go_wp2_with fail
        refine wp_gen (fun W => ∃ S' F' H' th' D', Hid (SInv w1 W pb LB TB u7 (m + 1) S' F' H' th' D')) ⟨_, _, _, _, _, HFN.out⟩ ?_
        rintro W ⟨S', F', H', th', D', hJ⟩
        generalize u7 = dv at *
        clear b0 b1 b2 b3 q0 q1 q2 q3 y0 y1 y2 y3 t5 z5 hne hne2 HFN
      all_goals
        obtain ⟨da, dcap, hdv⟩ : ∃ a c, dv = .slice a D'.length c := by
          rcases hJ.out.rd.2 with ⟨e, h0⟩ | ⟨g, cap, cur, hv, _⟩
          · exact ⟨none, 0, by rw [e, h0]⟩
          · exact ⟨_, cap, hv⟩
        subst hdv
        have hDl : D'.length ≤ 121 := by have := hJ.out.pv.a7; omega
        go_loopw [14] (fun q wq => ∃ i : Nat, i ≤ D'.length ∧ q = .int .i64 i ∧ Hid (SInv w1 wq pb LB TB (.slice da D'.length dcap) (m + 1) S' F' H' th' D')) (fun q _ => D'.length - (intOf q).toNat)
        case atStart => exact ⟨0, by omega, rfl, hJ.out⟩
        case round =>
          obtain ⟨q, hq, rfl, hL⟩ := hrel
          clear hJ
          by_cases hql : q < D'.length
          · obtain ⟨g, cap, cur, hv, hgb, _⟩ : ∃ g cap cur, Value.slice da D'.length dcap = .slice (some ⟨g, 0, none⟩) D'.length cap ∧ w1.heap.size ≤ g ∧ wr.heap[g]? = some (.cells cur 41 (0, 0)) := by
              rcases hL.out.rd.2 with ⟨e, h0⟩ | ⟨g, cap, cur, hv, hb', hh, _⟩
              · omega
              · exact ⟨g, cap, cur, hv, hb', hh⟩
            injection hv with hda _ hdc
            subst hda hdc
            have hst := hL.out.pv.a3 (D'.getD q ⟨0, 0, 0, 0⟩) (by rw [List.getD_eq_getElem?_getD, List.getElem?_eq_getElem hql]; simp)
            have hc : ∀ wx, SInv w1 wx pb LB TB (.slice (some ⟨g, 0, none⟩) D'.length dcap) (m + 1) S' F' H' th' D' → ∀ c, c < 4 → wx.cell? ⟨g, q * 4 + c, none⟩ = some ((D'.getD q ⟨0, 0, 0, 0⟩).cell c) := fun wx hx c hc4 => by
              have h1 := World.ownsRow.cells hx.rd (g := g) rfl (q * 4 + c) _ (flat_get D' q c hc4 hql)
              have hadd : (⟨g, 0, none⟩ : Addr).add (q * 4 + c) = ⟨g, q * 4 + c, none⟩ := by unfold Addr.add; split <;> simp_all
              rw [hadd] at h1; exact h1
            generalize D'.getD q ⟨0, 0, 0, 0⟩ = hd at *
            have d0 : wr.cell? ⟨g, q * 4, none⟩ = some (.int .i64 hd.r) := hc wr hL.out 0 (by omega)
            have d1 : wr.cell? ⟨g, q * 4 + 1, none⟩ = some (.int .i64 hd.g) := hc wr hL.out 1 (by omega)
            have d2 : wr.cell? ⟨g, q * 4 + 2, none⟩ = some (.int .i64 hd.o) := hc wr hL.out 2 (by omega)
            have d3 : wr.cell? ⟨g, q * 4 + 3, none⟩ = some (.int .i64 hd.l) := hc wr hL.out 3 (by omega)
            have hld := load_err hL.out.st.at_ hL.out.st.ok hd.r hd.g hd.o hd.l 3 (by have := hst.l; omega) hst.perr (by omega)
            rw [hL.out.pb] at hld
            have HLD := Lib.hid hld
            have HC := Lib.hid hc
            have HSTA := Lib.hid hst
            clear hld hc hst
            go_wp2_with fail
            refine HLD.out.mono ?_
            rintro e w6 ⟨rfl, hg6⟩
            have hL6 := hL.out.grew hg6
            have f0 : w6.cell? ⟨g, q * 4, none⟩ = some (.int .i64 hd.r) := HC.out w6 hL6 0 (by omega)
            have f1 : w6.cell? ⟨g, q * 4 + 1, none⟩ = some (.int .i64 hd.g) := HC.out w6 hL6 1 (by omega)
            have f2 : w6.cell? ⟨g, q * 4 + 2, none⟩ = some (.int .i64 hd.o) := HC.out w6 hL6 2 (by omega)
            have f3 : w6.cell? ⟨g, q * 4 + 3, none⟩ = some (.int .i64 hd.l) := HC.out w6 hL6 3 (by omega)
            have hse := store_err hL6.st.at_ hL6.st.ok hd.r hd.g hd.o hd.l 3 0 (.slice none 0 0) (by have := HSTA.out.l; omega) HSTA.out.perr (by omega)
            rw [hL6.pb] at hse
            have HSE := Lib.hid hse
            have HL6 := Lib.hid hL6
            clear hse hL6 hg6 d0 d1 d2 d3 HLD
            go_wp2_with fail
            refine HSE.out.mono ?_
            rintro e w7 ⟨rfl, hg7⟩
            have HL7 := Lib.hid (HL6.out.grew hg7)
            clear hg7 f0 f1 f2 f3 HSE
            go_wp2
            go_roundw
            case rel => exact ⟨q + 1, by omega, by go_num, HL7.out⟩
            case measure => simp [intOf]; omega
          · have : q = D'.length := by omega
            subst this
            go_wp2_with fail
            go_loopw [17] (fun q wq => ∃ i : Nat, i ≤ 4 ∧ q = .int .i64 i ∧ Hid (SInv w1 wq pb LB TB (.slice da D'.length dcap) (m + 1) S' F' H' th' D')) (fun q _ => 4 - (intOf q).toNat)
            case atStart => exact ⟨0, by omega, rfl, hL.out⟩
            case round =>
              obtain ⟨q, hq, rfl, hL2⟩ := hrel
              clear hL
              by_cases hql : q < 4
              · have c0 := rl0 hL2.out.rl hql
                have c1 := rl1 hL2.out.rl hql
                have c2 := rl2 hL2.out.rl hql
                have c3 := rl3 hL2.out.rl hql
                cases hthq : th' q
                · have hst := hL2.out.pv.a2 q hql hthq
                  have hld := load_err hL2.out.st.at_ hL2.out.st.ok (H' q).r (H' q).g (H' q).o (H' q).l 3 (by have := hst.l; omega) hst.perr (by omega)
                  rw [hL2.out.pb] at hld
                  have HLD := Lib.hid hld
                  have HTQ := Lib.hid hthq
                  clear hld hst hthq
                  go_wp2_with fail
                  refine HLD.out.mono ?_
                  rintro e w6 ⟨rfl, hg6⟩
                  have hL6 := hL2.out.grew hg6
                  have t6 := hL6.rt.cell hql
                  rw [HTQ.out] at t6
                  have HL6 := Lib.hid hL6
                  clear hL6 hg6 c0 c1 c2 c3 HLD
                  go_wp2
                  go_roundw
                  case rel => exact ⟨q + 1, by omega, by go_num, HL6.out⟩
                  case measure => simp [intOf]; omega
                · have hgd := hL2.out.pv.a1 q hql hthq
                  obtain ⟨jj, hs1, hs2⟩ := hgd.s
                  have hld := load_ok hL2.out.st.at_ hL2.out.st.ok (i := (H' q).r) (o := (H' q).o) (l := (H' q).l) hgd.r hgd.lv hgd.l1 (by rw [hgd.o, hgd.f]; omega) (by rw [hgd.o, hL2.out.pv.sz]; simp; exact hgd.l2)
                  rw [hL2.out.pb, hgd.g] at hld
                  have hfirst : (u8s (S'.bytesAt (S'.addr (H' q).r (H' q).o) (H' q).l))[0]? = some (.int .u8 q) := by
                    have hl1 := hgd.l1
                    rw [u8s, Ps.bytesAt, List.getElem?_map, List.getElem?_map, List.getElem?_range (by omega)]
                    have ha : S'.addr (H' q).r (H' q).o + 0 = jj * 64 := by simp [Ps.addr, hgd.o, hs1, hL2.out.pv.sz]
                    simp only [Option.map_some]
                    rw [ha, hs2]
                  have hblen : (u8s (S'.bytesAt (S'.addr (H' q).r (H' q).o) (H' q).l)).length = (H' q).l := by simp [u8s, Ps.bytesAt]
                  generalize u8s (S'.bytesAt (S'.addr (H' q).r (H' q).o) (H' q).l) = bs at *
                  have hl1 := hgd.l1
                  have hl2 := hgd.l2
                  have HLD := Lib.hid hld
                  have HTQ := Lib.hid hthq
                  have HFI := Lib.hid hfirst
                  have HBL := Lib.hid hblen
                  clear hld hgd hthq hfirst hblen hs1 hs2
                  go_wp2_with fail
                  refine HLD.out.mono ?_
                  rintro e w6 ⟨vv, rfl, hfr⟩
                  obtain ⟨g6, cap6, hvv, hg0, hg1, hown, hgr⟩ := hfr
                  rw [HBL.out] at hvv
                  subst hvv
                  have hcell : w6.cell? ⟨g6, 0, none⟩ = some (.int .u8 q) := by
                    have := World.ownsRow.cells hown (g := g6) rfl 0 (.int .u8 q) HFI.out
                    simpa [Addr.add] using this
                  have hL6 := hL2.out.grew hgr
                  have t6 := hL6.rt.cell hql
                  rw [HTQ.out] at t6
                  have HL6 := Lib.hid hL6
                  have hqq : ((q : Int) != (q : Int)) = false := by simp
                  clear hL6 hgr hown hg0 hg1 c0 c1 c2 c3 HLD
                  go_wp2
                  go_roundw
                  case rel => exact ⟨q + 1, by omega, by go_num, HL6.out⟩
                  case measure => simp [intOf]; omega
              · have : q = 4 := by omega
                subst this
                go_wp2
                go_roundw
                case rel => exact ⟨m + 1, by omega, by go_num, _, _, _, _, _, hL2.out⟩
                case measure => simp [intOf]; omega
    · have HB := Lib.hid (HG1.out.then hI.out.st.below)
      by_cases hm0 : m < len0
      · have hm1 : m = 120 := by omega
        subst hm1
        clear hml
        go_wp2
        go_ret
        exact ⟨rfl, HB.out⟩
      · clear hml
        go_wp2
        go_ret
        exact ⟨rfl, HB.out⟩
end Go.Proofs.Ytkmnclcppalbbaa.regionStale
