/-
  'fertile' of the laws of package region: it answers true, and turns nothing that was there.
-/
import Derived.Test.YtaaalfimlpeddaaRegSt
namespace Go.Proofs.Ytaaalfimlpeddaa
open Go.RowKit

set_option maxRecDepth 100000 in
set_option maxHeartbeats 4000000 in
theorem fertile_any (w : World) : Calls Try.prog 8 #[] w fun e w' => e = .returned (.bool true) ∧ Grew w w' := by
  have HN := Lib.hid (St.new w 64 2 (by omega) (by omega) (by omega) (by omega) (by omega) (by omega))
  go_enter Try.func8, Try.ntmps8
  go_wp2_with fail
  refine HN.out.mono ?_
  rintro e w1 ⟨pb, bb, tb, F0, rfl, hS0, _⟩
  have hnx : (Ps.new 64 2 pb bb tb).next = some 0 := idleFrom_is (by omega) rfl (fun q hq => by omega)
  have hmk := hS0.make (fun i _ => by simp [Ps.new]) hnx
  generalize hS1d : (Ps.new 64 2 pb bb tb).made 0 = S1 at hmk
  have q1 : S1.pb = pb := by rw [← hS1d]; rfl
  have q2 : S1.live 0 = true := by rw [← hS1d]; simp [Ps.made]
  have q3 : S1.size = 64 := by rw [← hS1d]; rfl
  have q4 : S1.gen 0 = 1 := by rw [← hS1d]; simp [Ps.made, Ps.new]
  have q5 : S1.sl 0 = [] := by rw [← hS1d]; simp [Ps.made]
  have q7 : S1.idle = some 0 := by rw [← hS1d]; exact idleFrom_is (show 0 < 2 by omega) rfl (fun q hq => by omega)
  have q8 : ∀ k, k < 256 → S1.gen k ≤ 1 := fun k _ => by rw [← hS1d]; simp [Ps.made, Ps.new]; split <;> omega
  have HQ := Lib.hid (And.intro q1 (And.intro q2 (And.intro q3 (And.intro q4 (And.intro q5 (And.intro q7 q8))))))
  have HMK := Lib.hid hmk
  clear hmk q1 q2 q3 q4 q5 q7 q8 hS1d hnx hS0
  go_wp2_with fail
  refine HMK.out.mono ?_
  rintro e w2 ⟨rfl, hS1, _⟩
  obtain ⟨rfl, q2, q3, q4, q5, q7, q8⟩ := HQ.out
  have hal := hS1.allocNew (i := 0) (n := 10) (al := 1) (by omega) q2 (by omega) (by omega) rfl (by simp [Ps.fits, q5]) q7
  rw [q4, q5] at hal
  have HAL : Hid (Calls Try.prog 16 #[.pointer (some ⟨S1.pb, 0, none⟩), .int .i64 0, .int .i64 10, .int .i64 1] w2 _) := hal
  clear hal hS1 q2 q3 q4 q5 q7 q8 HMK
  go_wp2_with fail
  refine HAL.out.mono ?_
  rintro e w3 ⟨rfl, v, F1, hS2, _⟩
  obtain ⟨_, q2, q3, q4, q5, q7, q8⟩ := HQ.out
  simp only [List.length_nil, Nat.zero_mul, Nat.zero_add] at hS2
  generalize hS2d : (S1.handed 0 0 v).filled 0 10 = S2 at hS2
  have r1 : S2.pb = S1.pb := by rw [← hS2d]; rfl
  have r2 : S2.live 0 = true := by rw [← hS2d]; exact q2
  have r3 : S2.size = 64 := by rw [← hS2d]; exact q3
  have r4 : S2.gen 0 = 1 := by rw [← hS2d]; exact q4
  have r5 : S2.sl 0 = [0] := by rw [← hS2d]; simp [Ps.filled, Ps.handed, q5]
  have r6 : S2.fill 0 = 10 := by rw [← hS2d]; simp [Ps.filled]
  have r8 : ∀ k, k < 256 → S2.gen k ≤ 1 := fun k hk => by rw [← hS2d]; exact q8 k hk
  have hS2' := hS2.alloc (.cells #[.int .i64 0, .int .i64 1, .int .i64 0, .int .i64 10] 41)
  have hA := HAt.new w3 0 1 0 10
  have hAF := hS2.at_.outNew
  have hal := hS2'.allocFit (i := 0) (n := 8) (al := 8) (by omega) r2 (by omega) (by omega) rfl (by simp [Ps.fits, Ps.from, upTo, r5, r6, r3])
  rw [r4, show S2.from 0 8 = 16 from by simp [Ps.from, upTo, r6, r3], r1] at hal
  have HAL2 : Hid (Calls Try.prog 16 #[.pointer (some ⟨S1.pb, 0, none⟩), .int .i64 0, .int .i64 8, .int .i64 8] (w3.alloc (.cells #[.int .i64 0, .int .i64 1, .int .i64 0, .int .i64 10] 41)) _) := hal
  have HR := Lib.hid (And.intro hA (And.intro hAF (And.intro r1 (And.intro r2 (And.intro r3 (And.intro r4 (And.intro r5 (And.intro r6 r8))))))))
  clear hA hAF hal hS2 hS2' q2 q3 q4 q5 q7 q8 HAL r1 r2 r3 r4 r5 r6 r8 hS2d HQ
  go_wp2_with fail
  refine HAL2.out.mono ?_
  rintro e w4 ⟨rfl, hS3, hM4⟩
  obtain ⟨hA, hAF, r1, r2, r3, r4, r5, r6, r8⟩ := HR.out
  generalize hS3d : S2.filled 0 (16 + 8) = S3 at hS3
  have hA4 := hA.moves hM4 hAF
  have hAF4 := hM4.out hA.lt hAF
  have a0 := hA4.c0
  have a1 := hA4.c1
  have a2 := hA4.c2
  have a3 := hA4.c3
  have alt := hA4.lt
  have s1 : S3.pb = S1.pb := by rw [← hS3d]; exact r1
  have s2 : S3.live 0 = true := by rw [← hS3d]; exact r2
  have s3 : S3.size = 64 := by rw [← hS3d]; exact r3
  have s4 : S3.gen 0 = 1 := by rw [← hS3d]; exact r4
  have s5 : S3.sl 0 = [0] := by rw [← hS3d]; exact r5
  have s6 : S3.fill 0 = 24 := by rw [← hS3d]; simp [Ps.filled]
  have s8 : ∀ k, k < 256 → S3.gen k ≤ 1 := fun k hk => by rw [← hS3d]; exact r8 k hk
  have hS3' := (hS3.alloc (.cells #[.int .i64 0, .int .i64 1, .int .i64 16, .int .i64 8] 41)).alloc (.cells #[.int .u8 9] 5)
  have hst := hS3'.store (i := 0) (o := 0) (l := 10) (at_ := 0) (v := .slice (some ⟨w4.heap.size + 1, 0, none⟩) 1 1) (bs := [9]) (by omega) s2 (by omega) (by omega) (by rw [s3]; omega)
    (ReadsB.one w 9 _ _ _ (by rw [show w4.heap.size + 1 = (w4.alloc (.cells #[.int .i64 0, .int .i64 1, .int .i64 16, .int .i64 8] 41)).heap.size from by simp]; exact heap_alloc_new _ _)) (by simp) (by simp)
  rw [s4, s1] at hst
  have HST : Hid (Calls Try.prog 22 #[.pointer (some ⟨S1.pb, 0, none⟩), Hv 0 1 0 10, .int .i64 0, .slice (some ⟨w4.heap.size + 1, 0, none⟩) 1 1] ((w4.alloc (.cells #[.int .i64 0, .int .i64 1, .int .i64 16, .int .i64 8] 41)).alloc (.cells #[.int .u8 9] 5)) _) := hst
  have HS := Lib.hid (And.intro hA4 (And.intro hAF4 (And.intro s1 (And.intro s2 (And.intro s3 (And.intro s5 (And.intro s4 s8)))))))
  clear hA hAF r1 r2 r3 r4 r5 r6 r8 hS3 hM4 hA4 hAF4 hS3' hst s1 s2 s3 s4 s5 s6 s8 hS3d HAL2 HR
  go_wp2_with fail
  refine HST.out.mono ?_
  rintro e w5 ⟨rfl, hS4, hM5⟩
  obtain ⟨hA4, hAF4, s1, s2, s3, s5, s4, s8⟩ := HS.out
  generalize hS4d : S3.stored (S3.addr 0 0 + 0) [9] = S4 at hS4
  have t1 : S4.pb = S1.pb := by rw [← hS4d]; exact s1
  have t2 : S4.live 0 = true := by rw [← hS4d]; exact s2
  have t3 : S4.size = 64 := by rw [← hS4d]; exact s3
  have t5 : S4.sl 0 = [0] := by rw [← hS4d]; exact s5
  have t8 : ∀ k, k < 256 → S4.gen k ≤ 1 := fun k hk => by rw [← hS4d]; exact s8 k hk
  have t9 : S4.gen 0 = 1 := by rw [← hS4d]; exact s4
  have hA5 := ((hA4.alloc _).alloc _).moves hM5 hAF4
  have hAF5 := hM5.out ((hA4.alloc _).alloc _).lt hAF4
  have hfr := hS4.free (i := 0) (by omega) t2
  rw [t1] at hfr
  have HFR : Hid (Calls Try.prog 10 #[.pointer (some ⟨S1.pb, 0, none⟩), .int .i64 0] w5 _) := hfr
  have HT := Lib.hid (And.intro hA5 (And.intro hAF5 (And.intro t1 (And.intro t2 (And.intro t3 (And.intro t5 (And.intro t9 t8)))))))
  clear hA4 hAF4 s1 s2 s3 s4 s5 s8 hS4 hM5 hS4d hA5 hAF5 hfr t1 t2 t3 t5 t8 t9 HST HS
  go_wp2_with fail
  refine HFR.out.mono ?_
  rintro e w6 ⟨rfl, hS5, hM6⟩
  obtain ⟨hA5, hAF5, t1, t2, t3, t5, t9, t8⟩ := HT.out
  generalize hS5d : S4.freed 0 = S5 at hS5
  have u1 : S5.pb = S1.pb := by rw [← hS5d]; exact t1
  have u2 : S5.next = some 0 := idleFrom_is (by omega) (by rw [← hS5d]; simp [Ps.freed]) (fun q hq => by omega)
  have u3 : S5.size = 64 := by rw [← hS5d]; exact t3
  have u8 : ∀ k, k < 256 → S5.gen k ≤ 1 := fun k hk => by rw [← hS5d]; exact t8 k hk
  have u5 : S5.tk 0 = false := by rw [← hS5d]; simp [Ps.freed, t5]
  have u9 : S5.gen 0 = 1 := by rw [← hS5d]; exact t9
  have u10 : 0 < S5.n := hS5.ok.s4
  have hA6 := hA5.moves hM6 hAF5
  have hAF6 := hM6.out hA5.lt hAF5
  have hmk := hS5.make (fun k hk => by have := u8 k hk; omega) u2
  rw [u1] at hmk
  have HMK := Lib.hid hmk
  have HU := Lib.hid (And.intro hA6 (And.intro hAF6 (And.intro u1 (And.intro u3 (And.intro u5 (And.intro u9 (And.intro u10 u8)))))))
  clear hA5 hAF5 t1 t2 t3 t5 t8 t9 hS5 hM6 hS5d hA6 hAF6 hmk u1 u2 u3 u5 u8 u9 u10 HFR HT
  go_wp2_with fail
  refine HMK.out.mono ?_
  rintro e w7 ⟨rfl, hS6, hM7⟩
  obtain ⟨hA6, hAF6, u1, u3, u5, u9, u10, u8⟩ := HU.out
  generalize hS6d : S5.made 0 = S6 at hS6
  have x1 : S6.pb = S1.pb := by rw [← hS6d]; exact u1
  have x2 : S6.live 0 = true := by rw [← hS6d]; simp [Ps.made]
  have x3 : S6.size = 64 := by rw [← hS6d]; exact u3
  have x4 : S6.gen 0 = 2 := by rw [← hS6d]; simp [Ps.made, u9]
  have x5 : S6.sl 0 = [] := by rw [← hS6d]; simp [Ps.made]
  have x6 : S6.idle = some 0 := idleFrom_is (by rw [← hS6d]; exact u10) (by rw [← hS6d]; exact u5) (fun q hq => by omega)
  have hA7 := hA6.moves hM7 hAF6
  have hAF7 := hM7.out hA6.lt hAF6
  have hal := hS6.allocNew (i := 0) (n := 1) (al := 1) (by omega) x2 (by omega) (by omega) rfl (by simp [Ps.fits, x5]) x6
  rw [x4, x5, x1] at hal
  have HAL : Hid (Calls Try.prog 16 #[.pointer (some ⟨S1.pb, 0, none⟩), .int .i64 0, .int .i64 1, .int .i64 1] w7 _) := hal
  have HX := Lib.hid (And.intro hA7 (And.intro hAF7 (And.intro x1 (And.intro x2 (And.intro x3 (And.intro x4 x5))))))
  clear hA6 hAF6 u1 u3 u5 u8 u9 u10 hS6 hM7 hS6d hA7 hAF7 hal x1 x2 x3 x4 x5 x6 HMK HU
  go_wp2_with fail
  refine HAL.out.mono ?_
  rintro e w8 ⟨rfl, v8, F8, hS7, hM8⟩
  obtain ⟨hA7, hAF7, x1, x2, x3, x4, x5⟩ := HX.out
  simp only [List.length_nil, Nat.zero_mul, Nat.zero_add] at hS7
  generalize hS7d : (S6.handed 0 0 v8).filled 0 1 = S7 at hS7
  have y1 : S7.pb = S1.pb := by rw [← hS7d]; exact x1
  have y2 : S7.live 0 = true := by rw [← hS7d]; exact x2
  have y3 : S7.size = 64 := by rw [← hS7d]; exact x3
  have y4 : S7.gen 0 = 2 := by rw [← hS7d]; exact x4
  have y5 : S7.sl 0 = [0] := by rw [← hS7d]; simp [Ps.filled, Ps.handed, x5]
  have y6 : S7.fill 0 = 1 := by rw [← hS7d]; simp [Ps.filled]
  have y7 : S7.bt 0 = 0 := by rw [← hS7d]; simp [Ps.filled, Ps.handed, x3]
  have hA8 := hA7.moves hM8 hAF7
  have a0 := hA8.c0
  have a1 := hA8.c1
  have a2 := hA8.c2
  have a3 := hA8.c3
  have alt := hA8.lt
  have hS7' := hS7.alloc (.cells #[.int .i64 0, .int .i64 2, .int .i64 0, .int .i64 1] 41)
  have hld := load_err hS7'.at_ hS7'.ok 0 1 0 10 3 (by omega) (by
    have : S7.has 0 = true := has_of (i := 0) (by omega) y2
    simp [Ps.perr, this, y4]) (by omega)
  rw [y1] at hld
  have HLD := Lib.hid hld
  have hC := HAt.new w8 0 2 0 1
  have HY := Lib.hid (And.intro hS7' (And.intro hC (And.intro y1 (And.intro y2 (And.intro y3 (And.intro y4 (And.intro y5 (And.intro y6 y7))))))))
  clear hA7 hAF7 x1 x2 x3 x4 x5 hS7 hM8 hS7d hA8 hS7' hld hC y1 y2 y3 y4 y5 y6 y7 HAL HX
  go_wp2_with fail
  refine HLD.out.mono ?_
  rintro e w9 ⟨rfl, hg9⟩
  obtain ⟨hS7', hC, y1, y2, y3, y4, y5, y6, y7⟩ := HY.out
  have hS9 := hS7'.grew hg9
  have hC9 := hC.grew hg9
  have b0 := hC9.c0
  have b1 := hC9.c1
  have b2 := hC9.c2
  have b3 := hC9.c3
  have hld := load_ok hS9.at_ hS9.ok (i := 0) (o := 0) (l := 1) (by omega) y2 (by omega) (by omega) (by rw [y3]; omega)
  have hby : u8s (S7.bytesAt (S7.addr 0 0) 1) = [.int .u8 0] := by
    simp [u8s, Ps.bytesAt, Ps.addr, y5, y7, List.range_succ]
  rw [y1, y4, hby] at hld
  have HL2 : Hid (Calls Try.prog 20 #[.pointer (some ⟨S1.pb, 0, none⟩), Hv 0 2 0 1] w9 _) := hld
  have HZ := Lib.hid (And.intro hS9 hC9)
  clear hS7' hC y1 y2 y3 y4 y5 y6 y7 hS9 hC9 hld hby hg9 HLD HY a0 a1 a2 a3 alt
  go_wp2_with fail
  refine HL2.out.mono ?_
  rintro e w10 ⟨vv, rfl, hfr⟩
  obtain ⟨hS9, hC9⟩ := HZ.out
  obtain ⟨g, cap, rfl, hg0, hg1, hown, hgr⟩ := hfr
  have hcell : w10.cell? ⟨g, 0, none⟩ = some (.int .u8 0) := by
    have := World.ownsRow.cells hown (g := g) rfl 0 (.int .u8 0) rfl
    simpa [Addr.add] using this
  have hC10 := hC9.grew hgr
  have d1 := hC10.c1
  have HE := Lib.hid (hS9.below.then hgr)
  clear hS9 hC9 hown hgr hC10 HL2 HZ b0 b1 b2 b3
  go_wp2
  go_ret
  exact ⟨by simp, HE.out⟩
end Go.Proofs.Ytaaalfimlpeddaa
