/-
  What Alloc of package region does, said of a pool that lies in memory.
-/
import Derived.Test.YtaaalfimlpeddaaRegW11
namespace Go.Proofs.Ytaaalfimlpeddaa
open Go.RowKit

abbrev zeroH : Value := Hv 0 0 0 0

set_option maxRecDepth 100000 in
set_option maxHeartbeats 400000 in
theorem alloc_miss {w : World} {S : Ps} {F : Nat → Prop} (hS : PoolAt w S F) (r n al : Int) (hr : S.has r = false) :
    Calls Try.prog 16 #[.pointer (some ⟨S.pb, 0, none⟩), .int .i64 r, .int .i64 n, .int .i64 al] w fun e w' => e = .returned (.tuple #[zeroH, .int .i64 7]) ∧ Grew w w' := by
  have hf := find_any (hS.alloc (.cells #[.int .i64 0, .int .i64 0, .int .i64 0, .int .i64 0] 41)) r
  rw [hr] at hf
  have HF := Lib.hid hf
  clear hf hS hr
  go_enter Try.func16, Try.ntmps16
  go_wp2_with fail
  refine HF.out.mono ?_
  rintro e w1 ⟨rfl, rfl⟩
  go_wp2
  exact bodyPost_ret (v := .tuple #[zeroH, .int .i64 7]) (by simp [results, Try.results16, go_sem]) rfl ⟨rfl, Grew.alloc _ _⟩

set_option maxRecDepth 100000 in
set_option maxHeartbeats 1600000 in
theorem alloc_arg {w : World} {S : Ps} {F : Nat → Prop} (hS : PoolAt w S F) (i : Nat) (n al : Int) (hi : i < 256) (hlv : S.live i = true) (hb : n < 1 ∨ (S.size : Int) < n ∨ alB al = false) :
    Calls Try.prog 16 #[.pointer (some ⟨S.pb, 0, none⟩), .int .i64 i, .int .i64 n, .int .i64 al] w fun e w' => e = .returned (.tuple #[zeroH, .int .i64 1]) ∧ Grew w w' := by
  have hf := find_in (hS.alloc (.cells #[.int .i64 0, .int .i64 0, .int .i64 0, .int .i64 0] 41)) hi
  rw [hlv] at hf
  have HF := Lib.hid hf
  have c0 := hS.c0
  have hlt : S.pb < w.heap.size := hS.fl _ hS.fp
  clear hf hS hlv
  by_cases h1 : n < 1
  · clear hb
    go_enter Try.func16, Try.ntmps16
    go_wp2_with fail
    refine HF.out.mono ?_
    rintro e w1 ⟨rfl, rfl⟩
    go_wp2
    exact bodyPost_ret (v := .tuple #[zeroH, .int .i64 1]) (by simp [results, Try.results16, go_sem]) rfl ⟨rfl, Grew.alloc _ _⟩
  · by_cases h2 : (S.size : Int) < n
    · clear hb
      go_enter Try.func16, Try.ntmps16
      go_wp2_with fail
      refine HF.out.mono ?_
      rintro e w1 ⟨rfl, rfl⟩
      go_wp2
      exact bodyPost_ret (v := .tuple #[zeroH, .int .i64 1]) (by simp [results, Try.results16, go_sem]) rfl ⟨rfl, Grew.alloc _ _⟩
    · have hal : alB al = false := by rcases hb with h | h | h; · omega
                                      · omega
                                      · exact h
      have hia := isAlign_any al (w.alloc (.cells #[.int .i64 0, .int .i64 0, .int .i64 0, .int .i64 0] 41))
      rw [hal] at hia
      have HI := Lib.hid hia
      clear hb hal hia
      go_enter Try.func16, Try.ntmps16
      go_wp2_with fail
      refine HF.out.mono ?_
      rintro e w1 ⟨rfl, rfl⟩
      go_wp2_with fail
      refine HI.out.mono ?_
      rintro e w1 ⟨rfl, rfl⟩
      go_wp2
      exact bodyPost_ret (v := .tuple #[zeroH, .int .i64 1]) (by simp [results, Try.results16, go_sem]) rfl ⟨rfl, Grew.alloc _ _⟩

theorem alB_le {al : Int} (h : alB al = true) : 1 ≤ al ∧ al ≤ 64 := by
  by_cases h1 : al < 1 ∨ 64 < al
  · rw [alB_out al h1] at h; cases h
  · omega

theorem Moves.setNew {F F' : Nat → Prop} {w w' : World} (h : Moves F w F' w') {a : Addr} (ha : w.heap.size ≤ a.block) (v : Value) : Moves F w F' (w'.setCell a v) :=
  ⟨h.os, h.tape, h.output, by simpa [World.setCell] using h.size, fun k hk hf => (Below.heap_setCell _ _ _ _ (by omega)).trans (h.block k hk hf), h.foot⟩

/-- The block that Alloc's result lies in. -/
structure ResAt (w : World) (B : Nat) : Prop where
  c0 : w.cell? ⟨B, 0, none⟩ = some (.int .i64 0)
  c1 : w.cell? ⟨B, 1, none⟩ = some (.int .i64 0)
  c2 : w.cell? ⟨B, 2, none⟩ = some (.int .i64 0)
  c3 : w.cell? ⟨B, 3, none⟩ = some (.int .i64 0)
  z : ∀ o, w.frozen? ⟨B, o, none⟩ = false
theorem ResAt.new (w : World) : ResAt (w.alloc (.cells #[.int .i64 0, .int .i64 0, .int .i64 0, .int .i64 0] 41)) w.heap.size :=
  ⟨by simp, by simp, by simp, by simp, fun o => by simp⟩
theorem ResAt.block {w w' : World} {B : Nat} (h : ResAt w B) (hb : w'.heap[B]? = w.heap[B]?) : ResAt w' B :=
  ⟨by rw [World.cell?_of_block (w := w) hb]; exact h.c0, by rw [World.cell?_of_block (w := w) hb]; exact h.c1, by rw [World.cell?_of_block (w := w) hb]; exact h.c2, by rw [World.cell?_of_block (w := w) hb]; exact h.c3,
   fun o => by rw [World.frozen?_of_block (w := w) hb]; exact h.z o⟩

def Ps.filled (S : Ps) (i n : Nat) : Ps := { S with fill := fun k => if k = i then n else S.fill k }

set_option maxRecDepth 100000 in
set_option maxHeartbeats 1600000 in
theorem alloc_fit {w : World} {S : Ps} {F : Nat → Prop} (hS : PoolAt w S F) (hO : S.Ok) {i n : Nat} {al : Nat} (hi : i < 256) (hlv : S.live i = true) (h1 : 1 ≤ n) (h2 : n ≤ S.size) (hal : alB al = true) (hfit : S.fits i n al = true) :
    Calls Try.prog 16 #[.pointer (some ⟨S.pb, 0, none⟩), .int .i64 i, .int .i64 n, .int .i64 al] w fun e w' =>
      e = .returned (.tuple #[Hv i (S.gen i) (S.from i al) n, .int .i64 0]) ∧ PoolAt w' (S.filled i (S.from i al + n)) F ∧ Moves F w F w' := by
  have hA := hS.alloc (.cells #[.int .i64 0, .int .i64 0, .int .i64 0, .int .i64 0] 41)
  have hf := find_in hA hi
  rw [hlv] at hf
  have HF := Lib.hid hf
  have hia := isAlign_any al (w.alloc (.cells #[.int .i64 0, .int .i64 0, .int .i64 0, .int .i64 0] 41))
  rw [hal] at hia
  have HI := Lib.hid hia
  have hb := alB_le hal
  have hpl := place_any hA (i := i) (n := n) (al := al) hi hO.s1 hO.s2 h2 (by omega) (by omega) (hO.fillLe hi) (hO.lenSize hi)
  rw [hfit] at hpl
  have HPL := Lib.hid hpl
  have c0 := hS.c0
  have hlt : S.pb < w.heap.size := hS.fl _ hS.fp
  have hfr : S.from i al ≤ 4300000 := by
    have a1 := hO.fillLe hi
    have a2 := upTo_le (S.fill i % S.size) al
    have a3 := Nat.mod_lt (S.fill i) (show 0 < S.size by have := hO.s1; omega)
    have a4 := hO.s2
    unfold Ps.from
    omega
  have hs2 := hO.s2
  have HS := Lib.hid hS
  have hnF : ¬ F w.heap.size := fun h => by have := hS.fl _ h; omega
  have HNF := Lib.hid hnF
  clear hf hia hpl hlv hfit hA hS hO hal hnF
  go_enter Try.func16, Try.ntmps16
  go_wp2_with fail
  refine HF.out.mono ?_
  rintro e w1 ⟨rfl, rfl⟩
  go_wp2_with fail
  refine HI.out.mono ?_
  rintro e w1 ⟨rfl, rfl⟩
  go_wp2_with fail
  refine HPL.out.mono ?_
  rintro e W ⟨rfl, k, hk⟩
  have hSW : PoolAt W S F := by rw [hk]; exact (HS.out.alloc _).drewN _
  have hRW : ResAt W w.heap.size := by rw [hk]; exact (ResAt.new w).block rfl
  have HG := Lib.hid (show Grew w W by rw [hk]; exact (Grew.alloc _ _).drewN _)
  have HSW := Lib.hid hSW
  have cg := hSW.cg hi
  have cf := hSW.cf hi
  have zf := hSW.hP.frozen (3 + i * 4 + 3)
  have r0 := hRW.c0
  have r1 := hRW.c1
  have r2 := hRW.c2
  have r3 := hRW.c3
  have z0 := hRW.z 0
  have z1 := hRW.z 1
  have z2 := hRW.z 2
  have z3 := hRW.z 3
  have hne : S.pb ≠ w.heap.size := by omega
  have hne2 : w.heap.size ≠ S.pb := by omega
  generalize hfm : S.from i al = fm at *
  have HFM := Lib.hid hfm
  clear hk hSW hRW hfm HPL HI HF
  go_wp2
  have hp := HSW.out.setFill i (fm + n)
  push_cast at hp
  refine bodyPost_ret (v := .tuple #[Hv i (S.gen i) fm n, .int .i64 0]) (by simp [results, Try.results16, go_sem, r0, r1, r2, r3]) rfl ⟨by rw [HFM.out], ?_, ?_⟩
  · rw [HFM.out]; exact (((hp.setOut (a := ⟨w.heap.size, 0, none⟩) HNF.out _).setOut (a := ⟨w.heap.size, 1, none⟩) HNF.out _).setOut (a := ⟨w.heap.size, 2, none⟩) HNF.out _).setOut (a := ⟨w.heap.size, 3, none⟩) HNF.out _
  · exact ((((HG.out.moves.trans (Moves.setCell W (a := ⟨S.pb, 3 + i * 4 + 3, none⟩) HS.out.fp _)).setNew (a := ⟨w.heap.size, 0, none⟩) (Nat.le_refl _) _).setNew (a := ⟨w.heap.size, 1, none⟩) (Nat.le_refl _) _).setNew (a := ⟨w.heap.size, 2, none⟩) (Nat.le_refl _) _).setNew (a := ⟨w.heap.size, 3, none⟩) (Nat.le_refl _) _

set_option maxRecDepth 100000 in
set_option maxHeartbeats 1600000 in
theorem alloc_full {w : World} {S : Ps} {F : Nat → Prop} (hS : PoolAt w S F) (hO : S.Ok) {i n : Nat} {al : Nat} (hi : i < 256) (hlv : S.live i = true) (h1 : 1 ≤ n) (h2 : n ≤ S.size) (hal : alB al = true) (hfit : S.fits i n al = false) (hid : S.idle = none) :
    Calls Try.prog 16 #[.pointer (some ⟨S.pb, 0, none⟩), .int .i64 i, .int .i64 n, .int .i64 al] w fun e w' =>
      e = .returned (.tuple #[zeroH, .int .i64 5]) ∧ Grew w w' := by
  have hA := hS.alloc (.cells #[.int .i64 0, .int .i64 0, .int .i64 0, .int .i64 0] 41)
  have hf := find_in hA hi
  rw [hlv] at hf
  have HF := Lib.hid hf
  have hia := isAlign_any al (w.alloc (.cells #[.int .i64 0, .int .i64 0, .int .i64 0, .int .i64 0] 41))
  rw [hal] at hia
  have HI := Lib.hid hia
  have hb := alB_le hal
  have hpl := place_any hA (i := i) (n := n) (al := al) hi hO.s1 hO.s2 h2 (by omega) (by omega) (hO.fillLe hi) (hO.lenSize hi)
  rw [hfit] at hpl
  have HPL := Lib.hid hpl
  have c0 := hS.c0
  have hlt : S.pb < w.heap.size := hS.fl _ hS.fp
  have hn5 := hO.s5
  have HS := Lib.hid hS
  have HID := Lib.hid hid
  clear hf hia hpl hlv hfit hA hS hO hal hid
  go_enter Try.func16, Try.ntmps16
  go_wp2_with fail
  refine HF.out.mono ?_
  rintro e w1 ⟨rfl, rfl⟩
  go_wp2_with fail
  refine HI.out.mono ?_
  rintro e w1 ⟨rfl, rfl⟩
  go_wp2_with fail
  refine HPL.out.mono ?_
  rintro e W ⟨rfl, k, hk⟩
  have hSW : PoolAt W S F := by rw [hk]; exact (HS.out.alloc _).drewN _
  have hRW : ResAt W w.heap.size := by rw [hk]; exact (ResAt.new w).block rfl
  have HG := Lib.hid (show Grew w W by rw [hk]; exact (Grew.alloc _ _).drewN _)
  have hli := leastIdle_any hSW hn5
  rw [HID.out] at hli
  simp only [idleV] at hli
  have HLI := Lib.hid hli
  have r0 := hRW.c0
  have r1 := hRW.c1
  have r2 := hRW.c2
  have r3 := hRW.c3
  have z0 := hRW.z 0
  have z1 := hRW.z 1
  have z2 := hRW.z 2
  have z3 := hRW.z 3
  generalize hfm : S.from i al = fm at *
  clear hk hSW hRW hfm HPL HI HF hli
  go_wp2_with fail
  refine HLI.out.mono ?_
  rintro e w1 ⟨rfl, rfl⟩
  go_wp2
  refine bodyPost_ret (v := .tuple #[zeroH, .int .i64 5]) (by simp [results, Try.results16, go_sem, r0, r1, r2, r3]) rfl ⟨rfl, ?_⟩
  exact ((((HG.out.setCell (p := ⟨w.heap.size, 0, none⟩) (Nat.le_refl _) _).setCell (p := ⟨w.heap.size, 1, none⟩) (Nat.le_refl _) _).setCell (p := ⟨w.heap.size, 2, none⟩) (Nat.le_refl _) _).setCell (p := ⟨w.heap.size, 3, none⟩) (Nat.le_refl _) _)

set_option maxRecDepth 100000 in
set_option maxHeartbeats 1600000 in
theorem alloc_new {w : World} {S : Ps} {F : Nat → Prop} (hS : PoolAt w S F) (hO : S.Ok) {i n : Nat} {al : Nat} (hi : i < 256) (hlv : S.live i = true) (h1 : 1 ≤ n) (h2 : n ≤ S.size) (hal : alB al = true) (hfit : S.fits i n al = false) {j : Nat} (hid : S.idle = some j) (hjn : j < S.n) :
    Calls Try.prog 16 #[.pointer (some ⟨S.pb, 0, none⟩), .int .i64 i, .int .i64 n, .int .i64 al] w fun e w' =>
      e = .returned (.tuple #[Hv i (S.gen i) ((S.sl i).length * S.size : Nat) n, .int .i64 0]) ∧ ∃ v F', PoolAt w' ((S.handed i j v).filled i ((S.sl i).length * S.size + n)) F' ∧ Moves F w F' w' := by
  have hA := hS.alloc (.cells #[.int .i64 0, .int .i64 0, .int .i64 0, .int .i64 0] 41)
  have hf := find_in hA hi
  rw [hlv] at hf
  have HF := Lib.hid hf
  have hia := isAlign_any al (w.alloc (.cells #[.int .i64 0, .int .i64 0, .int .i64 0, .int .i64 0] 41))
  rw [hal] at hia
  have HI := Lib.hid hia
  have hb := alB_le hal
  have hpl := place_any hA (i := i) (n := n) (al := al) hi hO.s1 hO.s2 h2 (by omega) (by omega) (hO.fillLe hi) (hO.lenSize hi)
  rw [hfit] at hpl
  have HPL := Lib.hid hpl
  have c0 := hS.c0
  have hlt : S.pb < w.heap.size := hS.fl _ hS.fp
  have hn5 := hO.s5
  have hs2 := hO.s2
  have hLb := hO.lenSize hi
  have HS := Lib.hid hS
  have HO := Lib.hid hO
  have HID := Lib.hid hid
  have hnF : ¬ F w.heap.size := fun h => by have := hS.fl _ h; omega
  have HNF := Lib.hid hnF
  obtain ⟨sa, scap, hsv⟩ := hS.svForm hi
  have HSV := Lib.hid hsv
  generalize hLg : (S.sl i).length * S.size = L at *
  have eL : IntKind.i64.wrap (((S.sl i).length : Int) * (S.size : Int)) = (L : Int) := by
    rw [show ((S.sl i).length : Int) * (S.size : Int) = (L : Int) from by rw [← hLg]; push_cast; rfl]; exact IntWalk.i64_in _ (by omega)
  clear hf hia hpl hlv hfit hA hS hO hal hid hnF hLg hsv
  go_enter Try.func16, Try.ntmps16
  go_wp2_with fail
  refine HF.out.mono ?_
  rintro e w1 ⟨rfl, rfl⟩
  go_wp2_with fail
  refine HI.out.mono ?_
  rintro e w1 ⟨rfl, rfl⟩
  go_wp2_with fail
  refine HPL.out.mono ?_
  rintro e W ⟨rfl, k, hk⟩
  have hSW : PoolAt W S F := by rw [hk]; exact (HS.out.alloc _).drewN _
  have hRW : ResAt W w.heap.size := by rw [hk]; exact (ResAt.new w).block rfl
  have HSW := Lib.hid hSW
  have HRW := Lib.hid hRW
  have HG := Lib.hid (show Grew w W by rw [hk]; exact (Grew.alloc _ _).drewN _)
  have hszW : w.heap.size < W.heap.size := by rw [hk]; simp [World.drewN]
  have hli := leastIdle_any hSW hn5
  rw [HID.out] at hli
  simp only [idleV] at hli
  have HLI := Lib.hid hli
  have cs := hSW.cs hi
  rw [HSV.out] at cs
  have c0W := hSW.c0
  generalize hfm : S.from i al = fm at *
  clear hk hSW hRW hfm HPL HI HF hli c0
  go_wp2_with fail
  refine HLI.out.mono ?_
  rintro e w1 ⟨rfl, rfl⟩
  go_wp2_with fail
  go_quiet (fail)
  go_wp2_with fail
  refine (hand_any (HSW.out.drewN _) hi hjn HO.out.s3 (by have := HO.out.s1; omega) (by have := HO.out.len hi; omega) hn5).mono ?_
  rintro e W2 ⟨rfl, v, F', hS2, hM2⟩
  have hRW2 : ResAt W2 w.heap.size := (HRW.out.block (w' := W.drewN _) rfl).block (hM2.block _ hszW HNF.out)
  have hnF2 : ¬ F' w.heap.size := fun h => by
    rcases hM2.foot _ h with h | h
    · exact HNF.out h
    · have : W.heap.size ≤ w.heap.size := h
      omega
  have HNF2 := Lib.hid hnF2
  have HS2 := Lib.hid hS2
  have HM2 := Lib.hid (HG.out.moves.trans ((Moves.drewN F W _).trans hM2))
  have cg : W2.cell? ⟨S.pb, 3 + i * 4 + 1, none⟩ = some (.int .i64 (S.gen i)) := hS2.cg hi
  have cf : W2.cell? ⟨S.pb, 3 + i * 4 + 3, none⟩ = some (.int .i64 (S.fill i)) := hS2.cf hi
  have zf : W2.frozen? ⟨S.pb, 3 + i * 4 + 3, none⟩ = false := hS2.hP.frozen (3 + i * 4 + 3)
  have r0 := hRW2.c0
  have r1 := hRW2.c1
  have r2 := hRW2.c2
  have r3 := hRW2.c3
  have z0 := hRW2.z 0
  have z1 := hRW2.z 1
  have z2 := hRW2.z 2
  have z3 := hRW2.z 3
  have hne : S.pb ≠ w.heap.size := by omega
  have hne2 : w.heap.size ≠ S.pb := by omega
  clear hS2 hM2 hRW2 hnF2 HLI
  go_wp2
  have hp := HS2.out.setFill i (L + n)
  push_cast at hp
  refine bodyPost_ret (v := .tuple #[Hv i (S.gen i) L n, .int .i64 0]) (by simp [results, Try.results16, go_sem, r0, r1, r2, r3]) rfl ⟨rfl, v, F', ?_, ?_⟩
  · exact (((hp.setOut (a := ⟨w.heap.size, 0, none⟩) HNF2.out _).setOut (a := ⟨w.heap.size, 1, none⟩) HNF2.out _).setOut (a := ⟨w.heap.size, 2, none⟩) HNF2.out _).setOut (a := ⟨w.heap.size, 3, none⟩) HNF2.out _
  · exact ((((HM2.out.trans (Moves.setCell W2 (a := ⟨S.pb, 3 + i * 4 + 3, none⟩) HS2.out.fp _)).setNew (a := ⟨w.heap.size, 0, none⟩) (Nat.le_refl _) _).setNew (a := ⟨w.heap.size, 1, none⟩) (Nat.le_refl _) _).setNew (a := ⟨w.heap.size, 2, none⟩) (Nat.le_refl _) _).setNew (a := ⟨w.heap.size, 3, none⟩) (Nat.le_refl _) _
end Go.Proofs.Ytaaalfimlpeddaa
