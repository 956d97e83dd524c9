/-
  What piece of package region does, said of a pool that lies in memory.
-/
import Derived.Test.YtaaalfimlpeddaaRegW4
namespace Go.Proofs.Ytaaalfimlpeddaa
open Go.RowKit

/-- No block that was there has turned. -/
abbrev Grew (w w' : World) : Prop := Below w.heap.size w w'
theorem Grew.moves {F : Nat → Prop} {w w' : World} (h : Grew w w') : Moves F w F w' :=
  ⟨h.os, h.tape, h.output, h.size, fun k hk _ => h.block k hk, fun _ h => .inl h⟩
theorem PoolAt.grew {w w' : World} {S : Ps} {F : Nat → Prop} (h : PoolAt w S F) (hg : Grew w w') : PoolAt w' S F := h.keep (fun k hk => hg.block k (h.fl k hk)) hg.size
theorem Grew.alloc (w : World) (o : Obj) : Grew w (w.alloc o) := (Below.refl _ _).alloc (Nat.le_refl _) o
theorem Grew.drewN {w w' : World} (h : Grew w w') (n : Nat) : Grew w (w'.drewN n) := ⟨h.os, h.tape, h.output, h.size, h.block⟩
theorem Grew.then {w w1 w2 : World} (h : Grew w w1) (k : Grew w1 w2) : Grew w w2 := h.trans (k.mono h.size)

abbrev Hv (r g o l : Int) : Value := .agg #[.int .i64 r, .int .i64 g, .int .i64 o, .int .i64 l]

set_option maxRecDepth 100000 in
set_option maxHeartbeats 800000 in
theorem piece_miss {w : World} {S : Ps} {F : Nat → Prop} (hS : PoolAt w S F) (r g o l : Int) (hr : S.has r = false) :
    Calls Try.prog 39 #[.pointer (some ⟨S.pb, 0, none⟩), Hv r g o l] w fun e w' => e = .returned (.tuple #[.slice none 0 0, .int .i64 3]) ∧ Grew w w' := by
  have hf := find_any (hS.alloc (.cells #[.int .i64 r, .int .i64 g, .int .i64 o, .int .i64 l] 41)) r
  rw [hr] at hf
  have HF := Lib.hid hf
  clear hf hS hr
  go_enter Try.func39, Try.ntmps39
  go_wp2_with fail
  refine HF.out.mono ?_
  rintro e w1 ⟨rfl, rfl⟩
  go_wp2_with fail
  go_quiet (fail)
  go_wp2
  go_ret2
  exact ⟨rfl, (Grew.alloc _ _).drewN _⟩

set_option maxRecDepth 100000 in
set_option maxHeartbeats 800000 in
theorem piece_stale {w : World} {S : Ps} {F : Nat → Prop} (hS : PoolAt w S F) (i : Nat) (g o l : Int) (hi : i < 256) (hr : S.live i = true) (hg : (S.gen i : Int) ≠ g) :
    Calls Try.prog 39 #[.pointer (some ⟨S.pb, 0, none⟩), Hv i g o l] w fun e w' => e = .returned (.tuple #[.slice none 0 0, .int .i64 3]) ∧ Grew w w' := by
  have hf := find_in (hS.alloc (.cells #[.int .i64 i, .int .i64 g, .int .i64 o, .int .i64 l] 41)) hi
  rw [hr] at hf
  have HF := Lib.hid hf
  have cg := hS.cg hi
  have hlt : S.pb < w.heap.size := hS.fl _ hS.fp
  have hne : ((S.gen i : Int) != g) = true := by simpa using hg
  clear hf hS hr hg
  go_enter Try.func39, Try.ntmps39
  go_wp2_with fail
  refine HF.out.mono ?_
  rintro e w1 ⟨rfl, rfl⟩
  go_wp2_with fail
  go_quiet (fail)
  go_wp2
  go_ret2
  exact ⟨rfl, (Grew.alloc _ _).drewN _⟩

set_option maxRecDepth 100000 in
set_option maxHeartbeats 1600000 in
theorem piece_arg1 {w : World} {S : Ps} {F : Nat → Prop} (hS : PoolAt w S F) (i : Nat) (o l : Int) (hi : i < 256) (hr : S.live i = true) (hfl : S.fill i ≤ 4194304) (hl2 : l ≤ 9223372036854775807)
    (hbad : l < 1 ∨ o < 0 ∨ (S.fill i : Int) - l < o) :
    Calls Try.prog 39 #[.pointer (some ⟨S.pb, 0, none⟩), Hv i (S.gen i) o l] w fun e w' => e = .returned (.tuple #[.slice none 0 0, .int .i64 1]) ∧ Grew w w' := by
  have hf := find_in (hS.alloc (.cells #[.int .i64 i, .int .i64 (S.gen i), .int .i64 o, .int .i64 l] 41)) hi
  rw [hr] at hf
  have HF := Lib.hid hf
  have cg := hS.cg hi
  have cf := hS.cf hi
  have hlt : S.pb < w.heap.size := hS.fl _ hS.fp
  have hne : ((S.gen i : Int) != (S.gen i : Int)) = false := by simp
  clear hf hS hr
  by_cases h1 : l < 1
  · have d1 : decide (l < 1) = true := by simpa using h1
    clear hbad
    go_enter Try.func39, Try.ntmps39
    go_wp2_with fail
    refine HF.out.mono ?_
    rintro e w1 ⟨rfl, rfl⟩
    go_wp2_with fail
    go_quiet (fail)
    go_wp2
    go_quiet (fail)
    go_wp2
    go_ret2
    exact ⟨rfl, ((Grew.alloc _ _).drewN _).drewN _⟩
  · have d1 : decide (l < 1) = false := by simpa using h1
    by_cases h2 : o < 0
    · have d2 : decide (o < 0) = true := by simpa using h2
      clear hbad
      go_enter Try.func39, Try.ntmps39
      go_wp2_with fail
      refine HF.out.mono ?_
      rintro e w1 ⟨rfl, rfl⟩
      go_wp2_with fail
      go_quiet (fail)
      go_wp2
      go_quiet (fail)
      go_wp2
      go_ret2
      exact ⟨rfl, ((Grew.alloc _ _).drewN _).drewN _⟩
    · have d2 : decide (o < 0) = false := by simpa using h2
      have d3 : decide ((S.fill i : Int) - l < o) = true := by simp; omega
      have e3 : IntKind.i64.wrap ((S.fill i : Int) - l) = (S.fill i : Int) - l := IntWalk.i64_in _ (by omega)
      clear hbad
      go_enter Try.func39, Try.ntmps39
      go_wp2_with fail
      refine HF.out.mono ?_
      rintro e w1 ⟨rfl, rfl⟩
      go_wp2_with fail
      go_quiet (fail)
      go_wp2
      go_quiet (fail)
      go_wp2
      go_ret2
      exact ⟨rfl, ((Grew.alloc _ _).drewN _).drewN _⟩

set_option maxRecDepth 100000 in
set_option maxHeartbeats 1600000 in
theorem piece_arg2 {w : World} {S : Ps} {F : Nat → Prop} (hS : PoolAt w S F) (i o l R : Nat) (hi : i < 256) (hr : S.live i = true) (hfl : S.fill i ≤ 4194304) (hs : 64 ≤ S.size) (hs2 : S.size ≤ 65536)
    (h1 : 1 ≤ l) (h2 : o + l ≤ S.fill i) (hR : R = o % S.size) (hbad : S.size < R + l) :
    Calls Try.prog 39 #[.pointer (some ⟨S.pb, 0, none⟩), Hv i (S.gen i) o l] w fun e w' => e = .returned (.tuple #[.slice none 0 0, .int .i64 1]) ∧ Grew w w' := by
  have hf := find_in (hS.alloc (.cells #[.int .i64 i, .int .i64 (S.gen i), .int .i64 (o : Int), .int .i64 (l : Int)] 41)) hi
  rw [hr] at hf
  have HF := Lib.hid hf
  have c0 := hS.c0
  have cg := hS.cg hi
  have cf := hS.cf hi
  have hlt : S.pb < w.heap.size := hS.fl _ hS.fp
  have hne : ((S.gen i : Int) != (S.gen i : Int)) = false := by simp
  clear hf hS hr
  have d1 : decide ((l : Int) < 1) = false := by simp; omega
  have d2 : decide ((o : Int) < 0) = false := by simp
  have d3 : decide ((S.fill i : Int) - (l : Int) < (o : Int)) = false := by simp; omega
  have e3 : IntKind.i64.wrap ((S.fill i : Int) - (l : Int)) = (S.fill i : Int) - l := IntWalk.i64_in _ (by omega)
  have hR2 : R < S.size := by rw [hR]; exact Nat.mod_lt _ (by omega)
  have e4 : (o : Int).tmod (S.size : Int) = (R : Int) := by rw [hR, Int.tmod_eq_emod_of_nonneg (by omega)]; exact (Int.natCast_emod _ _).symm
  have e5 : IntKind.i64.wrap ((R : Int) + (l : Int)) = (R : Int) + l := IntWalk.i64_in _ (by omega)
  have d6 : decide ((S.size : Int) < (R : Int) + (l : Int)) = true := by simp; omega
  have n0 : ((S.size : Int) == 0) = false := by simp; omega
  clear hR
  go_enter Try.func39, Try.ntmps39
  go_wp2_with fail
  refine HF.out.mono ?_
  rintro e w1 ⟨rfl, rfl⟩
  go_wp2_with fail
  go_quiet (fail)
  go_wp2
  go_quiet (fail)
  go_wp2
  go_quiet (fail)
  go_wp2
  go_quiet (fail)
  go_wp2
  go_ret2
  exact ⟨rfl, ((((Grew.alloc _ _).drewN _).drewN _).drewN _).drewN _⟩
end Go.Proofs.Ytaaalfimlpeddaa
