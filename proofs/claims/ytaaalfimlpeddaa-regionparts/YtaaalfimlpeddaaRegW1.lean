/-
  What the small functions of package region do, said of a pool that lies in memory.
-/
import Derived.Test.YtaaalfimlpeddaaProg
import Derived.Test.YtaaalfimlpeddaaRegBase
import Derived.WalkSpells
import Derived.WalkLawsBesides
import Derived.BigQuiet
import Derived.Lib.Hide
namespace Go.Proofs.Ytaaalfimlpeddaa
open Go.RowKit

set_option maxRecDepth 100000 in
set_option maxHeartbeats 400000 in
theorem find_nil (z : Int) (w : World) :
    Calls Try.prog 30 #[.pointer none, .int .i64 z] w fun e w' => e = .returned (.tuple #[.pointer none, .int .i64 1]) ∧ w = w' := by
  go_enter Try.func30, Try.ntmps30
  go_wp2
  go_ret2
  exact ⟨rfl, rfl⟩

set_option maxRecDepth 100000 in
set_option maxHeartbeats 400000 in
theorem find_out (z : Int) (pb : Nat) (w : World) (hz : z < 0 ∨ 256 ≤ z) :
    Calls Try.prog 30 #[.pointer (some ⟨pb, 0, none⟩), .int .i64 z] w fun e w' => e = .returned (.tuple #[.pointer none, .int .i64 7]) ∧ w = w' := by
  by_cases h0 : z < 0
  · go_enter Try.func30, Try.ntmps30
    go_wp2
    go_ret2
    exact ⟨rfl, rfl⟩
  · have h1 : 256 ≤ z := by omega
    clear hz
    go_enter Try.func30, Try.ntmps30
    go_wp2
    go_ret2
    exact ⟨rfl, rfl⟩

set_option maxRecDepth 100000 in
set_option maxHeartbeats 400000 in
theorem find_in {w : World} {S : Ps} {F : Nat → Prop} (hS : PoolAt w S F) {i : Nat} (hi : i < 256) :
    Calls Try.prog 30 #[.pointer (some ⟨S.pb, 0, none⟩), .int .i64 i] w fun e w' =>
      e = .returned (if S.live i then .tuple #[.pointer (some ⟨S.pb, 3 + i * 4, none⟩), .int .i64 0] else .tuple #[.pointer none, .int .i64 7]) ∧ w = w' := by
  have hc := hS.cl hi
  cases hl : S.live i
  · rw [hl] at hc
    clear hl hS
    go_enter Try.func30, Try.ntmps30
    go_wp2
    go_ret2
    exact ⟨rfl, rfl⟩
  · rw [hl] at hc
    clear hl hS
    go_enter Try.func30, Try.ntmps30
    go_wp2
    go_ret2
    exact ⟨rfl, rfl⟩

/-- Any region: there is one, or there is none. -/
def Ps.has (S : Ps) (z : Int) : Bool := decide (0 ≤ z) && decide (z < 256) && S.live z.toNat

theorem find_any {w : World} {S : Ps} {F : Nat → Prop} (hS : PoolAt w S F) (z : Int) :
    Calls Try.prog 30 #[.pointer (some ⟨S.pb, 0, none⟩), .int .i64 z] w fun e w' =>
      e = .returned (if S.has z then .tuple #[.pointer (some ⟨S.pb, 3 + z.toNat * 4, none⟩), .int .i64 0] else .tuple #[.pointer none, .int .i64 7]) ∧ w = w' := by
  by_cases h : 0 ≤ z ∧ z < 256
  · obtain ⟨i, rfl⟩ := Int.eq_ofNat_of_zero_le h.1
    refine (find_in hS (i := i) (by omega)).mono ?_
    rintro e w' ⟨rfl, rfl⟩
    have : S.has (i : Int) = S.live i := by simp [Ps.has]; omega
    rw [this]; simp
  · refine (find_out z S.pb w (by omega)).mono ?_
    rintro e w' ⟨rfl, rfl⟩
    have : S.has z = false := by simp [Ps.has]; omega
    rw [this]; simp

set_option maxRecDepth 100000 in
set_option maxHeartbeats 400000 in
theorem slab_any0 (w : World) (pb bb N : Nat) (size i m : Nat)
    (h0 : w.cell? ⟨pb, 0, none⟩ = some (.int .i64 size)) (h1 : w.cell? ⟨pb, 1, none⟩ = some (.slice (some ⟨bb, 0, none⟩) N N))
    (hm : m = i * size) (hi : m + size ≤ N) (hN : N ≤ 4194304) (hsz : 1 ≤ size) :
    Calls Try.prog 32 #[.pointer (some ⟨pb, 0, none⟩), .int .i64 i] w fun e w' => e = .returned (.slice (some ⟨bb, m, none⟩) size (N - m)) ∧ ∃ n, w' = w.drewN n := by
  have hil : i ≤ m := by rw [hm]; exact Nat.le_mul_of_pos_right _ hsz
  have e1 : IntKind.i64.wrap ((i:Int) * (size:Int)) = (m : Int) := by
    rw [show (i:Int) * (size:Int) = (m:Int) from by rw [hm]; push_cast; rfl]; exact IntWalk.i64_in _ (by omega)
  have e2 : IntKind.i64.wrap ((i:Int) + 1) = (i:Int) + 1 := IntWalk.i64_in _ (by omega)
  have e3 : IntKind.i64.wrap (((i:Int) + 1) * (size:Int)) = ((m + size : Nat) : Int) := by
    rw [show ((i:Int) + 1) * (size:Int) = ((m+size : Nat):Int) from by rw [hm]; push_cast; rw [Int.add_mul]; simp]; exact IntWalk.i64_in _ (by omega)
  have e4 : ¬ (N = m) := by omega
  clear hm
  go_enter Try.func32, Try.ntmps32
  go_wp2
  go_quiet (fail)
  go_wp2
  go_ret
  exact ⟨by simp, nq, rfl⟩

theorem slab_any {w : World} {S : Ps} {F : Nat → Prop} (hS : PoolAt w S F) {i : Nat} (hi : i < S.n) (hN : S.size * S.n ≤ 4194304) (hsz : 1 ≤ S.size) :
    Calls Try.prog 32 #[.pointer (some ⟨S.pb, 0, none⟩), .int .i64 i] w fun e w' => e = .returned (.slice (some ⟨S.bb, i * S.size, none⟩) S.size (S.size * S.n - i * S.size)) ∧ ∃ n, w' = w.drewN n :=
  slab_any0 w S.pb S.bb (S.size * S.n) S.size i (i * S.size) hS.c0 hS.c1 rfl (by
    have : (i + 1) * S.size ≤ S.n * S.size := Nat.mul_le_mul_right _ hi
    rw [Nat.add_mul, Nat.one_mul, Nat.mul_comm S.n] at this; exact this) hN hsz

set_option maxRecDepth 100000 in
set_option maxHeartbeats 400000 in
theorem paint_any0 (w : World) (b off len cap N c : Nat) (f : Nat → Value) (hr : w.rowIs b 5 N f) (hN : off + len ≤ N) (hl : N ≤ 4194304) :
    Calls Try.prog 31 #[.slice (some ⟨b, off, none⟩) len cap, .int .u8 c] w fun e w' => e = .returned (.tuple #[]) ∧
      w'.rowIs b 5 N (fun j => if off ≤ j ∧ j < off + len then .int .u8 c else f j) ∧ Touch b w w' := by
  go_enter Try.func31, Try.ntmps31
  go_wp2
  go_loopw [4, 7] (fun _ i wr => ∃ k : Nat, k ≤ len ∧ i = .int .i64 k ∧ wr.rowIs b 5 N (fun j => if off ≤ j ∧ j < off + k then .int .u8 c else f j) ∧ Touch b w wr) (fun _ i _ => len - (intOf i).toNat)
  case atStart => exact ⟨0, Nat.zero_le _, rfl, hr.congr (fun j _ => by rw [if_neg (by omega)]), Touch.refl _ _⟩
  case round =>
    obtain ⟨k, hk, rfl, hrow, hto⟩ := hrel
    by_cases hlt : k < len
    · have hcell := hrow.cell (i := off + k) (by omega)
      have hfz := hrow.frozen (off + k)
      have hrow' := (hrow.set (off + k) (.int .u8 c)).congr (g := fun j => if off ≤ j ∧ j < off + (k + 1) then .int .u8 c else f j) (fun j _ => by
        by_cases e : j = off + k
        · simp [e]
        · by_cases e2 : off ≤ j ∧ j < off + k
          · simp [e, e2]; omega
          · simp [e, e2]; omega)
      have Hrow := Lib.hid hrow'
      have Hto := Lib.hid hto
      clear hrow hrow' hto hr
      go_wp2
      go_roundw
      case rel => exact ⟨k + 1, by omega, by go_num, Hrow.out, Hto.out.trans (Touch.setCell (a := ⟨b, off + k, none⟩) _)⟩
      case measure => simp [intOf]; omega
    · have : k = len := by omega
      subst this
      have Hrow := Lib.hid hrow
      have Hto := Lib.hid hto
      clear hrow hto hr
      go_wp2
      go_end0
      exact ⟨rfl, Hrow.out, Hto.out⟩
end Go.Proofs.Ytaaalfimlpeddaa
