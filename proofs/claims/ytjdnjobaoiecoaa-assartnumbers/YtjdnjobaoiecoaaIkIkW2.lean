/-
  What Encode and Sortable answer.
-/
import Derived.Test.YtjdnjobaoiecoaaIkIkApp
namespace Go.Proofs.Ytjdnjobaoiecoaa.IK
open Go.RowKit

/-- New bytes, and a number. -/
def FreshE (w : World) (L : List Nat) (E : Int) (e : Ending) (w' : World) : Prop := ∃ a cap, e = .returned (.tuple #[.slice a L.length cap, .int .i64 E]) ∧ Byt w' a L ∧ (a = none → L = []) ∧ L.length ≤ cap ∧ Below w.heap.size w w'
theorem fresh_none {w w' : World} (h : Below w.heap.size w w') : FreshE w [] 1 (.returned (.tuple #[.slice none 0 0, .int .i64 1])) w' := ⟨none, 0, rfl, .inl rfl, fun _ => rfl, Nat.le_refl _, h⟩
def encR (k : ByteArray) (s d : Int) : List Nat := if okV k s d then encL k s d else []
def sortR (k : ByteArray) (s d : Int) : List Nat := if okV k s d then sortL k s d else []
theorem fresh_own {w w0 w' : World} {B : Nat} {v : Value} {n : Nat} {L : List Nat} (h : w'.ownsRow B 5 1 v n (u8s L)) (hb : Below B w0 w') (h0 : Below w.heap.size w w0) (hB : w.heap.size ≤ B) (E : Int) : FreshE w L E (.returned (.tuple #[v, .int .i64 E])) w' := by
  obtain ⟨a, cap, rfl, h1, h2, h3⟩ := byt_of_own h
  exact ⟨a, cap, rfl, h1, h2, h3, h0.trans (hb.mono hB)⟩
theorem shr_val (n k : Nat) : ((n : Int) / 2 ^ (8 * k)) % 256 = ((n / 2 ^ (8 * k) % 256 : Nat) : Int) := by rw [Int.natCast_emod, Int.natCast_ediv]; simp
set_option maxRecDepth 100000 in
set_option maxHeartbeats 800000 in
theorem encode_any (k : ByteArray) (s d : Int) (w : World) :
    Calls Try.prog 18 #[verV k s d] w (FreshE w (encR k s d) (chkI k s d)) := by
  have HC : Hid (∀ wx, Calls Try.prog 37 #[verV k s d] wx fun e w' => e = .returned (.int .i64 (chkI k s d)) ∧ Below wx.heap.size wx w') := Lib.hid (check_any k s d)
  by_cases hok : okV k s d
  · have HK : Hid (∀ wx, Calls Try.prog 38 #[verV k s d] wx fun e w' => e = .returned (.int .u64 (markN s d : Int)) ∧ Below wx.heap.size wx w') := Lib.hid (mark_any k s d hok)
    have hml := markN_lt hok
    have HR : Hid (encR k s d = natsOf k ++ fixL (markN s d) 8) := Lib.hid (if_pos hok)
    have hsz : k.size ≤ 64 := hok.2.1
    have hE := chk_yes hok
    have HNL := Lib.hid (natsOf_length k)
    rw [hE] at HC ⊢
    clear hE hok
    generalize markN s d = m at *
    unfold verV at *
    go_enter Try.func18, Try.ntmps18
    go_wp2_with fail
    refine (HC.out _).mono ?_
    rintro e w1 ⟨rfl, hb1⟩
    have HB1 : Hid (Below w.heap.size w w1) := Lib.hid ((bel1 _ _).trans (hb1.mono (by simp)))
    have hs1 : w.heap.size + 1 ≤ w1.heap.size := by have := hb1.size; simpa using this
    have c0 := hb1.cell (p := ⟨w.heap.size, 0, none⟩) (by simp)
    have c1 := hb1.cell (p := ⟨w.heap.size, 1, none⟩) (by simp)
    have c2 := hb1.cell (p := ⟨w.heap.size, 2, none⟩) (by simp)
    rw [World.cell?_alloc_mark] at c0 c1 c2
    replace c0 : w1.cell? ⟨w.heap.size, 0, none⟩ = some (.string k) := c0
    replace c1 : w1.cell? ⟨w.heap.size, 1, none⟩ = some (.int .i64 s) := c1
    replace c2 : w1.cell? ⟨w.heap.size, 2, none⟩ = some (.int .i64 d) := c2
    clear hb1 HC
    obtain ⟨w2, r2, o2, b2⟩ := mk0 (w.heap.size + 1) w1 w1.drew (k.size + 8) ((Below.refl _ _).drew) hs1 w1.heap.size rfl (by omega)
    obtain ⟨v3, w3, r3, o3, b3⟩ := apps (w.heap.size + 1) w1 w2 _ [] 0 k o2 b2 hs1 (by omega)
    have d0 := (b2.cell (p := ⟨w.heap.size, 0, none⟩) (by simp)).trans c0
    have e0 := (b3.cell (p := ⟨w.heap.size, 0, none⟩) (by simp)).trans c0
    have e1 := (b3.cell (p := ⟨w.heap.size, 1, none⟩) (by simp)).trans c1
    have e2 := (b3.cell (p := ⟨w.heap.size, 2, none⟩) (by simp)).trans c2
    rw [show ((k.size + 8 : Nat) : Int) = (k.size : Int) + 8 by omega] at r2
    have hwr : IntKind.i64.wrap ((k.size : Int) + 8) = (k.size : Int) + 8 := by rw [IntKind.wrap_i64]; omega
    have O3 := Lib.hid o3
    have B3 := Lib.hid b3
    clear o2 b2 o3 b3
    go_wp2_with fail
    go_region_law (refine step_app_run rfl rfl r3 (by simp [Act.eval]) (by simp [Act.eval]) ?_)
    all_goals
      go_wp2_with fail
      refine (HK.out _).mono ?_
      rintro e w4 ⟨rfl, hb4⟩
      have O4 : Hid (w4.ownsRow (w.heap.size + 1) 5 1 v3 (k.size + 0) (u8s (natsOf k ++ fixL m 0)) ∧ Below (w.heap.size + 1) w1 w4) := Lib.hid ⟨by
        have := own_keep O3.out hb4
        simpa [fixL] using this, B3.out.trans (hb4.mono (by have := B3.out.size; omega))⟩
      clear hb4 HK O3 B3 e0 e1 e2 r2 r3 c0 c1 c2 d0
      go_wp2_with fail
      go_loopw [5, 7, 23] (fun v _ i wr => ∃ j : Nat, j ≤ 8 ∧ i = .int .i64 (j : Int) ∧ Hid (wr.ownsRow (w.heap.size + 1) 5 1 v (k.size + j) (u8s (natsOf k ++ fixL m j)) ∧ Below (w.heap.size + 1) w1 wr)) (fun _ _ i _ => 8 - (intOf i).toNat)
      case atStart => exact ⟨0, by omega, rfl, O4.out⟩
      case round =>
        obtain ⟨j, hj, rfl, hI⟩ := hrel
        by_cases hlt : j < 8
        · obtain ⟨v5, w5, r5, o5, b5⟩ := app1 (w.heap.size + 1) w1 wr _ _ (k.size + j) _ _ (shr_val m j) hI.out.1 hI.out.2 hs1 wr.heap.size rfl (by omega)
          have O5 : Hid (w5.ownsRow (w.heap.size + 1) 5 1 v5 (k.size + (j + 1)) (u8s (natsOf k ++ fixL m (j + 1)))) := Lib.hid (by rw [fixL_snoc, ← List.append_assoc]; exact o5)
          have B5 := Lib.hid b5
          clear o5 b5 hI O4
          go_wp2_with (at_builtin; refine wpList_app_run rfl rfl r5 rfl rfl ?_)
          go_roundw
          case rel => exact ⟨j + 1, by omega, by go_num, O5.out, B5.out⟩
          case measure => simp [intOf]; omega
        · obtain rfl : j = 8 := by omega
          clear O4
          go_wp2
          go_ret2
          rw [HR.out]
          exact fresh_own hI.out.1 hI.out.2 HB1.out (by omega) 0
  · have HR : Hid (encR k s d = []) := Lib.hid (if_neg hok)
    have hE := chk_no hok
    rw [hE] at HC ⊢
    clear hE hok
    unfold verV at *
    go_enter Try.func18, Try.ntmps18
    go_wp2_with fail
    refine (HC.out _).mono ?_
    rintro e w1 ⟨rfl, hb1⟩
    have HB1 : Hid (Below w.heap.size w w1) := Lib.hid ((bel1 _ _).trans (hb1.mono (by simp)))
    clear hb1 HC
    go_wp2
    go_ret2
    rw [HR.out]
    exact fresh_none HB1.out
end Go.Proofs.Ytjdnjobaoiecoaa.IK
