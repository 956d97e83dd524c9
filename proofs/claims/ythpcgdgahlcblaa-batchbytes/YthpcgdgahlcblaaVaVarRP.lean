/-
  What the document's own Put and Text answer.
-/
import Derived.Test.YthpcgdgahlcblaaVaVarPT
import Derived.Deep.RegionWith
namespace Go.Proofs.Ythpcgdgahlcblaa.VA
open Go.RowKit

theorem strOf_cons (x : Nat) (l : List Nat) : strOf [x] ++ strOf l = strOf (x :: l) := by
  apply ByteArray.ext
  rw [ByteArray.data_append]
  simp [strOf]
theorem conv_one (W : World) (b x cap : Nat) (hx : x < 256) (hb : b < W.heap.size) (hc : W.cell? ⟨b, 0, none⟩ = some (.int .u8 (x : Int))) :
    (convert 23 9 (.slice (some ⟨b, 0, none⟩) 1 cap)).run Try.prog W = .ok (.string (strOf [x])) W :=
  conv_bytes (l := [x]) (.inr ⟨b, 0, rfl, hb, fun i hi => by
    have : i = 0 := by simp at hi; exact hi
    subst this; simpa using hc⟩) (by simpa using hx) (fun h => by cases h) cap 1 rfl

set_option maxRecDepth 100000 in
set_option maxHeartbeats 800000 in
theorem rPut_any (k : Nat) : ∀ (n : Nat) (w : World), n < k → n < 18446744073709551616 →
    Calls Try.prog 55 #[.int .u64 (n : Int)] w fun e w' => e = .returned (.string (strOf (putL n))) ∧ Below w.heap.size w w' := by
  induction k with
  | zero => intro n w h; omega
  | succ k ih =>
    intro n w hk hn
    by_cases hlt : n < 128
    · have hcv := fun W hb hc => conv_one W w.heap.size n 1 (by omega) hb hc
      have HP : Hid (putL n = [n]) := Lib.hid (putL_lt hlt)
      go_enter Try.func55, Try.ntmps55
      go_wp2_with fail
      go_ret
      exact ⟨by rw [HP.out]; rfl, (Below.refl _ _).alloc (Nat.le_refl _) _⟩
    · have HW : Hid (IntKind.u8.wrap (IntKind.u64.wrap ((n : Int).tmod 128 + 128)) = ((n % 128 + 128 : Nat) : Int)) := Lib.hid (by
        rw [u64_val, Int.tmod_eq_emod_of_nonneg (by omega)]; simp [IntKind.wrap, IntKind.bits, IntKind.signed]; omega)
      have HQ : Hid (IntKind.u64.wrap ((n : Int) / 128) = ((n / 128 : Nat) : Int)) := Lib.hid (by rw [u64_val]; omega)
      have hcv : ∀ (W : World) (b : Nat), b < W.heap.size → W.cell? ⟨b, 0, none⟩ = some (.int .u8 (IntKind.u8.wrap (IntKind.u64.wrap ((n : Int).tmod 128 + 128)))) → (convert 23 9 (.slice (some ⟨b, 0, none⟩) 1 1)).run Try.prog W = .ok (.string (strOf [n % 128 + 128])) W := fun W b hb hc => conv_one W b (n % 128 + 128) 1 (by omega) hb (by rw [hc, HW.out])
      have hl10 := putL_len10 n hn
      have HP : Hid (strOf [n % 128 + 128] ++ strOf (putL (n / 128)) = strOf (putL n)) := Lib.hid (by rw [strOf_cons, putL_ge (n := n) (by omega)])
      have hs1 : (strOf [n % 128 + 128]).size = 1 := strOf_size _
      have hs2 : (strOf (putL (n / 128))).size ≤ 10 := by rw [strOf_size]; exact (putL_len10 (n / 128) (by omega)).1
      have HI : Hid (∀ wx, Calls Try.prog 55 #[.int .u64 (IntKind.u64.wrap ((n : Int) / 128))] wx fun e w' => e = .returned (.string (strOf (putL (n / 128)))) ∧ Below wx.heap.size wx w') := Lib.hid (fun wx => by
        rw [HQ.out]; exact ih (n / 128) wx (by omega) (by omega))
      clear HW HQ
      generalize strOf (putL (n / 128)) = S at *
      generalize strOf [n % 128 + 128] = S1 at *
      clear ih hl10
      go_enter Try.func55, Try.ntmps55
      go_wp2_with fail
      go_region_with (go_at_call 55; (with_reducible refine (HI.out _).mono ?_); rintro e w5 ⟨rfl, hb5⟩; have HB5 := Lib.hid hb5; try (have hlt5 : w.heap.size < w5.heap.size := (by have := hb5.size; simp at this; omega); have hcl5 := hb5.cell (p := ⟨w.heap.size, 0, none⟩) (by simp)); clear hb5)
      all_goals
        go_wp2_with fail
        go_ret
        refine ⟨by rw [← HP.out]; rfl, ?_⟩
        first
          | exact (((Below.refl _ w).alloc (Nat.le_refl _) _).drew).trans (HB5.out.mono (by simp))
          | exact (((Below.refl _ w).drew).trans HB5.out).alloc (by have := HB5.out.size; simpa using this) _
/-- The document's own Text. -/
theorem strOf_natsOf (s : ByteArray) : strOf (natsOf s) = s := by
  apply ByteArray.ext
  have h : ((fun c => UInt8.ofNat c) ∘ UInt8.toNat) = id := by funext x; simp
  simp [strOf, natsOf, h]
theorem strOf_app (l m : List Nat) : strOf l ++ strOf m = strOf (l ++ m) := by
  apply ByteArray.ext
  rw [ByteArray.data_append]
  simp [strOf]
set_option maxRecDepth 100000 in
set_option maxHeartbeats 800000 in
theorem rText_any (w : World) (s : ByteArray) (hs : s.size ≤ 140737488351232) :
    Calls Try.prog 30 #[.string s] w fun e w' => e = .returned (.string (strOf (putL s.size ++ natsOf s))) ∧ Below w.heap.size w w' := by
  have HI : Hid (∀ wx, Calls Try.prog 55 #[.int .u64 (s.size : Int)] wx fun e w' => e = .returned (.string (strOf (putL s.size))) ∧ Below wx.heap.size wx w') := Lib.hid (fun wx => rPut_any (s.size + 1) s.size wx (by omega) (by omega))
  have HE : Hid (strOf (putL s.size) ++ s = strOf (putL s.size ++ natsOf s)) := Lib.hid (by rw [← strOf_app, strOf_natsOf])
  have hs2 : (strOf (putL s.size)).size ≤ 10 := by rw [strOf_size]; exact (putL_len10 s.size (by omega)).1
  generalize strOf (putL s.size) = S at *
  go_enter Try.func30, Try.ntmps30
  go_wp2_with fail
  refine (HI.out _).mono ?_
  rintro e w5 ⟨rfl, hb5⟩
  have HB5 := Lib.hid hb5
  clear hb5
  go_wp2
  go_ret
  exact ⟨by rw [← HE.out]; rfl, HB5.out⟩
end Go.Proofs.Ythpcgdgahlcblaa.VA
