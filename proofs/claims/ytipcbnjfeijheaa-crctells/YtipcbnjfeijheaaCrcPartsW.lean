/-
  The law CrcParts, walked.
-/
import Derived.Test.YtipcbnjfeijheaaCrcRow
namespace Go.Proofs.Ytipcbnjfeijheaa
open Go.RowKit

/-- Where a part of a slice lies. -/
def part (a : Option Addr) (cap p : Nat) : Option Addr := if cap = p then a else a.map (·.add p)
theorem Byt.part {w : World} {a : Option Addr} {l : List (BitVec 8)} (h : Byt w a l) (cap p q : Nat) (hc : l.length ≤ cap) (hpq : p ≤ q) (hq : q ≤ l.length) : Byt w (part a cap p) ((l.take q).drop p) := by
  by_cases h0 : p = q
  · left; subst h0; simp
  · right
    rcases h with h | ⟨b, off, rfl, hlt, hcl⟩
    · subst h; simp at hq; omega
    · refine ⟨b, off + p, ?_, hlt, fun i hi => ?_⟩
      · unfold Ytipcbnjfeijheaa.part; rw [if_neg (by omega)]
        have hadd : (⟨b, off, none⟩ : Addr).add p = ⟨b, off + p, none⟩ := by unfold Addr.add; split <;> simp_all
        simp [hadd]
      · simp at hi
        have := hcl (p + i) (by omega)
        rw [Nat.add_assoc, this]; simp
theorem run_part {w : World} {a : Option Addr} (len cap p q : Nat) (hpq : p ≤ q) (hq : q ≤ cap) :
    (Instr.slice 22 (.slice a len cap) (some (.int .i64 (p : Int))) (some (.int .i64 (q : Int))) none).run Try.prog w = .ok (.slice (part a cap p) (q - p) (cap - p)) w := by
  have hel : Try.prog.elem 22 = 5 := by kernel_rfl
  rw [run_slice_lh (P := Try.prog) w 22 a len cap (by rw [hel]; exact Try.underlying22) .i64 .i64 p q (by omega) (by omega) (by omega), hel]
  simp [go_sem, sliced, part]
theorem run_part_to {w : World} {a : Option Addr} (len cap q : Nat) (hq : q ≤ cap) :
    (Instr.slice 22 (.slice a len cap) none (some (.int .i64 (q : Int))) none).run Try.prog w = .ok (.slice (part a cap 0) q cap) w := by
  have hel : Try.prog.elem 22 = 5 := by kernel_rfl
  rw [run_slice_h (P := Try.prog) w 22 a len cap (by rw [hel]; exact Try.underlying22) .i64 q (by omega) (by omega), hel]
  simp [go_sem, sliced, part]
theorem run_part_from {w : World} {a : Option Addr} (len cap p : Nat) (hp : p ≤ len) (_hl : len ≤ cap) :
    (Instr.slice 22 (.slice a len cap) (some (.int .i64 (p : Int))) none none).run Try.prog w = .ok (.slice (part a cap p) (len - p) (cap - p)) w := by
  have hel : Try.prog.elem 22 = 5 := by kernel_rfl
  rw [run_slice_l (P := Try.prog) w 22 a len cap (by rw [hel]; exact Try.underlying22) .i64 p (by omega) (by omega), hel]
  simp [go_sem, sliced, part]
theorem modN (x : Int) (n : Nat) (hb : n ≤ 9223372036854775807) : ∃ k : Nat, k ≤ n ∧ IntKind.i64.wrap ((IntKind.u64.wrap x).tmod ((n : Int) + 1)) = (k : Int) := by
  have h1 : 0 ≤ IntKind.u64.wrap x := by simp [IntKind.wrap, IntKind.bits, IntKind.signed]; omega
  rw [Int.tmod_eq_emod_of_nonneg h1]
  have h2 := Int.emod_nonneg (IntKind.u64.wrap x) (show (n : Int) + 1 ≠ 0 by omega)
  have h3 := Int.emod_lt_of_pos (IntKind.u64.wrap x) (show (0 : Int) < (n : Int) + 1 by omega)
  refine ⟨((IntKind.u64.wrap x) % ((n : Int) + 1)).toNat, by omega, ?_⟩
  rw [IntKind.wrap_i64]; omega
theorem sum_at (w : World) (a : Option Addr) (cap n : Nat) (X : List (BitVec 8)) (hX : X.length = n) (hl : Byt w a X) (hm : n ≤ maxLen) :
    Calls Try.prog 9 #[.slice a n cap] w fun e w' => e = .returned (.int .u32 ((Crc.sum X).toNat : Int)) ∧ w = w' := by
  subst hX; exact sum_any w a cap X hl hm
theorem more_at (s : BitVec 32) (w : World) (a : Option Addr) (cap n : Nat) (X : List (BitVec 8)) (hX : X.length = n) (hl : Byt w a X) (hm : n ≤ maxLen) :
    Calls Try.prog 11 #[.int .u32 (s.toNat : Int), .slice a n cap] w fun e w' => e = .returned (.int .u32 ((Crc.more s X).toNat : Int)) ∧ w = w' := by
  subst hX; exact more_any s w a cap X hl hm
theorem join_at (a b : BitVec 32) (z : Int) (n : Nat) (hz : z = n) (hn : n ≤ 9223372036854775807) (w : World) :
    Calls Try.prog 13 #[.int .u32 (a.toNat : Int), .int .u32 (b.toNat : Int), .int .i64 z] w fun e w' => e = .returned (.int .u32 ((Crc.join a b n).toNat : Int)) ∧ w = w' := by
  subst hz; exact join_any a b n (by omega) w
theorem join_len (X Y : List (BitVec 8)) (n : Nat) (h : Y.length = n) : Crc.join (Crc.sum X) (Crc.sum Y) n = Crc.sum (X ++ Y) := by subst h; exact Crc.join_sum X Y
theorem below_drewN (B : Nat) (w : World) (n : Nat) : Below B w (w.drewN n) := ⟨rfl, rfl, rfl, Nat.le_refl _, fun _ _ => rfl⟩
namespace crcParts
set_option maxRecDepth 100000 in
set_option maxHeartbeats 2000000 in
theorem walk (a0 : Option Addr) (len0 cap0 : Nat) (z0 : List Int) (a1 a2 : Int) (w : World) (w0 : IsRow .u8 w a0 len0 cap0 z0) (_w1 : (Lit.int .i64 a1).wf = true) (_w2 : (Lit.int .i64 a2).wf = true) :
    Calls Try.prog 4 #[.slice a0 len0 cap0, .int .i64 a1, .int .i64 a2] w fun e w' => e = .returned (.bool true) ∧ Below w.heap.size w w' := by
  obtain ⟨l, rfl, hl, h1, h2⟩ := w0.byt
  have hm : l.length ≤ maxLen := by omega
  have hm' : l.length ≤ 9223372036854775807 := by unfold maxLen at hm; omega
  obtain ⟨p, q, hpq, hq, hij⟩ : ∃ p q : Nat, p ≤ q ∧ q ≤ l.length ∧
      ((IntKind.i64.wrap ((IntKind.u64.wrap a1).tmod ((l.length : Int) + 1)) = (p : Int) ∧ IntKind.i64.wrap ((IntKind.u64.wrap a2).tmod ((l.length : Int) + 1)) = (q : Int)) ∨
       (IntKind.i64.wrap ((IntKind.u64.wrap a1).tmod ((l.length : Int) + 1)) = (q : Int) ∧ IntKind.i64.wrap ((IntKind.u64.wrap a2).tmod ((l.length : Int) + 1)) = (p : Int))) := by
    obtain ⟨i, hi, ei⟩ := modN a1 l.length hm'
    obtain ⟨j, hj, ej⟩ := modN a2 l.length hm'
    rcases Nat.le_total i j with h | h
    · exact ⟨i, j, h, hj, .inl ⟨ei, ej⟩⟩
    · exact ⟨j, i, h, hi, .inr ⟨ei, ej⟩⟩
  have hz1 : ¬ ((l.length : Int) + 1 = 0) := by omega
  have s1 := fun wx => run_part_to (w := wx) (a := a0) l.length cap0 p (by omega)
  have s2 := fun wx => run_part (w := wx) (a := a0) l.length cap0 p q hpq (by omega)
  have s3 := fun wx => run_part_from (w := wx) (a := a0) l.length cap0 q hq h1
  obtain ⟨X, Y, Z, hl3, hX, hY, hZ, bX, bY, bZ⟩ : ∃ X Y Z : List (BitVec 8), l = X ++ (Y ++ Z) ∧ X.length = p ∧ Y.length = q - p ∧ Z.length = l.length - q ∧ Byt w (part a0 cap0 0) X ∧ Byt w (part a0 cap0 p) Y ∧ Byt w (part a0 cap0 q) Z := by
    refine ⟨(l.take p).drop 0, (l.take q).drop p, (l.take l.length).drop q, ?_, by simp; omega, by simp; omega, by simp, hl.part _ _ _ h1 (by omega) (by omega), hl.part _ _ _ h1 hpq hq, hl.part _ _ _ h1 hq (Nat.le_refl _)⟩
    have e : (l.take q).drop p ++ (l.take l.length).drop q = l.drop p := by
      rw [List.take_length]
      conv => rhs; rw [← List.take_append_drop q l, List.drop_append]
      simp; omega
    rw [e]; simp
  have HA : Hid (Crc.more (Crc.more (Crc.sum X) Y) Z = Crc.sum l) := Lib.hid (by unfold Crc.sum; rw [← Crc.more_append, ← Crc.more_append, hl3])
  have HXY := Lib.hid (join_len X Y (q - p) hY)
  have HYZ := Lib.hid (join_len Y Z (l.length - q) hZ)
  have HB : Hid (Crc.join (Crc.sum (X ++ Y)) (Crc.sum Z) (l.length - q) = Crc.sum l) := Lib.hid (by rw [join_len _ _ _ hZ, hl3, List.append_assoc])
  have HC : Hid (Crc.join (Crc.sum X) (Crc.sum (Y ++ Z)) (q - p + (l.length - q)) = Crc.sum l) := Lib.hid (by rw [join_len _ _ _ (by simp; omega), hl3])
  have HL := Lib.hid hl
  have BX := Lib.hid bX
  have BY := Lib.hid bY
  have BZ := Lib.hid bZ
  have KX := Lib.hid hX
  have KY := Lib.hid hY
  have KZ := Lib.hid hZ
  clear w0 hl hl3 hX hY hZ bX bY bZ
  rcases Nat.lt_or_ge p q with hlt | hge
  rotate_left
  · obtain rfl : p = q := by omega
    have KY0 : Hid (Y.length = 0) := Lib.hid (by have := KY.out; omega)
    have HXY0 := Lib.hid (join_len X Y 0 KY0.out)
    have HC0 : Hid (Crc.join (Crc.sum X) (Crc.sum (Y ++ Z)) (l.length - p) = Crc.sum l) := Lib.hid (by have := HC.out; rwa [show p - p + (l.length - p) = l.length - p by omega] at this)
    have s2' := fun wx => s2 wx
    simp only [Nat.sub_self] at s2'
    clear s2
    rcases hij with ⟨ei, ej⟩ | ⟨ei, ej⟩
    all_goals
      go_enter Try.func4, Try.ntmps4
      go_wp2_with fail
      go_quiet (fail)
      go_wp2_with fail
      go_quiet (fail)
      clear s1 s2' s3 ei ej
      go_wp2_with fail
      refine (sum_any _ _ _ _ (HL.out.drewN _) hm).mono ?_
      rintro e w' ⟨rfl, rfl⟩
      go_wp2_with fail
      refine (sum_at _ _ _ _ X KX.out (BX.out.drewN _) (by omega)).mono ?_
      rintro e w' ⟨rfl, rfl⟩
      go_wp2_with fail
      refine (sum_at _ _ _ _ Y KY0.out (BY.out.drewN _) (by omega)).mono ?_
      rintro e w' ⟨rfl, rfl⟩
      go_wp2_with fail
      refine (join_at _ _ _ 0 rfl (by omega) _).mono ?_
      rintro e w' ⟨rfl, rfl⟩
      rw [HXY0.out]
      go_wp2_with fail
      refine (sum_at _ _ _ _ Y KY0.out (BY.out.drewN _) (by omega)).mono ?_
      rintro e w' ⟨rfl, rfl⟩
      go_wp2_with fail
      refine (sum_at _ _ _ _ Z KZ.out (BZ.out.drewN _) (by omega)).mono ?_
      rintro e w' ⟨rfl, rfl⟩
      go_wp2_with fail
      refine (join_at _ _ _ _ rfl (by omega) _).mono ?_
      rintro e w' ⟨rfl, rfl⟩
      rw [HYZ.out]
      go_wp2_with fail
      refine (sums_any _).mono ?_
      rintro e wa ⟨rfl, hb⟩
      have BX1 := Lib.hid ((BX.out.drewN _).keep hb)
      have BY1 := Lib.hid ((BY.out.drewN _).keep hb)
      have BZ1 := Lib.hid ((BZ.out.drewN _).keep hb)
      have HB1 := Lib.hid hb
      clear hb
      go_wp2_with fail
      refine (sum_at _ _ _ _ X KX.out BX1.out (by omega)).mono ?_
      rintro e w' ⟨rfl, rfl⟩
      go_wp2_with fail
      refine (more_at _ _ _ _ _ Y KY0.out BY1.out (by omega)).mono ?_
      rintro e w' ⟨rfl, rfl⟩
      go_wp2_with fail
      refine (more_at _ _ _ _ _ Z KZ.out BZ1.out (by omega)).mono ?_
      rintro e w' ⟨rfl, rfl⟩
      rw [HA.out]
      go_wp2_with fail
      refine (sum_at _ _ _ _ Z KZ.out BZ1.out (by omega)).mono ?_
      rintro e w' ⟨rfl, rfl⟩
      go_wp2_with fail
      refine (join_at _ _ _ _ rfl (by omega) _).mono ?_
      rintro e w' ⟨rfl, rfl⟩
      rw [HB.out]
      go_wp2_with fail
      refine (sum_at _ _ _ _ X KX.out BX1.out (by omega)).mono ?_
      rintro e w' ⟨rfl, rfl⟩
      go_wp2_with fail
      refine (join_at _ _ _ (l.length - p) (by omega) (by omega) _).mono ?_
      rintro e w' ⟨rfl, rfl⟩
      rw [HC0.out]
      go_wp2
      go_ret
      exact ⟨rfl, (below_drewN _ w _).trans HB1.out⟩
  · rcases hij with ⟨ei, ej⟩ | ⟨ei, ej⟩
    all_goals
      go_enter Try.func4, Try.ntmps4
      go_wp2_with fail
      go_quiet (fail)
      go_wp2_with fail
      go_quiet (fail)
      clear s1 s2 s3 ei ej
      go_wp2_with fail
      refine (sum_any _ _ _ _ (HL.out.drewN _) hm).mono ?_
      rintro e w' ⟨rfl, rfl⟩
      go_wp2_with fail
      refine (sum_at _ _ _ _ X KX.out (BX.out.drewN _) (by omega)).mono ?_
      rintro e w' ⟨rfl, rfl⟩
      go_wp2_with fail
      refine (sum_at _ _ _ _ Y KY.out (BY.out.drewN _) (by omega)).mono ?_
      rintro e w' ⟨rfl, rfl⟩
      go_wp2_with fail
      refine (join_at _ _ _ _ rfl (by omega) _).mono ?_
      rintro e w' ⟨rfl, rfl⟩
      rw [HXY.out]
      go_wp2_with fail
      refine (sum_at _ _ _ _ Y KY.out (BY.out.drewN _) (by omega)).mono ?_
      rintro e w' ⟨rfl, rfl⟩
      go_wp2_with fail
      refine (sum_at _ _ _ _ Z KZ.out (BZ.out.drewN _) (by omega)).mono ?_
      rintro e w' ⟨rfl, rfl⟩
      go_wp2_with fail
      refine (join_at _ _ _ _ rfl (by omega) _).mono ?_
      rintro e w' ⟨rfl, rfl⟩
      rw [HYZ.out]
      go_wp2_with fail
      refine (sums_any _).mono ?_
      rintro e wa ⟨rfl, hb⟩
      have BX1 := Lib.hid ((BX.out.drewN _).keep hb)
      have BY1 := Lib.hid ((BY.out.drewN _).keep hb)
      have BZ1 := Lib.hid ((BZ.out.drewN _).keep hb)
      have HB1 := Lib.hid hb
      clear hb
      go_wp2_with fail
      refine (sum_at _ _ _ _ X KX.out BX1.out (by omega)).mono ?_
      rintro e w' ⟨rfl, rfl⟩
      go_wp2_with fail
      refine (more_at _ _ _ _ _ Y KY.out BY1.out (by omega)).mono ?_
      rintro e w' ⟨rfl, rfl⟩
      go_wp2_with fail
      refine (more_at _ _ _ _ _ Z KZ.out BZ1.out (by omega)).mono ?_
      rintro e w' ⟨rfl, rfl⟩
      rw [HA.out]
      go_wp2_with fail
      refine (sum_at _ _ _ _ Z KZ.out BZ1.out (by omega)).mono ?_
      rintro e w' ⟨rfl, rfl⟩
      go_wp2_with fail
      refine (join_at _ _ _ _ rfl (by omega) _).mono ?_
      rintro e w' ⟨rfl, rfl⟩
      rw [HB.out]
      go_wp2_with fail
      refine (sum_at _ _ _ _ X KX.out BX1.out (by omega)).mono ?_
      rintro e w' ⟨rfl, rfl⟩
      go_wp2_with fail
      refine (join_at _ _ _ (q - p + (l.length - q)) (by omega) (by omega) _).mono ?_
      rintro e w' ⟨rfl, rfl⟩
      rw [HC.out]
      go_wp2
      go_ret
      exact ⟨rfl, (below_drewN _ w _).trans HB1.out⟩
end crcParts
end Go.Proofs.Ytipcbnjfeijheaa
