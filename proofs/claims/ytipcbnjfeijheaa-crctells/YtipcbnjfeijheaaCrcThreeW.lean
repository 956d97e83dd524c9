/-
  The law CrcThree, walked.
-/
import Derived.Test.YtipcbnjfeijheaaCrcPartsW
import Derived.RegionTactic
import Derived.BigRegion
import Derived.Deep.OwnRows
namespace Go.Proofs.Ytipcbnjfeijheaa
open Go.RowKit

/-- A region that draws its order, whose operations and callees give one value each in every world that has grown from W. -/
theorem wp_region_grown {P : Program} {id : Nat} {Q : Exit → Act → World → Prop} {a : Act} {w : World} {l : List Oper} (hm : P.follows .mixedOrders = true) (hB : Region.lexB .any l.toArray = true)
    (h : wpQuiet P l.toArray (fun w' => ∃ x : {x : World // Below w.heap.size w x}, w' = x.val) (fun a' => ∀ w', (∃ x : {x : World // Below w.heap.size w x}, w' = x.val) → Q .normal a' w') l a) : (Code.region id l.toArray true).wp P Q a w :=
  wp_region_quiet (C := fun w' => ∃ x : {x : World // Below w.heap.size w x}, w' = x.val) hm hB ⟨⟨w.drew, (Below.refl _ w).drew⟩, rfl⟩ (by simpa using h)
theorem grown_same {P : Program} {f : FuncId} {args : Array Value} {w : World} {v : Value} {x : {x : World // Below w.heap.size w x}} (h : Calls P f args x.val fun e w' => e = .returned v ∧ x.val = w') :
    Calls P f args x.val fun e w'' => e = .returned v ∧ ∃ y : {x : World // Below w.heap.size w x}, w'' = y.val :=
  h.mono fun _ _ ⟨he, hw⟩ => ⟨he, x, hw.symm⟩
theorem grown_more {P : Program} {f : FuncId} {args : Array Value} {w : World} {v : Value} {x : {x : World // Below w.heap.size w x}} (h : Calls P f args x.val fun e w' => e = .returned v ∧ Below x.val.heap.size x.val w') :
    Calls P f args x.val fun e w'' => e = .returned v ∧ ∃ y : {x : World // Below w.heap.size w x}, w'' = y.val :=
  h.mono fun _ w' ⟨he, hb⟩ => ⟨he, ⟨w', x.2.trans (hb.mono x.2.size)⟩, rfl⟩

theorem Try.info5 : (Try.prog.info? 5).map (fun i => (i.zero, i.size, i.bytes)) = some (some (.int .u8 0), 1, 1) := by kernel_rfl
theorem xor8 (a b : BitVec 8) : bits .xor .u8 (a.toNat : Int) (b.toNat : Int) = ((a ^^^ b).toNat : Int) := by
  have h := u8_xor_nat a.toNat b.toNat a.isLt b.isLt
  rw [h, BitVec.toNat_xor]
def byte3 (a b c : List (BitVec 8)) (i : Nat) : BitVec 8 := a.getD i 0#8 ^^^ b.getD i 0#8 ^^^ c.getD i 0#8
theorem run_min4 {P : Program} {w : World} (ts : Array TypeId) (t : TypeId) (x y z u : Int) (r : Int) (hr : r = (if u < (if z < (if y < x then y else x) then z else (if y < x then y else x)) then u else (if z < (if y < x then y else x) then z else (if y < x then y else x)))) :
    (Builtin.min_ ts t #[.int .i64 x, .int .i64 y, .int .i64 z, .int .i64 u]).run P w = .ok (.int .i64 r) w := by
  subst hr
  simp only [Builtin.min_, List.foldlM_cons, List.foldlM_nil, Sem.run_bind, Sem.run_pure, Builtin.min2, Result.andThen]
  repeat' split
  all_goals simp_all [Sem.run_pure]
namespace crcThree
set_option maxRecDepth 100000 in
set_option maxHeartbeats 2000000 in
theorem walk (a0 : Option Addr) (len0 cap0 : Nat) (z0 : List Int) (a1 : Option Addr) (len1 cap1 : Nat) (z1 : List Int) (a2 : Option Addr) (len2 cap2 : Nat) (z2 : List Int) (w : World) (w0 : IsRow .u8 w a0 len0 cap0 z0) (w1 : IsRow .u8 w a1 len1 cap1 z1) (w2 : IsRow .u8 w a2 len2 cap2 z2) :
    Calls Try.prog 7 #[.slice a0 len0 cap0, .slice a1 len1 cap1, .slice a2 len2 cap2] w fun e w' => e = .returned (.bool true) ∧ Below w.heap.size w w' := by
  obtain ⟨la, rfl, ha, ha1, ha2⟩ := w0.byt
  obtain ⟨lb, rfl, hb, hb1, hb2⟩ := w1.byt
  obtain ⟨lc, rfl, hc, hc1, hc2⟩ := w2.byt
  clear w0 w1 w2
  have m0 : la.length ≤ maxLen := by omega
  have m1 : lb.length ≤ maxLen := by omega
  have m2 : lc.length ≤ maxLen := by omega
  unfold maxLen at m0 m1 m2
  obtain ⟨n, hn⟩ : ∃ n : Nat, n = min (min la.length lb.length) (min lc.length 500) := ⟨_, rfl⟩
  have n0 : n ≤ la.length := by omega
  have n1 : n ≤ lb.length := by omega
  have n2 : n ≤ lc.length := by omega
  have n3 : n ≤ 500 := by omega
  have HN := Lib.hid hn
  have HA := Lib.hid ha
  have HB := Lib.hid hb
  have HC := Lib.hid hc
  clear hn ha hb hc
  have hmin : ∀ ts t wx, (Builtin.min_ ts t #[.int .i64 (la.length : Int), .int .i64 (lb.length : Int), .int .i64 (lc.length : Int), .int .i64 500]).run Try.prog wx = .ok (.int .i64 (n : Int)) wx := fun ts t wx => run_min4 ts t _ _ _ _ _ (by rw [HN.out]; (repeat' split) <;> omega)
  have kmk := run_make_row' (P := Try.prog) 22 5 (.int .u8 0) 1 Try.underlying22 Try.info5 rfl .i64 .i64 n (by omega) (by omega)
  have hst : (w.alloc (.cells (madeCells #[.int .u8 0] n) 5)).rowIs w.heap.size 5 n (fun c => if c < 0 then .int .u8 ((byte3 la lb lc c).toNat : Int) else .int .u8 0) := (World.rowIs_made w (.int .u8 0) n 5).congr (fun c _ => by simp)
  have HST := Lib.hid hst
  clear hst
  go_enter Try.func7, Try.ntmps7
  go_wp2_with fail
  clear hmin kmk
  go_loopw [9] (fun i wq => ∃ q : Nat, q ≤ n ∧ i = .int .i64 (q : Int) ∧ Hid (wq.rowIs w.heap.size 5 n (fun c => if c < q then .int .u8 ((byte3 la lb lc c).toNat : Int) else .int .u8 0) ∧ Below w.heap.size w wq)) (fun i _ => n - (intOf i).toNat)
  case atStart => exact ⟨0, by omega, rfl, HST.out, (Below.refl _ _).alloc (Nat.le_refl _) _⟩
  case round =>
    obtain ⟨q, hq, rfl, hI⟩ := hrel
    clear HST
    by_cases hlt : q < n
    · obtain ⟨ba, oa, rfl, cA⟩ := (HA.out.keep hI.out.2).at (k := q) (by omega)
      obtain ⟨bb, ob, rfl, cB⟩ := (HB.out.keep hI.out.2).at (k := q) (by omega)
      obtain ⟨bc, oc, rfl, cC⟩ := (HC.out.keep hI.out.2).at (k := q) (by omega)
      have c0 := hI.out.1.cell hlt
      rw [if_neg (by omega)] at c0
      have z0 := hI.out.1.frozen q
      have e3 : byte3 la lb lc q = la[q] ^^^ lb[q] ^^^ lc[q] := by
        simp [byte3, List.getD_eq_getElem?_getD, show q < la.length by omega, show q < lb.length by omega, show q < lc.length by omega]
      have x1 := xor8 la[q] lb[q]
      have x2 := xor8 (la[q] ^^^ lb[q]) lc[q]
      rw [← e3] at x2
      have hstep : (wr.setCell ⟨w.heap.size, q, none⟩ (.int .u8 ((byte3 la lb lc q).toNat : Int))).drew.rowIs w.heap.size 5 n (fun c => if c < q + 1 then .int .u8 ((byte3 la lb lc c).toNat : Int) else .int .u8 0) :=
        (hI.out.1.set q _).congr (fun c _ => by
          by_cases e : c = q
          · subst e; rw [if_pos rfl, if_pos (by omega)]
          · rw [if_neg e]
            by_cases e2 : c < q
            · rw [if_pos e2, if_pos (by omega)]
            · rw [if_neg e2, if_neg (by omega)])
      have HSTEP := Lib.hid hstep
      have HBL := Lib.hid ((hI.out.2.setCell (p := ⟨w.heap.size, q, none⟩) (Nat.le_refl _) (.int .u8 ((byte3 la lb lc q).toNat : Int))).drew)
      generalize hy : byte3 la lb lc q = y at *
      generalize la[q] ^^^ lb[q] = xab at *
      generalize la[q] = xa at *
      generalize lb[q] = xb at *
      generalize lc[q] = xc at *
      have hy8 := y.isLt
      have i1 : (q : Int) < (la.length : Int) := by omega
      have i2 : (q : Int) < (lb.length : Int) := by omega
      have i3 : (q : Int) < (lc.length : Int) := by omega
      have i4 : (q : Int) < (n : Int) := by omega
      clear hstep e3 hy hI
      go_wp2_with fail
      go_region
      all_goals
        go_wp2
        go_roundw
        case rel => exact ⟨q + 1, by omega, by go_num, HSTEP.out, HBL.out⟩
        case measure => simp [intOf]; omega
    · obtain rfl : q = n := by omega
      have hr : wr.rowIs w.heap.size 5 q (fun c => .int .u8 ((byte3 la lb lc c).toNat : Int)) := hI.out.1.congr (fun c hc => by rw [if_pos hc])
      have bX : Byt wr (some ⟨w.heap.size, 0, none⟩) ((List.range q).map (byte3 la lb lc)) := by
        by_cases h0 : q = 0
        · left; subst h0; rfl
        · refine .inr ⟨w.heap.size, 0, rfl, hr.lt, fun i hi => ?_⟩
          simp at hi
          rw [Nat.zero_add, hr.cell hi]; simp
      have bA := (HA.out.part cap0 0 q ha1 (by omega) n0).keep hI.out.2
      have bB := (HB.out.part cap1 0 q hb1 (by omega) n1).keep hI.out.2
      have bC := (HC.out.part cap2 0 q hc1 (by omega) n2).keep hI.out.2
      have lA : ((la.take q).drop 0).length = q := by simp; omega
      have lB : ((lb.take q).drop 0).length = q := by simp; omega
      have lC : ((lc.take q).drop 0).length = q := by simp; omega
      have lX : ((List.range q).map (byte3 la lb lc)).length = q := by simp
      have HSUM : Hid (bits .xor .u32 (bits .xor .u32 ((Crc.sum ((la.take q).drop 0)).toNat : Int) ((Crc.sum ((lb.take q).drop 0)).toNat : Int)) ((Crc.sum ((lc.take q).drop 0)).toNat : Int) = ((Crc.sum ((List.range q).map (byte3 la lb lc))).toNat : Int)) := Lib.hid (by
        rw [u32_xor_bv, u32_xor_bv, ← Crc.sum_xor3 _ _ _ (by rw [lA, lB]) (by rw [lB, lC])]
        congr 3
        apply List.ext_getElem
        · simp; omega
        · intro i h1 h2
          simp at h1 h2
          simp [byte3, List.getD_eq_getElem?_getD, show i < la.length by omega, show i < lb.length by omega, show i < lc.length by omega])
      generalize (la.take q).drop 0 = A at *
      generalize (lb.take q).drop 0 = Bl at *
      generalize (lc.take q).drop 0 = C at *
      generalize (List.range q).map (byte3 la lb lc) = X at *
      have s1 := fun wx => run_part_to (w := wx) (a := a0) la.length cap0 q (by omega)
      have s2 := fun wx => run_part_to (w := wx) (a := a1) lb.length cap1 q (by omega)
      have s3 := fun wx => run_part_to (w := wx) (a := a2) lc.length cap2 q (by omega)
      have mq : q ≤ maxLen := by unfold maxLen; omega
      have HBX := Lib.hid bX
      have HBA := Lib.hid bA
      have HBB := Lib.hid bB
      have HBC := Lib.hid bC
      have HW := Lib.hid hI.out.2
      have KA := Lib.hid lA
      have KB := Lib.hid lB
      have KC := Lib.hid lC
      have KX := Lib.hid lX
      clear hr bX bA bB bC lA lB lC lX hI
      generalize hpa : part a0 cap0 0 = pa at *
      generalize hpb : part a1 cap1 0 = pb at *
      generalize hpc : part a2 cap2 0 = pc at *
      clear hpa hpb hpc
      go_wp2_with fail
      refine wp_region_grown (by kernel_rfl) (by kernel_rfl) ?_
      have cS : Hid (∀ wx, Below wr.heap.size wr wx → Calls Try.prog 8 #[] wx fun e w'' => e = .returned (.bool true) ∧ Below wr.heap.size wr w'') := Lib.hid (fun wx hx => (sums_any wx).mono fun _ _ ⟨he, hb⟩ => ⟨he, hx.trans (hb.mono hx.size)⟩)
      have cX : Hid (∀ wx, Below wr.heap.size wr wx → Calls Try.prog 9 #[.slice (some ⟨w.heap.size, 0, none⟩) q q] wx fun e w'' => e = .returned (.int .u32 ((Crc.sum X).toNat : Int)) ∧ Below wr.heap.size wr w'') := Lib.hid (fun wx hx => (sum_at wx _ _ _ X KX.out (HBX.out.keep hx) mq).mono fun _ _ ⟨he, hw⟩ => ⟨he, hw ▸ hx⟩)
      have cA : Hid (∀ wx, Below wr.heap.size wr wx → Calls Try.prog 9 #[.slice pa q cap0] wx fun e w'' => e = .returned (.int .u32 ((Crc.sum A).toNat : Int)) ∧ Below wr.heap.size wr w'') := Lib.hid (fun wx hx => (sum_at wx _ _ _ A KA.out (HBA.out.keep hx) mq).mono fun _ _ ⟨he, hw⟩ => ⟨he, hw ▸ hx⟩)
      have cB : Hid (∀ wx, Below wr.heap.size wr wx → Calls Try.prog 9 #[.slice pb q cap1] wx fun e w'' => e = .returned (.int .u32 ((Crc.sum Bl).toNat : Int)) ∧ Below wr.heap.size wr w'') := Lib.hid (fun wx hx => (sum_at wx _ _ _ Bl KB.out (HBB.out.keep hx) mq).mono fun _ _ ⟨he, hw⟩ => ⟨he, hw ▸ hx⟩)
      have cC : Hid (∀ wx, Below wr.heap.size wr wx → Calls Try.prog 9 #[.slice pc q cap2] wx fun e w'' => e = .returned (.int .u32 ((Crc.sum C).toNat : Int)) ∧ Below wr.heap.size wr w'') := Lib.hid (fun wx hx => (sum_at wx _ _ _ C KC.out (HBC.out.keep hx) mq).mono fun _ _ ⟨he, hw⟩ => ⟨he, hw ▸ hx⟩)
      have hsum := HSUM.out
      repeat (first
        | go_big_quiet_skip
        | (go_big_quiet_want; go_big_quiet_op; first
            | go_big_quiet_on
            | (apply Exists.intro; refine ⟨fun _ _ => rfl, ?_⟩; go_big_quiet_on)
            | (apply Exists.intro; refine ⟨fun _ hx => ⟨rfl, hx⟩, ?_⟩; go_big_quiet_on)
            | (apply Exists.intro; refine ⟨by with_reducible first | exact cS.out | exact cX.out | exact cA.out | exact cB.out | exact cC.out, ?_⟩; go_big_quiet_on)))
      refine wpQuiet_nil ?_
      rintro _ ⟨⟨wz, hz⟩, rfl⟩
      have HZ := Lib.hid hz
      clear hz
      go_wp2
      go_ret
      exact ⟨rfl, HW.out.trans (HZ.out.mono HW.out.size)⟩
end crcThree
end Go.Proofs.Ytipcbnjfeijheaa
