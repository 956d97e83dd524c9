/-
  The document's own name of a number; the law WalNames.
-/
import Derived.Test.YtadnecgcoceklaaGreatDoorWalL2
namespace Go.Proofs.YtadnecgcoceklaaGreatDoor
open Go.RowKit Go.Maps

def tRow (n : Nat) : Nat → List Nat
  | 0 => [48, 48, 48, 48, 48, 48, 46, 108, 111, 103]
  | 1 => [48, 48, 48, 48, 48, 48 + n % 10, 46, 108, 111, 103]
  | 2 => [48, 48, 48, 48, 48 + n / 10 % 10, 48 + n % 10, 46, 108, 111, 103]
  | 3 => [48, 48, 48, 48 + n / 100 % 10, 48 + n / 10 % 10, 48 + n % 10, 46, 108, 111, 103]
  | 4 => [48, 48, 48 + n / 1000 % 10, 48 + n / 100 % 10, 48 + n / 10 % 10, 48 + n % 10, 46, 108, 111, 103]
  | 5 => [48, 48 + n / 10000 % 10, 48 + n / 1000 % 10, 48 + n / 100 % 10, 48 + n / 10 % 10, 48 + n % 10, 46, 108, 111, 103]
  | 6 => [48 + n / 100000 % 10, 48 + n / 10000 % 10, 48 + n / 1000 % 10, 48 + n / 100 % 10, 48 + n / 10 % 10, 48 + n % 10, 46, 108, 111, 103]
  | _ => []
def tQ (n : Nat) : Nat → Nat
  | 0 => n
  | 1 => n / 10
  | 2 => n / 100
  | 3 => n / 1000
  | 4 => n / 10000
  | 5 => n / 100000
  | 6 => n / 1000000
  | _ => 0
theorem tRow_end {n : Nat} (_ : n ≤ 999999) : strOf (tRow n 6) = strB (wnm n) := by
  unfold strOf strB tRow wnm dgt
  simp
def TRow (w : World) (b : Nat) (l : List Nat) : Prop := ∃ mk : Nat × Nat, mk.1 = 10 ∧ w.heap[b]? = some (.cells (u8s l).toArray 5 mk)
set_option maxRecDepth 100000 in
set_option maxHeartbeats 4000000 in
theorem tName_any (n : Int) (w : World) : Calls Tryz.prog 42 #[.int .i64 n] w fun e w' => e = .returned (.string (strB (wName n))) ∧ Below w.heap.size w w' := by
  by_cases h1 : n < 1
  · have d1 : decide (n < 1) = true := by simpa using h1
    have hE := Lib.hid (show wName n = [] by unfold wName; rw [if_pos (.inl h1)])
    go_enter Tryz.func42, Tryz.ntmps42
    go_wp2
    go_ret
    exact ⟨by rw [hE.out]; rfl, Below.refl _ _⟩
  · have d1 : decide (n < 1) = false := by simpa using h1
    by_cases h2 : 999999 < n
    · have d2 : decide (999999 < n) = true := by simpa using h2
      have hE := Lib.hid (show wName n = [] by unfold wName; rw [if_pos (.inr h2)])
      go_enter Tryz.func42, Tryz.ntmps42
      go_wp2
      go_ret
      exact ⟨by rw [hE.out]; rfl, Below.refl _ _⟩
    · have d2 : decide (999999 < n) = false := by simpa using h2
      obtain ⟨m, rfl⟩ : ∃ m : Nat, n = m := ⟨n.toNat, by omega⟩
      have hm : m ≤ 999999 := by omega
      have hE := Lib.hid (wName_in (n := m) (by omega) hm)
      have kc := fun (w : World) (C : Array Value) (n c : Nat) => Lib.run_convert_bytes_const (P := Tryz.prog) w 47 5 C n c Tryz.underlying47 Tryz.underlying5
      clear h1 h2
      go_enter Tryz.func42, Tryz.ntmps42
      go_wp2_with fail
      go_loopw [0, 4] (fun u0 u4 wr => ∃ k q : Nat, k ≤ 6 ∧ u0 = .int .i64 (q : Int) ∧ q = tQ m k ∧ u4 = .int .i64 (5 - (k : Int)) ∧ TRow wr w.heap.size (tRow m k) ∧ Below w.heap.size w wr) (fun _ u4 _ => (intOf u4 + 1).toNat)
      case atStart => exact ⟨0, m, by omega, rfl, rfl, rfl, ⟨(10, 11), rfl, heap_alloc_new w _⟩, bel1 w _⟩
      case round =>
      obtain ⟨k, q, hk, rfl, hqq, rfl, hrow, hbel⟩ := hrel
      rcases (show k = 0 ∨ k = 1 ∨ k = 2 ∨ k = 3 ∨ k = 4 ∨ k = 5 ∨ k = 6 by omega) with rfl | rfl | rfl | rfl | rfl | rfl | rfl
      · -- 0
        obtain rfl : m = q := (show q = m from hqq).symm; clear hqq
        obtain ⟨mk, hmk, hrow⟩ := hrow
        dsimp only [tRow, tQ] at hrow
        have hc := fun j => cell_of_row wr w.heap.size j _ _ _ hrow
        have hfz : wr.frozen? ⟨w.heap.size, 5, none⟩ = false := by simp [World.frozen?, hrow, hmk]
        have hlt : w.heap.size < wr.heap.size := (Array.getElem?_eq_some_iff.1 hrow).1
        have hcc : wr.cell? ⟨w.heap.size, 5, none⟩ = some (.int .u8 48) := by rw [hc 5]; rfl
        have hd : m % 10 < 10 := Nat.mod_lt _ (by omega)
        have hq : m ≤ 999999 := hm
        have HE := Lib.hid (show TRow (wr.setCell ⟨w.heap.size, 5, none⟩ (.int .u8 ((48 + m % 10 : Nat) : Int))) w.heap.size (tRow m 1) ∧ Below w.heap.size w (wr.setCell ⟨w.heap.size, 5, none⟩ (.int .u8 ((48 + m % 10 : Nat) : Int))) from
          ⟨⟨mk, hmk, by rw [Go.Joins.block_setCell hrow _]; rfl⟩, hbel.setCell (by simp) _⟩)
        rw [show ((48 + m % 10 : Nat) : Int) = 48 + ((m : Int) % 10) by omega] at HE
        clear hc hrow hmk
        go_wp2
        go_roundw
        case rel => exact ⟨1, m / 10, by omega, by show _ = Value.int .i64 ((m / 10 : Nat) : Int); go_num, rfl, rfl, HE.out.1, HE.out.2⟩
        case measure => simp [intOf]
      · -- 1
        obtain rfl : q = m / 10 := hqq
        obtain ⟨mk, hmk, hrow⟩ := hrow
        dsimp only [tRow, tQ] at hrow
        have hc := fun j => cell_of_row wr w.heap.size j _ _ _ hrow
        have hfz : wr.frozen? ⟨w.heap.size, 4, none⟩ = false := by simp [World.frozen?, hrow, hmk]
        have hlt : w.heap.size < wr.heap.size := (Array.getElem?_eq_some_iff.1 hrow).1
        have hcc : wr.cell? ⟨w.heap.size, 4, none⟩ = some (.int .u8 48) := by rw [hc 4]; rfl
        have hd : m / 10 % 10 < 10 := Nat.mod_lt _ (by omega)
        have hq : m / 10 ≤ 999999 := Nat.le_trans (Nat.div_le_self _ _) hm
        have HE := Lib.hid (show TRow (wr.setCell ⟨w.heap.size, 4, none⟩ (.int .u8 ((48 + m / 10 % 10 : Nat) : Int))) w.heap.size (tRow m 2) ∧ Below w.heap.size w (wr.setCell ⟨w.heap.size, 4, none⟩ (.int .u8 ((48 + m / 10 % 10 : Nat) : Int))) from
          ⟨⟨mk, hmk, by rw [Go.Joins.block_setCell hrow _]; rfl⟩, hbel.setCell (by simp) _⟩)
        rw [show ((48 + m / 10 % 10 : Nat) : Int) = 48 + ((m : Int) / 10 % 10) by omega] at HE
        clear hc hrow hmk
        go_wp2
        go_roundw
        case rel => exact ⟨2, m / 100, by omega, by show _ = Value.int .i64 ((m / 100 : Nat) : Int); congr 1; omega, rfl, rfl, HE.out.1, HE.out.2⟩
        case measure => simp [intOf]
      · -- 2
        obtain rfl : q = m / 100 := hqq
        obtain ⟨mk, hmk, hrow⟩ := hrow
        dsimp only [tRow, tQ] at hrow
        have hc := fun j => cell_of_row wr w.heap.size j _ _ _ hrow
        have hfz : wr.frozen? ⟨w.heap.size, 3, none⟩ = false := by simp [World.frozen?, hrow, hmk]
        have hlt : w.heap.size < wr.heap.size := (Array.getElem?_eq_some_iff.1 hrow).1
        have hcc : wr.cell? ⟨w.heap.size, 3, none⟩ = some (.int .u8 48) := by rw [hc 3]; rfl
        have hd : m / 100 % 10 < 10 := Nat.mod_lt _ (by omega)
        have hq : m / 100 ≤ 999999 := Nat.le_trans (Nat.div_le_self _ _) hm
        have HE := Lib.hid (show TRow (wr.setCell ⟨w.heap.size, 3, none⟩ (.int .u8 ((48 + m / 100 % 10 : Nat) : Int))) w.heap.size (tRow m 3) ∧ Below w.heap.size w (wr.setCell ⟨w.heap.size, 3, none⟩ (.int .u8 ((48 + m / 100 % 10 : Nat) : Int))) from
          ⟨⟨mk, hmk, by rw [Go.Joins.block_setCell hrow _]; rfl⟩, hbel.setCell (by simp) _⟩)
        rw [show ((48 + m / 100 % 10 : Nat) : Int) = 48 + ((m : Int) / 100 % 10) by omega] at HE
        clear hc hrow hmk
        go_wp2
        go_roundw
        case rel => exact ⟨3, m / 1000, by omega, by show _ = Value.int .i64 ((m / 1000 : Nat) : Int); congr 1; omega, rfl, rfl, HE.out.1, HE.out.2⟩
        case measure => simp [intOf]
      · -- 3
        obtain rfl : q = m / 1000 := hqq
        obtain ⟨mk, hmk, hrow⟩ := hrow
        dsimp only [tRow, tQ] at hrow
        have hc := fun j => cell_of_row wr w.heap.size j _ _ _ hrow
        have hfz : wr.frozen? ⟨w.heap.size, 2, none⟩ = false := by simp [World.frozen?, hrow, hmk]
        have hlt : w.heap.size < wr.heap.size := (Array.getElem?_eq_some_iff.1 hrow).1
        have hcc : wr.cell? ⟨w.heap.size, 2, none⟩ = some (.int .u8 48) := by rw [hc 2]; rfl
        have hd : m / 1000 % 10 < 10 := Nat.mod_lt _ (by omega)
        have hq : m / 1000 ≤ 999999 := Nat.le_trans (Nat.div_le_self _ _) hm
        have HE := Lib.hid (show TRow (wr.setCell ⟨w.heap.size, 2, none⟩ (.int .u8 ((48 + m / 1000 % 10 : Nat) : Int))) w.heap.size (tRow m 4) ∧ Below w.heap.size w (wr.setCell ⟨w.heap.size, 2, none⟩ (.int .u8 ((48 + m / 1000 % 10 : Nat) : Int))) from
          ⟨⟨mk, hmk, by rw [Go.Joins.block_setCell hrow _]; rfl⟩, hbel.setCell (by simp) _⟩)
        rw [show ((48 + m / 1000 % 10 : Nat) : Int) = 48 + ((m : Int) / 1000 % 10) by omega] at HE
        clear hc hrow hmk
        go_wp2
        go_roundw
        case rel => exact ⟨4, m / 10000, by omega, by show _ = Value.int .i64 ((m / 10000 : Nat) : Int); congr 1; omega, rfl, rfl, HE.out.1, HE.out.2⟩
        case measure => simp [intOf]
      · -- 4
        obtain rfl : q = m / 10000 := hqq
        obtain ⟨mk, hmk, hrow⟩ := hrow
        dsimp only [tRow, tQ] at hrow
        have hc := fun j => cell_of_row wr w.heap.size j _ _ _ hrow
        have hfz : wr.frozen? ⟨w.heap.size, 1, none⟩ = false := by simp [World.frozen?, hrow, hmk]
        have hlt : w.heap.size < wr.heap.size := (Array.getElem?_eq_some_iff.1 hrow).1
        have hcc : wr.cell? ⟨w.heap.size, 1, none⟩ = some (.int .u8 48) := by rw [hc 1]; rfl
        have hd : m / 10000 % 10 < 10 := Nat.mod_lt _ (by omega)
        have hq : m / 10000 ≤ 999999 := Nat.le_trans (Nat.div_le_self _ _) hm
        have HE := Lib.hid (show TRow (wr.setCell ⟨w.heap.size, 1, none⟩ (.int .u8 ((48 + m / 10000 % 10 : Nat) : Int))) w.heap.size (tRow m 5) ∧ Below w.heap.size w (wr.setCell ⟨w.heap.size, 1, none⟩ (.int .u8 ((48 + m / 10000 % 10 : Nat) : Int))) from
          ⟨⟨mk, hmk, by rw [Go.Joins.block_setCell hrow _]; rfl⟩, hbel.setCell (by simp) _⟩)
        rw [show ((48 + m / 10000 % 10 : Nat) : Int) = 48 + ((m : Int) / 10000 % 10) by omega] at HE
        clear hc hrow hmk
        go_wp2
        go_roundw
        case rel => exact ⟨5, m / 100000, by omega, by show _ = Value.int .i64 ((m / 100000 : Nat) : Int); congr 1; omega, rfl, rfl, HE.out.1, HE.out.2⟩
        case measure => simp [intOf]
      · -- 5
        obtain rfl : q = m / 100000 := hqq
        obtain ⟨mk, hmk, hrow⟩ := hrow
        dsimp only [tRow, tQ] at hrow
        have hc := fun j => cell_of_row wr w.heap.size j _ _ _ hrow
        have hfz : wr.frozen? ⟨w.heap.size, 0, none⟩ = false := by simp [World.frozen?, hrow, hmk]
        have hlt : w.heap.size < wr.heap.size := (Array.getElem?_eq_some_iff.1 hrow).1
        have hcc : wr.cell? ⟨w.heap.size, 0, none⟩ = some (.int .u8 48) := by rw [hc 0]; rfl
        have hd : m / 100000 % 10 < 10 := Nat.mod_lt _ (by omega)
        have hq : m / 100000 ≤ 999999 := Nat.le_trans (Nat.div_le_self _ _) hm
        have HE := Lib.hid (show TRow (wr.setCell ⟨w.heap.size, 0, none⟩ (.int .u8 ((48 + m / 100000 % 10 : Nat) : Int))) w.heap.size (tRow m 6) ∧ Below w.heap.size w (wr.setCell ⟨w.heap.size, 0, none⟩ (.int .u8 ((48 + m / 100000 % 10 : Nat) : Int))) from
          ⟨⟨mk, hmk, by rw [Go.Joins.block_setCell hrow _]; rfl⟩, hbel.setCell (by simp) _⟩)
        rw [show ((48 + m / 100000 % 10 : Nat) : Int) = 48 + ((m : Int) / 100000 % 10) by omega] at HE
        clear hc hrow hmk
        go_wp2
        go_roundw
        case rel => exact ⟨6, m / 1000000, by omega, by show _ = Value.int .i64 ((m / 1000000 : Nat) : Int); congr 1; omega, rfl, rfl, HE.out.1, HE.out.2⟩
        case measure => simp [intOf]
      · -- 6
        obtain rfl : q = m / 1000000 := hqq
        obtain ⟨mk, hmk, hrow⟩ := hrow
        dsimp only [tRow, tQ] at hrow
        have hby : Byt wr (some ⟨w.heap.size, 0, none⟩) (tRow m 6) := .inr ⟨_, 0, rfl, (Array.getElem?_eq_some_iff.1 hrow).1, fun i hi => by
          rw [Nat.zero_add, cell_of_row wr w.heap.size i _ _ _ hrow]
          have hi' : i < 10 := hi
          unfold u8s
          rw [List.getElem?_toArray, List.getElem?_map]
          show Option.map _ (tRow m 6)[i]? = _
          rw [List.getElem?_eq_getElem hi]; rfl⟩
        have hcv := conv_bytes hby (by intro x hx; simp [tRow] at hx; omega) (fun e => by cases e) 10 10 rfl
        rw [tRow_end hm] at hcv
        clear hrow hmk hby
        go_wp2
        go_ret
        rw [hE.out]
        exact ⟨rfl, hbel⟩
theorem wName_out {n : Int} (h : n < 1 ∨ 999999 < n) : wName n = [] := by unfold wName; rw [if_pos h]
theorem nm_in {n : Int} (h : ¬ (n < 1 ∨ 999999 < n)) : wName n = wnm n.toNat := by unfold wName; rw [if_neg h]
theorem strB_nil : (strB ([] : Bs)).toList = [] := strB_toList []
namespace walNames
set_option maxRecDepth 100000 in
set_option maxHeartbeats 4000000 in
theorem walk (a b : Int) (W : World) (wa : (Lit.int .i64 a).wf = true) (wb : (Lit.int .i64 b).wf = true) (hv : Vars W) :
    Calls Tryz.prog 6 #[.int .i64 a, .int .i64 b] W fun e w' => e = .returned (.bool true) ∧ Below W.heap.size W w' := by
  have ha := wf_i64 wa
  have hb' := wf_i64 wb
  have HV := Lib.hid hv
  clear wa wb hv
  by_cases h1 : a < 1 ∨ 999999 < a
  · by_cases h2 : b < 1 ∨ 999999 < b
    · have x1 := wName_out h1
      have x2 := wName_out h2
      have X1 := Lib.hid x1
      have X2 := Lib.hid x2
      have hemp := strB_nil
      clear x1 x2 h1 h2
      by_cases hab : a = b
      · have q1 : (a == b) = true := by simpa using hab
        clear hab
        have HA := Lib.hid (Name_any a ha W HV.out)
        rw [X1.out] at HA
        go_enter Tryz.func6, Tryz.ntmps6
        go_wp2_with fail
        refine HA.out.mono ?_
        rintro e W1 ⟨rfl, hb⟩
        have HB1 := Lib.hid hb
        have HB := Lib.hid (Name_any b hb' W1 (HV.out.below hb))
        rw [X2.out] at HB
        clear hb HA
        go_wp2_with fail
        refine HB.out.mono ?_
        rintro e W2 ⟨rfl, hb⟩
        have HB2 := Lib.hid (HB1.out.trans (hb.mono HB1.out.size))
        have HL := Lib.hid (logged_any W2 (HV.out.below HB2.out))
        clear hb HB
        go_wp2_with fail
        refine HL.out.mono ?_
        rintro e W3 ⟨rfl, hb⟩
        have HB3 := Lib.hid (HB2.out.trans (hb.mono HB2.out.size))
        have HTA := Lib.hid (tName_any a W3)
        rw [X1.out] at HTA
        clear hb HL
        go_wp2_with fail
        refine HTA.out.mono ?_
        rintro e W4 ⟨rfl, hb⟩
        have HB4 := Lib.hid (HB3.out.trans (hb.mono HB3.out.size))
        have HTB := Lib.hid (tName_any b W4)
        rw [X2.out] at HTB
        clear hb HTA
        go_wp2_with fail
        refine HTB.out.mono ?_
        rintro e W5 ⟨rfl, hb⟩
        have HB5 := Lib.hid (HB4.out.trans (hb.mono HB4.out.size))
        clear hb HTB
        go_wp2
        go_ret
        exact ⟨rfl, HB5.out⟩
      · have q1 : (a == b) = false := by simpa using hab
        clear hab
        have HA := Lib.hid (Name_any a ha W HV.out)
        rw [X1.out] at HA
        go_enter Tryz.func6, Tryz.ntmps6
        go_wp2_with fail
        refine HA.out.mono ?_
        rintro e W1 ⟨rfl, hb⟩
        have HB1 := Lib.hid hb
        have HB := Lib.hid (Name_any b hb' W1 (HV.out.below hb))
        rw [X2.out] at HB
        clear hb HA
        go_wp2_with fail
        refine HB.out.mono ?_
        rintro e W2 ⟨rfl, hb⟩
        have HB2 := Lib.hid (HB1.out.trans (hb.mono HB1.out.size))
        have HL := Lib.hid (logged_any W2 (HV.out.below HB2.out))
        clear hb HB
        go_wp2_with fail
        refine HL.out.mono ?_
        rintro e W3 ⟨rfl, hb⟩
        have HB3 := Lib.hid (HB2.out.trans (hb.mono HB2.out.size))
        have HTA := Lib.hid (tName_any a W3)
        rw [X1.out] at HTA
        clear hb HL
        go_wp2_with fail
        refine HTA.out.mono ?_
        rintro e W4 ⟨rfl, hb⟩
        have HB4 := Lib.hid (HB3.out.trans (hb.mono HB3.out.size))
        have HTB := Lib.hid (tName_any b W4)
        rw [X2.out] at HTB
        clear hb HTA
        go_wp2_with fail
        refine HTB.out.mono ?_
        rintro e W5 ⟨rfl, hb⟩
        have HB5 := Lib.hid (HB4.out.trans (hb.mono HB4.out.size))
        clear hb HTB
        go_wp2
        go_ret
        exact ⟨rfl, HB5.out⟩
    · have q1 : (a == b) = false := by simp; omega
      have X1 := Lib.hid (wName_out h1)
      have X2 := Lib.hid (nm_in h2)
      have hemp := strB_nil
      have he2 : (strB (wnm b.toNat)).toList.isEmpty = false := by rw [strB_toList]; rfl
      have he3 : (strB (wnm b.toNat)).toList ≠ [] := by rw [strB_toList]; simp [wnm]
      have he4 : ((strB ([] : Bs)).toList == (strB (wnm b.toNat)).toList) = false := by rw [strB_toList, strB_toList]; rfl
      clear h1 h2
      have HA := Lib.hid (Name_any a ha W HV.out)
      rw [X1.out] at HA
      go_enter Tryz.func6, Tryz.ntmps6
      go_wp2_with fail
      refine HA.out.mono ?_
      rintro e W1 ⟨rfl, hb⟩
      have HB1 := Lib.hid hb
      have HB := Lib.hid (Name_any b hb' W1 (HV.out.below hb))
      rw [X2.out] at HB
      clear hb HA
      go_wp2_with fail
      refine HB.out.mono ?_
      rintro e W2 ⟨rfl, hb⟩
      have HB2 := Lib.hid (HB1.out.trans (hb.mono HB1.out.size))
      have HL := Lib.hid (logged_any W2 (HV.out.below HB2.out))
      clear hb HB
      go_wp2_with fail
      refine HL.out.mono ?_
      rintro e W3 ⟨rfl, hb⟩
      have HB3 := Lib.hid (HB2.out.trans (hb.mono HB2.out.size))
      have HTA := Lib.hid (tName_any a W3)
      rw [X1.out] at HTA
      clear hb HL
      go_wp2_with fail
      refine HTA.out.mono ?_
      rintro e W4 ⟨rfl, hb⟩
      have HB4 := Lib.hid (HB3.out.trans (hb.mono HB3.out.size))
      have HTB := Lib.hid (tName_any b W4)
      rw [X2.out] at HTB
      clear hb HTA
      go_wp2_with fail
      refine HTB.out.mono ?_
      rintro e W5 ⟨rfl, hb⟩
      have HB5 := Lib.hid (HB4.out.trans (hb.mono HB4.out.size))
      clear hb HTB
      go_wp2
      go_ret
      exact ⟨rfl, HB5.out⟩
  · by_cases h2 : b < 1 ∨ 999999 < b
    · have q1 : (a == b) = false := by simp; omega
      have X1 := Lib.hid (nm_in h1)
      have X2 := Lib.hid (wName_out h2)
      have hemp := strB_nil
      have he2 : (strB (wnm a.toNat)).toList.isEmpty = false := by rw [strB_toList]; rfl
      have he3 : (strB (wnm a.toNat)).toList ≠ [] := by rw [strB_toList]; simp [wnm]
      have he4 : ((strB (wnm a.toNat)).toList == (strB ([] : Bs)).toList) = false := by rw [strB_toList, strB_toList]; rfl
      have hsz : (strB (wnm a.toNat)).size = 10 := by rw [strB_size]; rfl
      clear h1 h2
      have HA := Lib.hid (Name_any a ha W HV.out)
      rw [X1.out] at HA
      go_enter Tryz.func6, Tryz.ntmps6
      go_wp2_with fail
      refine HA.out.mono ?_
      rintro e W1 ⟨rfl, hb⟩
      have HB1 := Lib.hid hb
      have HB := Lib.hid (Name_any b hb' W1 (HV.out.below hb))
      rw [X2.out] at HB
      clear hb HA
      go_wp2_with fail
      refine HB.out.mono ?_
      rintro e W2 ⟨rfl, hb⟩
      have HB2 := Lib.hid (HB1.out.trans (hb.mono HB1.out.size))
      have HL := Lib.hid (logged_any W2 (HV.out.below HB2.out))
      clear hb HB
      go_wp2_with fail
      refine HL.out.mono ?_
      rintro e W3 ⟨rfl, hb⟩
      have HB3 := Lib.hid (HB2.out.trans (hb.mono HB2.out.size))
      have HTA := Lib.hid (tName_any a W3)
      rw [X1.out] at HTA
      clear hb HL
      go_wp2_with fail
      refine HTA.out.mono ?_
      rintro e W4 ⟨rfl, hb⟩
      have HB4 := Lib.hid (HB3.out.trans (hb.mono HB3.out.size))
      have HTB := Lib.hid (tName_any b W4)
      rw [X2.out] at HTB
      clear hb HTA
      go_wp2_with fail
      refine HTB.out.mono ?_
      rintro e W5 ⟨rfl, hb⟩
      have HB5 := Lib.hid (HB4.out.trans (hb.mono HB4.out.size))
      clear hb HTB
      have HI := Lib.hid (isName_any (strB (wnm a.toNat)) W5)
      rw [strB_list, wnm_nm] at HI
      go_wp2_with fail
      refine HI.out.mono ?_
      rintro e W6 ⟨rfl, rfl⟩
      clear HI
      go_wp2
      go_ret
      exact ⟨rfl, HB5.out⟩
    · by_cases hab : a = b
      · subst hab
        have X1 := Lib.hid (nm_in h1)
        have X2 := X1
        have he2 : (strB (wnm a.toNat)).toList.isEmpty = false := by rw [strB_toList]; rfl
        have he3 : (strB (wnm a.toNat)).toList ≠ [] := by rw [strB_toList]; simp [wnm]
        have hsz : (strB (wnm a.toNat)).size = 10 := by rw [strB_size]; rfl
        have b := a
        clear h1 h2
        have HA := Lib.hid (Name_any a ha W HV.out)
        rw [X1.out] at HA
        go_enter Tryz.func6, Tryz.ntmps6
        go_wp2_with fail
        refine HA.out.mono ?_
        rintro e W1 ⟨rfl, hb⟩
        have HB1 := Lib.hid hb
        have HB := Lib.hid (Name_any a hb' W1 (HV.out.below hb))
        rw [X2.out] at HB
        clear hb HA
        go_wp2_with fail
        refine HB.out.mono ?_
        rintro e W2 ⟨rfl, hb⟩
        have HB2 := Lib.hid (HB1.out.trans (hb.mono HB1.out.size))
        have HL := Lib.hid (logged_any W2 (HV.out.below HB2.out))
        clear hb HB
        go_wp2_with fail
        refine HL.out.mono ?_
        rintro e W3 ⟨rfl, hb⟩
        have HB3 := Lib.hid (HB2.out.trans (hb.mono HB2.out.size))
        have HTA := Lib.hid (tName_any a W3)
        rw [X1.out] at HTA
        clear hb HL
        go_wp2_with fail
        refine HTA.out.mono ?_
        rintro e W4 ⟨rfl, hb⟩
        have HB4 := Lib.hid (HB3.out.trans (hb.mono HB3.out.size))
        have HTB := Lib.hid (tName_any a W4)
        rw [X2.out] at HTB
        clear hb HTA
        go_wp2_with fail
        refine HTB.out.mono ?_
        rintro e W5 ⟨rfl, hb⟩
        have HB5 := Lib.hid (HB4.out.trans (hb.mono HB4.out.size))
        clear hb HTB
        have HI := Lib.hid (isName_any (strB (wnm a.toNat)) W5)
        rw [strB_list, wnm_nm] at HI
        go_wp2_with fail
        refine HI.out.mono ?_
        rintro e W6 ⟨rfl, rfl⟩
        clear HI
        go_wp2
        go_ret
        exact ⟨rfl, HB5.out⟩
      · have q1 : (a == b) = false := by simpa using hab
        have X1 := Lib.hid (nm_in h1)
        have X2 := Lib.hid (nm_in h2)
        have he2 : (strB (wnm a.toNat)).toList.isEmpty = false := by rw [strB_toList]; rfl
        have he3 : (strB (wnm a.toNat)).toList ≠ [] := by rw [strB_toList]; simp [wnm]
        have he4 : ((strB (wnm a.toNat)).toList == (strB (wnm b.toNat)).toList) = false := by
          rw [strB_toList, strB_toList, beq_eq_false_iff_ne]
          intro e
          have := wnm_inj (by omega) (by omega) e
          omega
        have hsz : (strB (wnm a.toNat)).size = 10 := by rw [strB_size]; rfl
        clear h1 h2 hab
        have HA := Lib.hid (Name_any a ha W HV.out)
        rw [X1.out] at HA
        go_enter Tryz.func6, Tryz.ntmps6
        go_wp2_with fail
        refine HA.out.mono ?_
        rintro e W1 ⟨rfl, hb⟩
        have HB1 := Lib.hid hb
        have HB := Lib.hid (Name_any b hb' W1 (HV.out.below hb))
        rw [X2.out] at HB
        clear hb HA
        go_wp2_with fail
        refine HB.out.mono ?_
        rintro e W2 ⟨rfl, hb⟩
        have HB2 := Lib.hid (HB1.out.trans (hb.mono HB1.out.size))
        have HL := Lib.hid (logged_any W2 (HV.out.below HB2.out))
        clear hb HB
        go_wp2_with fail
        refine HL.out.mono ?_
        rintro e W3 ⟨rfl, hb⟩
        have HB3 := Lib.hid (HB2.out.trans (hb.mono HB2.out.size))
        have HTA := Lib.hid (tName_any a W3)
        rw [X1.out] at HTA
        clear hb HL
        go_wp2_with fail
        refine HTA.out.mono ?_
        rintro e W4 ⟨rfl, hb⟩
        have HB4 := Lib.hid (HB3.out.trans (hb.mono HB3.out.size))
        have HTB := Lib.hid (tName_any b W4)
        rw [X2.out] at HTB
        clear hb HTA
        go_wp2_with fail
        refine HTB.out.mono ?_
        rintro e W5 ⟨rfl, hb⟩
        have HB5 := Lib.hid (HB4.out.trans (hb.mono HB4.out.size))
        clear hb HTB
        have HI := Lib.hid (isName_any (strB (wnm a.toNat)) W5)
        rw [strB_list, wnm_nm] at HI
        go_wp2_with fail
        refine HI.out.mono ?_
        rintro e W6 ⟨rfl, rfl⟩
        clear HI
        go_wp2
        go_ret
        exact ⟨rfl, HB5.out⟩
end walNames
end Go.Proofs.YtadnecgcoceklaaGreatDoor
