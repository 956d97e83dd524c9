/-
  What the small functions of frame answer: left, gap, Room, kindOf, follows, the masked sum, a piece that is laid.
-/
import Derived.Test.YtadnecgcoceklaaGreatDoorFrFrVar
import Derived.Test.YtadnecgcoceklaaGreatDoorFrFrCrc
namespace Go.Proofs.YtadnecgcoceklaaGreatDoor.FR
open Go.RowKit

theorem left_any (n : Nat) (hn : n ≤ 9223372036854775807) (w : World) : Calls Tryz.prog 99 #[.int .i64 (n : Int)] w fun e w' => e = .returned (.int .i64 (Frm.left n : Int)) ∧ w = w' := by
  go_enter Tryz.func99, Tryz.ntmps99
  go_wp2
  go_ret
  exact ⟨ret_int (by unfold Frm.left; omega), rfl⟩
theorem left_in (n : Nat) : 1 ≤ Frm.left n ∧ Frm.left n ≤ 128 := by unfold Frm.left; omega
theorem gap_any (n : Nat) (hn : n ≤ 9223372036854775807) (w : World) : Calls Tryz.prog 80 #[.int .i64 (n : Int)] w fun e w' => e = .returned (.int .i64 (Frm.gap n : Int)) ∧ w = w' := by
  have HL := Lib.hid (left_any n hn w)
  have hi := left_in n
  obtain ⟨x, hx⟩ : ∃ x, Frm.left n = x := ⟨_, rfl⟩
  have HG : Hid (Frm.gap n = if x < 7 then x else 0) := Lib.hid (by unfold Frm.gap; rw [hx])
  rw [hx] at HL hi
  clear hx
  by_cases h7 : x < 7
  · go_enter Tryz.func80, Tryz.ntmps80
    go_wp2_with fail
    refine (HL.out).mono ?_
    rintro e w' ⟨rfl, rfl⟩
    go_wp2
    go_ret
    exact ⟨ret_int (by rw [HG.out, if_pos h7]), rfl⟩
  · go_enter Tryz.func80, Tryz.ntmps80
    go_wp2_with fail
    refine (HL.out).mono ?_
    rintro e w' ⟨rfl, rfl⟩
    go_wp2
    go_ret
    exact ⟨ret_int (by rw [HG.out, if_neg h7]; rfl), rfl⟩
theorem gap_le (n : Nat) : Frm.gap n ≤ 6 := by unfold Frm.gap; split <;> omega
theorem Room_any (n : Nat) (hn : n ≤ 9223372036854775807) (w : World) : Calls Tryz.prog 83 #[.int .i64 (n : Int)] w fun e w' => e = .returned (.int .i64 (Frm.room n : Int)) ∧ w = w' := by
  have HL := Lib.hid (left_any n hn w)
  have HP := Lib.hid (gap_any n hn w)
  have hi := left_in n
  obtain ⟨x, hx⟩ : ∃ x, Frm.left n = x := ⟨_, rfl⟩
  have HG : Hid (Frm.room n = if x < 7 then 121 else x - 7) := Lib.hid (by unfold Frm.room; rw [hx])
  have hg : Frm.gap n = if x < 7 then x else 0 := by unfold Frm.gap; rw [hx]
  rw [hx] at HL hi
  rw [hg] at HP
  clear hx hg
  by_cases h7 : x < 7
  · rw [if_pos h7] at HP
    go_enter Tryz.func83, Tryz.ntmps83
    go_wp2_with fail
    refine (HP.out).mono ?_
    rintro e w' ⟨rfl, rfl⟩
    go_wp2
    go_ret
    exact ⟨ret_int (by rw [HG.out, if_pos h7]; rfl), rfl⟩
  · rw [if_neg h7] at HP
    go_enter Tryz.func83, Tryz.ntmps83
    go_wp2_with fail
    refine (HP.out).mono ?_
    rintro e w' ⟨rfl, rfl⟩
    go_wp2_with fail
    refine (HL.out).mono ?_
    rintro e w' ⟨rfl, rfl⟩
    go_wp2
    go_ret
    exact ⟨ret_int (by rw [HG.out, if_neg h7]; omega), rfl⟩
theorem Room_neg (z : Int) (hz : z < 0) (w : World) : Calls Tryz.prog 83 #[.int .i64 z] w fun e w' => e = .returned (.int .i64 0) ∧ w = w' := by
  go_enter Tryz.func83, Tryz.ntmps83
  go_wp2
  go_ret
  exact ⟨rfl, rfl⟩
def Frm.kindN (b e : Bool) : Nat := if b = true then (if e = true then 4 else 3) else (if e = true then 1 else 2)
theorem kindOf_any (b e : Bool) (w : World) : Calls Tryz.prog 85 #[.bool b, .bool e] w fun x w' => x = .returned (.int .u8 (Frm.kindN b e : Int)) ∧ w = w' := by
  cases b <;> cases e
  all_goals
    go_enter Tryz.func85, Tryz.ntmps85
    go_wp2
    go_ret
    exact ⟨rfl, rfl⟩
theorem follows_any (k : Nat) (b : Bool) (w : World) : Calls Tryz.prog 82 #[.int .u8 (k : Int), .bool b] w fun e w' => e = .returned (.bool (Frm.follows k b)) ∧ w = w' := by
  by_cases h1 : k = 1
  · subst h1
    go_enter Tryz.func82, Tryz.ntmps82
    go_wp2
    go_ret
    exact ⟨rfl, rfl⟩
  · by_cases h2 : k = 2
    · subst h2
      go_enter Tryz.func82, Tryz.ntmps82
      go_wp2
      go_ret
      exact ⟨rfl, rfl⟩
    · by_cases h3 : k = 3
      · subst h3
        go_enter Tryz.func82, Tryz.ntmps82
        go_wp2
        go_ret
        exact ⟨rfl, rfl⟩
      · by_cases h4 : k = 4
        · subst h4
          go_enter Tryz.func82, Tryz.ntmps82
          go_wp2
          go_ret
          exact ⟨rfl, rfl⟩
        · have q1 : ((k : Int) == 1) = false := by simp; omega
          have q2 : ((k : Int) == 2) = false := by simp; omega
          have q3 : ((k : Int) == 3) = false := by simp; omega
          have q4 : ((k : Int) == 4) = false := by simp; omega
          have HF : Hid (Frm.follows k b = false) := Lib.hid (by unfold Frm.follows; rw [if_neg (by omega), if_neg (by omega)])
          clear h1 h2 h3 h4
          go_enter Tryz.func82, Tryz.ntmps82
          go_wp2
          go_ret
          exact ⟨by rw [HF.out]; rfl, rfl⟩
/-- Bytes in memory, as they are summed. -/
theorem _root_.Go.Proofs.YtadnecgcoceklaaGreatDoor.Byt.cr {w : World} {a : Option Addr} {l : List Nat} (h : Byt w a l) (hb : ∀ x ∈ l, x < 256) : CR.Byt w a (bv l) := by
  rcases h with rfl | ⟨b, off, rfl, hlt, hc⟩
  · exact .inl rfl
  · refine .inr ⟨b, off, rfl, hlt, fun i hi => ?_⟩
    rw [bv_length] at hi
    rw [hc i hi]
    have := hb l[i] (List.getElem_mem _)
    simp [bv]; omega
set_option maxRecDepth 100000 in
set_option maxHeartbeats 400000 in
theorem sum_piece (k : Nat) (hk : k < 256) (w : World) (a : Option Addr) (cap : Nat) (l : List Nat) (hl : Byt w a l) (hb : ∀ x ∈ l, x < 256) (hm : l.length ≤ maxLen) :
    Calls Tryz.prog 101 #[.int .u8 (k : Int), .slice a l.length cap] w fun e w' => e = .returned (.int .u32 (Frm.sumN k l : Int)) ∧ Below w.heap.size w w' := by
  have h1 : ∀ wx : World, wx = w.alloc (.cells #[.int .u8 (k : Int)] 5) → CR.Byt wx (some ⟨w.heap.size, 0, none⟩) (bv [k]) := fun wx e => by
    subst e
    exact Byt.cr (.inr ⟨_, 0, rfl, by simp, fun i hi => by
      have : i = 0 := by simp at hi; exact hi
      subst this
      rw [cell_of_row _ _ _ _ _ _ (heap_alloc_new w _)]; rfl⟩) (by simpa using hk)
  have h2 : CR.Byt (w.alloc (.cells #[.int .u8 (k : Int)] 5)) a (bv l) := Byt.cr (hl.keep ((Below.refl _ _).alloc (Nat.le_refl _) _)) hb
  have HS := Lib.hid (CR.sum_any (w.alloc (.cells #[.int .u8 (k : Int)] 5)) (some ⟨w.heap.size, 0, none⟩) 1 (bv [k]) (h1 _ rfl) (by show 1 ≤ maxLen; unfold maxLen; omega))
  have HM := Lib.hid (CR.more_any (Crc.sum (bv [k])) (w.alloc (.cells #[.int .u8 (k : Int)] 5)) a cap (bv l) h2 (by rw [bv_length]; exact hm))
  have e : Crc.more (Crc.sum (bv [k])) (bv l) = Crc.sum (bv (k :: l)) := by
    unfold Crc.sum; rw [← Crc.more_append, ← bv_app]; rfl
  rw [e, bv_length] at HM
  have hlt := (Crc.sum (bv (k :: l))).isLt
  have HK := Lib.hid (CR.mask_any (Crc.sum (bv (k :: l))).toNat hlt (w.alloc (.cells #[.int .u8 (k : Int)] 5)))
  have HV : Hid (Frm.sumN k l = maskN (Crc.sum (bv (k :: l))).toNat) := Lib.hid rfl
  rw [bv_length] at HS
  clear h1 h2 hl hb
  generalize Crc.sum (bv [k]) = s1 at *
  generalize Crc.sum (bv (k :: l)) = s2 at *
  go_enter Tryz.func101, Tryz.ntmps101
  go_wp2_with fail
  refine (HS.out).mono ?_
  rintro e w' ⟨rfl, rfl⟩
  go_wp2_with fail
  refine (HM.out).mono ?_
  rintro e w' ⟨rfl, rfl⟩
  go_wp2_with fail
  refine (HK.out).mono ?_
  rintro e w' ⟨rfl, rfl⟩
  go_wp2
  go_ret
  exact ⟨by rw [HV.out]; rfl, (Below.refl _ _).alloc (Nat.le_refl _) _⟩
end Go.Proofs.YtadnecgcoceklaaGreatDoor.FR
