/-
  What Encode answers.
-/
import Derived.Test.YthpcgdgahlcblaaBatW1
namespace Go.Proofs.Ythpcgdgahlcblaa
open Go.RowKit

theorem own_of_row {w : World} {B g m : Nat} {f : Nat → Nat} (h : w.rowIs g 5 m (fun c => .int .u8 (f c : Int))) (hB : B ≤ g) (hm : m ≤ maxLen) : w.ownsRow B 5 1 (.slice (some ⟨g, 0, none⟩) m m) m (u8s ((List.range m).map f)) := by
  obtain ⟨c, hb, hn, hc⟩ := h
  refine ⟨by simp [u8s], .inr ⟨g, m, c, rfl, hB, hb, Nat.le_refl _, hm, by omega, ?_⟩⟩
  apply List.ext_getElem?
  intro i
  by_cases hi : i < m
  · rw [List.getElem?_take, if_pos (by omega), Array.getElem?_toList, hc i hi]
    simp [u8s, hi]
  · rw [List.getElem?_take, if_neg (by omega)]
    simp [u8s, hi]
/-- New bytes of one's own, behind OK. -/
def FreshO (w : World) (l : List Nat) (e : Ending) (w' : World) : Prop := ∃ v, e = .returned (.tuple #[v, .int .i64 0]) ∧ w'.ownsRow w.heap.size 5 1 v l.length (u8s l) ∧ Below w.heap.size w w'
set_option maxRecDepth 100000 in
set_option maxHeartbeats 800000 in
theorem fixed_own (n s : Nat) (h8 : s ≤ 8) (hn : n < 2 ^ (8 * s)) (w : World) :
    Calls Try.prog 31 #[.int .u64 (n : Int), .int .i64 (s : Int)] w (FreshO w (fixL n s)) := by
  have hn64 : n < 18446744073709551616 := Nat.lt_of_lt_of_le hn (show 2 ^ (8 * s) ≤ 2 ^ 64 from Nat.pow_le_pow_right (by omega) (by omega))
  have hz : ((n : Int) / 2 ^ (8 * s) != 0) = false := by
    have : (n : Int) / 2 ^ (8 * s) = ((n / 2 ^ (8 * s) : Nat) : Int) := by rw [Int.natCast_ediv]; simp
    rw [this, Nat.div_eq_of_lt hn]; rfl
  have kmk := run_make_row' (P := Try.prog) 23 5 (.int .u8 0) 1 Try.underlying23 Try.info5 rfl .i64 .i64 s (by omega) (by omega)
  have hst : (w.alloc (.cells (madeCells #[.int .u8 0] s) 5)).rowIs w.heap.size 5 s (fun c => .int .u8 ((if c < 0 then n / 2 ^ (8 * c) % 256 else 0 : Nat) : Int)) := (World.rowIs_made w (.int .u8 0) s 5).congr (fun c _ => by simp)
  have HST := Lib.hid hst
  clear hst hn
  go_enter Try.func31, Try.ntmps31
  go_wp2_with fail
  go_loopw [7, 23] (fun _ i wr => ∃ k : Nat, k ≤ s ∧ i = .int .i64 (k : Int) ∧ Hid (wr.rowIs w.heap.size 5 s (fun c => .int .u8 ((if c < k then n / 2 ^ (8 * c) % 256 else 0 : Nat) : Int)) ∧ Below w.heap.size w wr)) (fun _ i _ => s - (intOf i).toNat)
  case atStart => exact ⟨0, by omega, rfl, HST.out, (Below.refl _ _).alloc (Nat.le_refl _) _⟩
  case round =>
    obtain ⟨k, hk, rfl, hI⟩ := hrel
    clear HST kmk hz
    by_cases hlt : k < s
    · have c0 := hI.out.1.cell hlt
      have z0 := hI.out.1.frozen k
      have hv : ((n : Int) / 2 ^ (8 * k)) % 256 = ((n / 2 ^ (8 * k) % 256 : Nat) : Int) := by rw [Int.natCast_emod, Int.natCast_ediv]; simp
      have hstep : (wr.setCell ⟨w.heap.size, k, none⟩ (.int .u8 (((n : Int) / 2 ^ (8 * k)) % 256))).rowIs w.heap.size 5 s (fun c => .int .u8 ((if c < k + 1 then n / 2 ^ (8 * c) % 256 else 0 : Nat) : Int)) :=
        (hI.out.1.set k _).congr (fun c _ => by
          by_cases e : c = k
          · subst e; rw [if_pos rfl, if_pos (by omega), hv]
          · rw [if_neg e]
            by_cases e2 : c < k
            · rw [if_pos e2, if_pos (by omega)]
            · rw [if_neg e2, if_neg (by omega)])
      have HSTEP := Lib.hid hstep
      have HBL := Lib.hid (fun v => hI.out.2.setCell (p := ⟨w.heap.size, k, none⟩) (Nat.le_refl _) v)
      clear hstep hv hI
      go_wp2
      go_roundw
      case rel => exact ⟨k + 1, by omega, by go_num, HSTEP.out, HBL.out _⟩
      case measure => simp [intOf]; omega
    · obtain rfl : k = s := by omega
      have hB : Byt wr (some ⟨w.heap.size, 0, none⟩) (fixL n k) := by
        by_cases h0 : k = 0
        · left; subst h0; rfl
        · refine .inr ⟨w.heap.size, 0, rfl, hI.out.1.lt, fun i hi => ?_⟩
          rw [fixL_length] at hi
          rw [Nat.zero_add, hI.out.1.cell hi, if_pos hi]; simp [fixL]
      have hO := own_of_row hI.out.1 (Nat.le_refl _) (by unfold maxLen; omega)
      rw [show (List.range k).map (fun c => if c < k then n / 2 ^ (8 * c) % 256 else 0) = fixL n k from by
        unfold fixL
        apply List.map_congr_left
        intro c hc
        rw [if_pos (List.mem_range.1 hc)]] at hO
      have HOW := Lib.hid hO
      have HB := Lib.hid hB
      have HW := Lib.hid hI.out.2
      have HLN : Hid ((fixL n k).length = k) := Lib.hid (fixL_length n k)
      clear hB hI hO
      go_wp2
      go_ret2
      exact ⟨_, rfl, by rw [HLN.out]; exact HOW.out, HW.out⟩
/-- A text's bytes, new. -/
theorem text_any (w : World) (s : ByteArray) (hs : s.size ≤ 100000) : Calls Try.prog 32 #[.string s] w fun e w' => ∃ a cap, e = .returned (.slice a (textL s).length cap) ∧ Byt w' a (textL s) ∧ a ≠ none ∧ Below w.heap.size w w' := by
  refine (VA.PutText_any w s (by omega)).mono ?_
  rintro e w' ⟨v, rfl, ho, hb⟩
  have ho' : w'.ownsRow w.heap.size 5 1 v (textL s).length (u8s (textL s)) := ho
  obtain ⟨a, cap, rfl, h1, h2, h3⟩ := byt_of_own ho'
  have hp := (VA.putL_len10 s.size (by omega)).2
  refine ⟨a, cap, rfl, h1, fun e => ?_, hb⟩
  have hl : (textL s).length = 0 := by rw [h2 e]; rfl
  unfold textL at hl
  rw [List.length_append] at hl
  omega
theorem textL_len (s : ByteArray) (hs : s.size ≤ 100000) : s.size + 1 ≤ (textL s).length ∧ (textL s).length ≤ s.size + 10 := by
  have hp := VA.putL_len10 s.size (by omega)
  have hn : (natsOf s).length = s.size := natsOf_length s
  unfold textL
  rw [List.length_append]
  omega
theorem textL_byte (s : ByteArray) : ∀ x ∈ textL s, x < 256 := by
  intro x hx
  unfold textL at hx
  rcases List.mem_append.1 hx with h | h
  · exact VA.putL_byte _ x h
  · exact natsOf_byte s x h
theorem opsL_snoc (l : List OpV) (i : Nat) (hi : i < l.length) : opsL (l.take (i + 1)) = opsL (l.take i) ++ opL l[i] := by
  unfold opsL; rw [List.take_succ_eq_append_getElem hi, List.flatMap_append]; simp
theorem chk_zero {seq : Int} {l : List OpV} (h : chkI seq l = 0) : l.length ≤ 200 ∧ 0 < l.length ∧ 1 ≤ seq ∧ seq ≤ 72057594037927935 ∧ ∀ i (hi : i < l.length), l[i].key.size ≤ 64 ∧ l[i].val.size ≤ 1000 ∧ (l[i].kind = 1 ∨ l[i].kind = 0) := by
  unfold chkI at h
  split at h
  · cases h
  · rename_i h1
    split at h
    · cases h
    · rename_i h2
      split at h
      · cases h
      · rename_i h3
        have hb : l.any bigB = false := by simpa using fun e => h1 (.inr e)
        have hf : l.any formB = false := by simpa using fun e => h2 (.inr e)
        refine ⟨by omega, by omega, by omega, by omega, fun i hi => ?_⟩
        have b1 := List.any_eq_false.1 hb _ (List.getElem_mem hi)
        have b2 := List.any_eq_false.1 hf _ (List.getElem_mem hi)
        unfold bigB at b1
        simp at b1
        unfold formB at b2
        refine ⟨by omega, by omega, ?_⟩
        by_cases k1 : l[i].kind = 1
        · exact .inl k1
        · by_cases k0 : l[i].kind = 0
          · exact .inr k0
          · rw [if_neg k1, if_neg k0] at b2; exact absurd rfl b2
/-- What Encode tells. -/
def encR (seq : Int) (l : List OpV) : List Nat := if chkI seq l = 0 then encL seq.toNat l else []
def EncV (w : World) (seq : Int) (l : List OpV) (e : Ending) (w' : World) : Prop := ∃ v, e = .returned (.tuple #[v, .int .i64 (chkI seq l)]) ∧ w'.ownsRow w.heap.size 5 1 v (encR seq l).length (u8s (encR seq l)) ∧ Below w.heap.size w w'
set_option maxRecDepth 100000 in
set_option maxHeartbeats 2000000 in
theorem encode_any (seq : Int) (hs : -9223372036854775808 ≤ seq ∧ seq ≤ 9223372036854775807) (w : World) (a : Option Addr) (n cap : Nat) (l : List OpV) (hl : OpsAt w a l) (hn : l.length = n) (hm : n ≤ 9223372036854775807) :
    Calls Try.prog 12 #[.int .i64 seq, .slice a n cap] w (EncV w seq l) := by
  have HC := Lib.hid (check_any seq hs w a n cap l hl hn hm)
  by_cases hz : chkI seq l = 0
  · obtain ⟨z1, z2, z3, z4, z5⟩ := chk_zero hz
    obtain ⟨s, rfl⟩ : ∃ s : Nat, seq = (s : Int) := ⟨seq.toNat, by omega⟩
    have HR : Hid (encR (s : Int) l = fixL s 8 ++ fixL n 4 ++ opsL l) := Lib.hid (by unfold encR encL; rw [if_pos hz, Int.toNat_natCast, hn])
    have HZ := Lib.hid hz
    have HZ5 := Lib.hid z5
    have HL := Lib.hid hl
    have HN := Lib.hid hn
    rw [hn] at z1 z2
    rw [hz] at HC
    have HF8 := Lib.hid (fun wx => fixed_own s 8 (by omega) (by omega) wx)
    have HF4 := Lib.hid (fun wx => fixed_own n 4 (by omega) (by omega) wx)
    clear hl hn hz z5 hs
    go_enter Try.func12, Try.ntmps12
    go_wp2_with fail
    refine HC.out.mono ?_
    rintro e W1 ⟨rfl, b1⟩
    have HB1 := Lib.hid b1
    have s1 := b1.size
    clear b1 HC
    go_wp2_with fail
    refine (HF8.out _).mono ?_
    rintro e W2 ⟨v2, rfl, o2, b2⟩
    have HB2 := Lib.hid (HB1.out.trans (b2.mono s1))
    have s2 := HB2.out.size
    have HO2 := Lib.hid o2
    clear o2 b2 HF8
    go_wp2_with fail
    refine (HF4.out _).mono ?_
    rintro e W3 ⟨v3, rfl, o3, b3⟩
    have HB3 := Lib.hid (HB2.out.trans (b3.mono s2))
    have s3 := HB3.out.size
    have o2' := own_keep HO2.out b3
    have o2w : W3.ownsRow w.heap.size 5 1 v2 (fixL s 8).length (u8s (fixL s 8)) := by
      refine ⟨o2'.1, ?_⟩
      rcases o2'.2 with h | ⟨g, cap', cur, h1, h2, h3⟩
      · exact .inl h
      · exact .inr ⟨g, cap', cur, h1, by omega, h3⟩
    obtain ⟨a3, c3, rfl, y3, n3, _⟩ := byt_of_own o3
    have l4 : (fixL n 4).length = 4 := fixL_length _ _
    have l8 : (fixL s 8).length = 8 := fixL_length _ _
    have h3n : a3 ≠ none := fun e => by have := n3 e; rw [this] at l4; cases l4
    obtain ⟨v4, W4, r4, o4, b4, -⟩ := appU w.heap.size W3 v2 (fixL s 8) (fixL n 4) (fixL s 8).length a3 c3 o2w y3 (fun e => absurd e h3n) s3 (by omega)
    rw [l4, l8] at o4
    have HO4 := Lib.hid o4
    have HB4 := Lib.hid (HB3.out.trans b4)
    have hl4 := l4
    clear o2' o2w y3 n3 o4 b3 b4 o3 HO2 HF4
    go_wp2_with (at_builtin; refine wpList_app_run rfl rfl r4 rfl rfl ?_)
    go_loopw [7, 12, 37] (fun u7 _ u37 wr => ∃ (i m : Nat), u37 = .int .i64 (i : Int) ∧ i ≤ n ∧ m ≤ 12 + 1200 * i ∧ wr.ownsRow w.heap.size 5 1 u7 m (u8s (fixL s 8 ++ fixL n 4 ++ opsL (l.take i))) ∧ Below w.heap.size w wr) (fun _ _ u37 _ => n - (intOf u37).toNat)
    case atStart => exact ⟨0, 8 + 4, rfl, Nat.zero_le _, by omega, by rw [List.take_zero]; show W4.ownsRow _ _ _ _ _ (u8s (fixL s 8 ++ fixL n 4 ++ [])); rw [List.append_nil]; exact HO4.out, HB4.out⟩
    case round =>
      obtain ⟨i, m, rfl, hi, hml, ho, hbel⟩ := hrel
      have HO := Lib.hid ho
      have HB := Lib.hid hbel
      have hws := hbel.size
      clear ho hbel HO4 HB4 r4
      by_cases hin : i < n
      · have hil : i < l.length := by rw [HN.out]; exact hin
        obtain ⟨b, off, rfl, hlt, c0, c1, c2⟩ := (HL.out.keep HB.out).at hil
        obtain ⟨q1, q2, q3⟩ := HZ5.out i hil
        have HST := Lib.hid (opsL_snoc l i hil)
        generalize l[i] = o at *
        obtain ⟨kd, ky, vl⟩ := o
        dsimp only at c0 c1 c2 q1 q2 q3
        rcases q3 with rfl | rfl
        · have hq : wr.heap.size < (wr.alloc (.cells #[.int .i64 1, .string ky, .string vl] 48)).heap.size := by simp
          have hWa : ((wr.alloc (.cells #[.int .i64 1, .string ky, .string vl] 48)).alloc (.cells #[.int .u8 1] 5)).heap[wr.heap.size]? = some (.cells #[.int .i64 1, .string ky, .string vl] 48 (0, 0)) := (Below.heap_alloc _ _ _ hq).trans (heap_alloc_new wr _)
          have hown : ((wr.alloc (.cells #[.int .i64 1, .string ky, .string vl] 48)).alloc (.cells #[.int .u8 1] 5)).ownsRow w.heap.size 5 1 _ m (u8s (fixL s 8 ++ fixL n 4 ++ opsL (l.take i))) := own_keep (own_keep HO.out (below_alloc (Nat.le_refl _) _)) (below_alloc (Nat.le_refl _) _)
          have hbk : Byt ((wr.alloc (.cells #[.int .i64 1, .string ky, .string vl] 48)).alloc (.cells #[.int .u8 1] 5)) (some ⟨wr.heap.size + 1, 0, none⟩) [1] := .inr ⟨_, 0, rfl, by simp, fun j hj => by
            have : j = 0 := by simp at hj; exact hj
            subst this
            have h := heap_alloc_new (wr.alloc (.cells #[.int .i64 1, .string ky, .string vl] 48)) (.cells #[.int .u8 1] 5)
            rw [show (wr.alloc (.cells #[.int .i64 1, .string ky, .string vl] 48)).heap.size = wr.heap.size + 1 by simp] at h
            rw [cell_of_row _ _ _ _ _ _ h]; rfl⟩
          have hvq : ∀ q, q < wr.heap.size + 1 → wr.heap.size ≤ q → Value.ownBlock _ ≠ some q := fun q _ h2 => own_lt HO.out h2
          obtain ⟨v1, W5, r1, o1, b1, k1⟩ := appU w.heap.size _ _ _ [1] m (some ⟨wr.heap.size + 1, 0, none⟩) 1 hown hbk (fun h => by cases h) (by simp; omega) (by simp; omega)
          obtain ⟨n1, h5⟩ := k1 wr.heap.size (by simp; omega) (own_lt HO.out (Nat.le_refl _))
          have h5' := h5.trans hWa
          have hB5 : Below w.heap.size w W5 := (HB.out.trans ((below_alloc hws _).trans (below_alloc (by simp; omega) _))).trans b1
          have hq5 : wr.heap.size < W5.heap.size := by have := b1.size; simp at this; omega
          have ck5 : W5.cell? ⟨wr.heap.size, 1, none⟩ = some (.string ky) := by rw [cell_of_row _ _ _ _ _ _ h5']; rfl
          have HTX5 := Lib.hid (text_any W5 ky (by omega))
          have HO5 := Lib.hid o1
          have HB5 := Lib.hid hB5
          have HH5 := Lib.hid h5'
          have HN1 := Lib.hid n1
          have s5 := hB5.size
          clear hWa hown hbk hvq b1 k1 h5 h5' hB5 o1 n1 hq HO HB
          go_wp2_with (at_builtin; refine wpList_app_run rfl rfl r1 rfl rfl ?_)
          refine HTX5.out.mono ?_
          rintro e W6 ⟨a6, c6, rfl, y6, n6, b6⟩
          clear c0 c1 c2
          obtain ⟨t6, t6'⟩ := textL_len ky (by omega)
          have s6 := b6.size
          obtain ⟨v2, W7, r2, o7, b7, k7⟩ := appU w.heap.size W6 v1 _ (textL ky) (m + [1].length) a6 c6 (own_keep HO5.out b6) y6 (fun h => absurd h n6) (by omega) (by simp; omega)
          obtain ⟨n7, h7⟩ := k7 wr.heap.size (by omega) HN1.out
          have h7' := h7.trans ((b6.block _ hq5).trans HH5.out)
          have hB7 : Below w.heap.size w W7 := (HB5.out.trans (b6.mono s5)).trans b7
          have hq7 : wr.heap.size < W7.heap.size := by have := b7.size; omega
          have ck0 : W7.cell? ⟨wr.heap.size, 0, none⟩ = some (.int .i64 1) := by rw [cell_of_row _ _ _ _ _ _ h7']; rfl
          have ck2 : W7.cell? ⟨wr.heap.size, 2, none⟩ = some (.string vl) := by rw [cell_of_row _ _ _ _ _ _ h7']; rfl
          have HTX7 := Lib.hid (text_any W7 vl (by omega))
          have HO7 := Lib.hid o7
          have HB7 := Lib.hid hB7
          have s7 := hB7.size
          clear h7 h7' hB7 o7 b7 k7 n7 y6 n6 b6 HTX5 HO5 HB5 HH5 HN1 ck5 r1
          go_wp2_with (at_builtin; refine wpList_app_run rfl rfl r2 rfl rfl ?_)
          refine HTX7.out.mono ?_
          rintro e W8 ⟨a8, c8, rfl, y8, n8, b8⟩
          obtain ⟨t8, t8'⟩ := textL_len vl (by omega)
          have s8 := b8.size
          obtain ⟨v3, W9, r3, o9, b9, -⟩ := appU w.heap.size W8 v2 _ (textL vl) (m + [1].length + (textL ky).length) a8 c8 (own_keep HO7.out b8) y8 (fun h => absurd h n8) (by omega) (by simp; omega)
          have HB9 : Hid (Below w.heap.size w W9) := Lib.hid ((HB7.out.trans (b8.mono s7)).trans b9)
          have HE : Hid (W9.ownsRow w.heap.size 5 1 v3 (m + [1].length + (textL ky).length + (textL vl).length) (u8s (fixL s 8 ++ fixL n 4 ++ opsL (l.take (i + 1))))) := Lib.hid (by
            have e : fixL s 8 ++ fixL n 4 ++ opsL (l.take (i + 1)) = fixL s 8 ++ fixL n 4 ++ opsL (l.take i) ++ [1] ++ textL ky ++ textL vl := by
              rw [HST.out]
              show _ ++ (_ ++ (1 :: (textL ky ++ if (1 : Int) = 1 then textL vl else []))) = _
              rw [if_pos rfl]; simp
            rw [e]; exact o9)
          clear y8 n8 b8 o9 b9 HTX7 HO7 HB7 ck0 ck2 r2
          go_wp2_with (at_builtin; refine wpList_app_run rfl rfl r3 rfl rfl ?_)
          go_roundw
          case rel => exact ⟨i + 1, _, by go_num, by omega, by simp; omega, HE.out, HB9.out⟩
          case measure => simp [intOf]; omega
        · have hq : wr.heap.size < (wr.alloc (.cells #[.int .i64 0, .string ky, .string vl] 48)).heap.size := by simp
          have hWa : ((wr.alloc (.cells #[.int .i64 0, .string ky, .string vl] 48)).alloc (.cells #[.int .u8 0] 5)).heap[wr.heap.size]? = some (.cells #[.int .i64 0, .string ky, .string vl] 48 (0, 0)) := (Below.heap_alloc _ _ _ hq).trans (heap_alloc_new wr _)
          have hown : ((wr.alloc (.cells #[.int .i64 0, .string ky, .string vl] 48)).alloc (.cells #[.int .u8 0] 5)).ownsRow w.heap.size 5 1 _ m (u8s (fixL s 8 ++ fixL n 4 ++ opsL (l.take i))) := own_keep (own_keep HO.out (below_alloc (Nat.le_refl _) _)) (below_alloc (Nat.le_refl _) _)
          have hbk : Byt ((wr.alloc (.cells #[.int .i64 0, .string ky, .string vl] 48)).alloc (.cells #[.int .u8 0] 5)) (some ⟨wr.heap.size + 1, 0, none⟩) [0] := .inr ⟨_, 0, rfl, by simp, fun j hj => by
            have : j = 0 := by simp at hj; exact hj
            subst this
            have h := heap_alloc_new (wr.alloc (.cells #[.int .i64 0, .string ky, .string vl] 48)) (.cells #[.int .u8 0] 5)
            rw [show (wr.alloc (.cells #[.int .i64 0, .string ky, .string vl] 48)).heap.size = wr.heap.size + 1 by simp] at h
            rw [cell_of_row _ _ _ _ _ _ h]; rfl⟩
          have hvq : ∀ q, q < wr.heap.size + 1 → wr.heap.size ≤ q → Value.ownBlock _ ≠ some q := fun q _ h2 => own_lt HO.out h2
          obtain ⟨v1, W5, r1, o1, b1, k1⟩ := appU w.heap.size _ _ _ [0] m (some ⟨wr.heap.size + 1, 0, none⟩) 1 hown hbk (fun h => by cases h) (by simp; omega) (by simp; omega)
          obtain ⟨n1, h5⟩ := k1 wr.heap.size (by simp; omega) (own_lt HO.out (Nat.le_refl _))
          have h5' := h5.trans hWa
          have hB5 : Below w.heap.size w W5 := (HB.out.trans ((below_alloc hws _).trans (below_alloc (by simp; omega) _))).trans b1
          have hq5 : wr.heap.size < W5.heap.size := by have := b1.size; simp at this; omega
          have ck5 : W5.cell? ⟨wr.heap.size, 1, none⟩ = some (.string ky) := by rw [cell_of_row _ _ _ _ _ _ h5']; rfl
          have HTX5 := Lib.hid (text_any W5 ky (by omega))
          have HO5 := Lib.hid o1
          have HB5 := Lib.hid hB5
          have HH5 := Lib.hid h5'
          have HN1 := Lib.hid n1
          have s5 := hB5.size
          clear hWa hown hbk hvq b1 k1 h5 h5' hB5 o1 n1 hq HO HB
          go_wp2_with (at_builtin; refine wpList_app_run rfl rfl r1 rfl rfl ?_)
          refine HTX5.out.mono ?_
          rintro e W6 ⟨a6, c6, rfl, y6, n6, b6⟩
          clear c0 c1 c2
          obtain ⟨t6, t6'⟩ := textL_len ky (by omega)
          have s6 := b6.size
          obtain ⟨v2, W7, r2, o7, b7, k7⟩ := appU w.heap.size W6 v1 _ (textL ky) (m + [0].length) a6 c6 (own_keep HO5.out b6) y6 (fun h => absurd h n6) (by omega) (by simp; omega)
          obtain ⟨n7, h7⟩ := k7 wr.heap.size (by omega) HN1.out
          have h7' := h7.trans ((b6.block _ hq5).trans HH5.out)
          have hB7 : Below w.heap.size w W7 := (HB5.out.trans (b6.mono s5)).trans b7
          have hq7 : wr.heap.size < W7.heap.size := by have := b7.size; omega
          have ck0 : W7.cell? ⟨wr.heap.size, 0, none⟩ = some (.int .i64 0) := by rw [cell_of_row _ _ _ _ _ _ h7']; rfl
          have HB9 : Hid (Below w.heap.size w W7) := Lib.hid hB7
          have HE : Hid (W7.ownsRow w.heap.size 5 1 v2 (m + [0].length + (textL ky).length) (u8s (fixL s 8 ++ fixL n 4 ++ opsL (l.take (i + 1))))) := Lib.hid (by
            have e : fixL s 8 ++ fixL n 4 ++ opsL (l.take (i + 1)) = fixL s 8 ++ fixL n 4 ++ opsL (l.take i) ++ [0] ++ textL ky := by
              rw [HST.out]
              show _ ++ (_ ++ (0 :: (textL ky ++ if (0 : Int) = 1 then textL vl else []))) = _
              rw [if_neg (by decide)]; simp
            rw [e]; exact o7)
          clear h7 h7' hB7 o7 b7 k7 n7 y6 n6 b6 HTX5 HO5 HB5 HH5 HN1 ck5 r1
          go_wp2_with (at_builtin; refine wpList_app_run rfl rfl r2 rfl rfl ?_)
          go_roundw
          case rel => exact ⟨i + 1, _, by go_num, by omega, by simp; omega, HE.out, HB9.out⟩
          case measure => simp [intOf]; omega
      · obtain rfl : i = n := by omega
        have HLEN : Hid (m = (encR (s : Int) l).length) := Lib.hid (by
          have h := own_len HO.out
          rw [List.take_of_length_le (by rw [HN.out]; exact Nat.le_refl _)] at h
          rw [HR.out, h])
        have HE : Hid (wr.ownsRow w.heap.size 5 1 _ (encR (s : Int) l).length (u8s (encR (s : Int) l))) := Lib.hid (by
          have h := HO.out
          rw [List.take_of_length_le (by rw [HN.out]; exact Nat.le_refl _), ← HR.out, HLEN.out] at h
          exact h)
        go_wp2
        go_ret2
        exact ⟨_, by rw [HZ.out]; rfl, HE.out, HB.out⟩
  · have HR : Hid (encR seq l = []) := Lib.hid (by unfold encR; rw [if_neg hz])
    obtain ⟨c, hc⟩ : ∃ c, chkI seq l = c := ⟨_, rfl⟩
    rw [hc] at HC hz
    have hcr : 0 ≤ c ∧ c ≤ 14 := by rw [← hc]; unfold chkI; repeat' split
                                    all_goals omega
    have q0 : (c != 0) = true := by simpa using hz
    have HCC := Lib.hid hc
    clear hl hn hz hc
    go_enter Try.func12, Try.ntmps12
    go_wp2_with fail
    refine HC.out.mono ?_
    rintro e W1 ⟨rfl, b1⟩
    have HB1 := Lib.hid b1
    clear b1
    go_wp2
    go_ret2
    exact ⟨_, by rw [HCC.out]; rfl, by rw [HR.out]; exact World.ownsRow_nil _ _ _ _, HB1.out⟩
end Go.Proofs.Ythpcgdgahlcblaa
