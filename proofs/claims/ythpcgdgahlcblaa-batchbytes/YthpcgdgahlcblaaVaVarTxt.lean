/-
  What GetText answers, and the document's own.
-/
import Derived.Test.YthpcgdgahlcblaaVaVarFix
namespace Go.Proofs.Ythpcgdgahlcblaa.VA
open Go.RowKit

theorem Byt.part {w : World} {a : Option Addr} {l : List Nat} (h : Byt w a l) (cap p q : Nat) (hc : l.length ≤ cap) (hpq : p ≤ q) (hq : q ≤ l.length) : Byt w (part a cap p) ((l.take q).drop p) := by
  by_cases h0 : p = q
  · left; subst h0; simp
  · right
    rcases h with h | ⟨b, off, rfl, hlt, hcl⟩
    · subst h; simp at hq; omega
    · refine ⟨b, off + p, ?_, hlt, fun i hi => ?_⟩
      · unfold Ythpcgdgahlcblaa.VA.part; rw [if_neg (by omega)]; simp [addr_add]
      · simp at hi
        have := hcl (p + i) (by omega)
        rw [Nat.add_assoc, this]; simp
theorem part_none {a : Option Addr} {cap p : Nat} (h : part a cap p = none) : a = none := by
  unfold part at h; split at h
  · exact h
  · simpa using h
theorem run_part {w : World} {a : Option Addr} (len cap p q : Nat) (z : Int) (hz : z = q) (hpq : p ≤ q) (hq : q ≤ cap) :
    (Instr.slice 23 (.slice a len cap) (some (.int .i64 (p : Int))) (some (.int .i64 z)) none).run Try.prog w = .ok (.slice (part a cap p) (q - p) (cap - p)) w := by
  subst hz
  have hel : Try.prog.elem 23 = 5 := by kernel_rfl
  rw [run_slice_lh (P := Try.prog) w 23 a len cap (by rw [hel]; exact Try.underlying23) .i64 .i64 p q (by omega) (by omega) (by omega), hel]
  simp [go_sem, sliced, part]
/-- What GetText tells. -/
def textV (l : List Nat) (most : Int) : Value :=
  if (getS l).2.2 ≠ 0 then .tuple #[.string ⟨#[]⟩, .int .i64 0, .int .i64 ((getS l).2.2 : Int)]
  else if most < 0 ∨ most < ((getS l).1 : Int) then .tuple #[.string ⟨#[]⟩, .int .i64 0, .int .i64 14]
  else if l.length - (getS l).2.1 < (getS l).1 then .tuple #[.string ⟨#[]⟩, .int .i64 0, .int .i64 9]
  else .tuple #[.string (strOf ((l.take ((getS l).2.1 + (getS l).1)).drop (getS l).2.1)), .int .i64 (((getS l).2.1 + (getS l).1 : Nat) : Int), .int .i64 0]
set_option maxRecDepth 100000 in
set_option maxHeartbeats 800000 in
theorem getText_any (w : World) (a : Option Addr) (cap : Nat) (l : List Nat) (hl : Byt w a l) (hb : ∀ x ∈ l, x < 256) (hnil : a = none → l = []) (hc : l.length ≤ cap) (hm : l.length ≤ maxLen) (most : Int) (hmo : -9223372036854775808 ≤ most ∧ most ≤ 9223372036854775807) :
    Calls Try.prog 98 #[.slice a l.length cap, .int .i64 most] w fun e w' => e = .returned (textV l most) ∧ w = w' := by
  have hg := get_any w a cap l hl hb hc hm
  have hlt := getS_lt l hb
  unfold maxLen at hm
  have HV : Hid (textV l most = textV l most) := Lib.hid rfl
  unfold textV at HV ⊢
  generalize getS l = r at *
  obtain ⟨x, k, e⟩ := r
  simp only at hlt HV ⊢
  have HG := Lib.hid hg
  clear HV
  by_cases he : e = 0
  · subst he
    have hxl := hlt.1
    have hkl := hlt.2.1
    simp only [ne_eq, not_true_eq_false, if_false]
    by_cases hbig : most < 0 ∨ most < (x : Int)
    · rw [if_pos hbig]
      by_cases hn0 : most < 0
      · clear hg hlt hl hb hbig
        go_enter Try.func98, Try.ntmps98
        go_wp2_with fail
        refine HG.out.mono ?_
        rintro e' w' ⟨rfl, rfl⟩
        unfold tup
        go_wp2
        go_ret3
        exact ⟨rfl, rfl⟩
      · have hgt : most < (x : Int) := by omega
        clear hg hlt hl hb hbig
        go_enter Try.func98, Try.ntmps98
        go_wp2_with fail
        refine HG.out.mono ?_
        rintro e' w' ⟨rfl, rfl⟩
        unfold tup
        go_wp2
        go_ret3
        exact ⟨rfl, rfl⟩
    · rw [if_neg hbig]
      have hn0 : ¬ most < 0 := by omega
      have hgt : ¬ most < (x : Int) := by omega
      by_cases htl : l.length - k < x
      · rw [if_pos htl]
        have ht2 : (l.length : Int) - (k : Int) < (x : Int) := by omega
        clear hg hlt hl hb hbig
        go_enter Try.func98, Try.ntmps98
        go_wp2_with fail
        refine HG.out.mono ?_
        rintro e' w' ⟨rfl, rfl⟩
        unfold tup
        go_wp2
        go_ret3
        exact ⟨rfl, rfl⟩
      · rw [if_neg htl]
        have ht2 : ¬ ((l.length : Int) - (k : Int) < (x : Int)) := by omega
        have hq : k + x ≤ l.length := by omega
        have hp := hl.part cap k (k + x) hc (by omega) hq
        have hs := run_part (w := w) (a := a) l.length cap k (k + x) ((k : Int) + x) (by omega) (by omega) (by omega)
        have hcv := conv_bytes hp (fun y hy => hb y (List.mem_of_mem_take (List.mem_of_mem_drop hy))) (fun h => by rw [hnil (part_none h)]; simp) (cap - k) (k + x - k) (by simp; omega)
        rw [show k + x - k = x by omega] at hs hcv
        clear hg hlt hl hb hbig hp
        go_enter Try.func98, Try.ntmps98
        go_wp2_with fail
        refine HG.out.mono ?_
        rintro e' w' ⟨rfl, rfl⟩
        unfold tup
        go_wp2
        go_ret3
        exact ⟨by go_num, rfl⟩
  · rw [if_pos he]
    have heb : ((e : Int) != 0) = true := by simpa using he
    clear hg hlt hl hb
    go_enter Try.func98, Try.ntmps98
    go_wp2_with fail
    refine HG.out.mono ?_
    rintro e' w' ⟨rfl, rfl⟩
    unfold tup
    go_wp2
    go_ret3
    exact ⟨rfl, rfl⟩
theorem extract_str (t : ByteArray) (a b : Nat) (_hb : b ≤ t.size) : t.extract a b = strOf (((natsOf t).take b).drop a) := by
  have h1 : (t.extract a b).data.toList = (t.data.toList.take b).drop a := by
    rw [ByteArray.data_extract, Array.toList_extract, List.extract_eq_take_drop, List.drop_take]
  have h2 : (strOf (((natsOf t).take b).drop a)).data.toList = (t.data.toList.take b).drop a := by
    show (((natsOf t).take b).drop a).map (fun c => UInt8.ofNat c) = _
    unfold natsOf
    rw [← List.map_take, ← List.map_drop, List.map_map]
    conv => rhs; rw [← List.map_id ((t.data.toList.take b).drop a)]
    apply List.map_congr_left
    intro c _; simp
  have h3 : (t.extract a b).data = (strOf (((natsOf t).take b).drop a)).data := Array.toList_inj.1 (h1.trans h2.symm)
  cases hx : t.extract a b; cases hy : strOf (((natsOf t).take b).drop a)
  rw [hx, hy] at h3; simp at h3; rw [h3]
set_option maxRecDepth 100000 in
set_option maxHeartbeats 800000 in
theorem rgetText_any (t : ByteArray) (hm : t.size ≤ maxLen) (most : Int) (hmo : -9223372036854775808 ≤ most ∧ most ≤ 9223372036854775807) (w : World) :
    Calls Try.prog 34 #[.string t, .int .i64 most] w fun e w' => e = .returned (textV (natsOf t) most) ∧ w = w' := by
  have hg := rget_any t hm w
  have hlt := getS_lt (natsOf t) (natsOf_byte t)
  unfold maxLen at hm
  unfold textV
  rw [natsOf_length] at hlt ⊢
  generalize getS (natsOf t) = r at *
  obtain ⟨x, k, e⟩ := r
  simp only at hlt ⊢
  have HG := Lib.hid hg
  clear hg
  by_cases he : e = 0
  · subst he
    have hxl := hlt.1
    have hkl := hlt.2.1
    simp only [ne_eq, not_true_eq_false, if_false]
    by_cases hbig : most < 0 ∨ most < (x : Int)
    · rw [if_pos hbig]
      by_cases hn0 : most < 0
      · clear hlt hbig
        go_enter Try.func34, Try.ntmps34
        go_wp2_with fail
        refine HG.out.mono ?_
        rintro e' w' ⟨rfl, rfl⟩
        unfold tup
        go_wp2
        go_ret3
        exact ⟨rfl, rfl⟩
      · have hgt : most < (x : Int) := by omega
        clear hlt hbig
        go_enter Try.func34, Try.ntmps34
        go_wp2_with fail
        refine HG.out.mono ?_
        rintro e' w' ⟨rfl, rfl⟩
        unfold tup
        go_wp2
        go_ret3
        exact ⟨rfl, rfl⟩
    · rw [if_neg hbig]
      have hn0 : ¬ most < 0 := by omega
      have hgt : ¬ most < (x : Int) := by omega
      by_cases htl : t.size - k < x
      · rw [if_pos htl]
        have ht2 : (t.size : Int) - (k : Int) < (x : Int) := by omega
        clear hlt hbig
        go_enter Try.func34, Try.ntmps34
        go_wp2_with fail
        refine HG.out.mono ?_
        rintro e' w' ⟨rfl, rfl⟩
        unfold tup
        go_wp2
        go_ret3
        exact ⟨rfl, rfl⟩
      · rw [if_neg htl]
        have ht2 : ¬ ((t.size : Int) - (k : Int) < (x : Int)) := by omega
        have hq : k + x ≤ t.size := by omega
        have HE := Lib.hid (extract_str t k (k + x) hq)
        have i1 : (k : Int) ≤ (k : Int) + x := by omega
        have i2 : (k : Int) + (x : Int) ≤ (t.size : Int) := by omega
        have i3 : ((k : Int) + (x : Int)).toNat = k + x := by omega
        clear hlt hbig
        go_enter Try.func34, Try.ntmps34
        go_wp2_with fail
        refine HG.out.mono ?_
        rintro e' w' ⟨rfl, rfl⟩
        unfold tup
        go_wp2
        go_ret3
        exact ⟨by rw [← HE.out]; go_num, rfl⟩
  · rw [if_pos he]
    have heb : ((e : Int) != 0) = true := by simpa using he
    clear hlt
    go_enter Try.func34, Try.ntmps34
    go_wp2_with fail
    refine HG.out.mono ?_
    rintro e' w' ⟨rfl, rfl⟩
    unfold tup
    go_wp2
    go_ret3
    exact ⟨rfl, rfl⟩
end Go.Proofs.Ythpcgdgahlcblaa.VA
