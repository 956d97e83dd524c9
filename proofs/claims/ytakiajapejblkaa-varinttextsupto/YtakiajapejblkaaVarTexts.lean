/-
  The law VarintTexts, walked, where b and s are of at most 1048576 bytes.
-/
import Derived.Test.YtakiajapejblkaaVarRP
import Derived.Laws.AppendOwnNone
namespace Go.Proofs.Ytakiajapejblkaa
open Go.RowKit

theorem textV_shape (l : List Nat) (most : Int) : ∃ (S : ByteArray) (K E : Int), textV l most = .tuple #[.string S, .int .i64 K, .int .i64 E] := by
  unfold textV
  split
  · exact ⟨_, _, _, rfl⟩
  · split
    · exact ⟨_, _, _, rfl⟩
    · split <;> exact ⟨_, _, _, rfl⟩
theorem textV_put (s : ByteArray) (hs : s.size < 18446744073709551616) (l : List Nat) (most : Int) :
    textV ((putL s.size ++ natsOf s) ++ l) most = if most < (s.size : Int) then .tuple #[.string ⟨#[]⟩, .int .i64 0, .int .i64 14] else .tuple #[.string s, .int .i64 (((putL s.size).length + s.size : Nat) : Int), .int .i64 0] := by
  have hg := getS_put s.size (natsOf s ++ l) hs
  rw [← List.append_assoc] at hg
  have hl := natsOf_length s
  unfold textV
  rw [hg]
  simp only [ne_eq, not_true_eq_false, if_false]
  by_cases h : most < (s.size : Int)
  · rw [if_pos (.inr h), if_pos h]
  · rw [if_neg (by omega), if_neg h, if_neg (by simp; omega)]
    have : (((putL s.size ++ natsOf s) ++ l).take ((putL s.size).length + s.size)).drop (putL s.size).length = natsOf s := by
      rw [List.take_append_of_le_length (by simp; omega), List.take_of_length_le (by simp; omega)]; simp
    rw [this, strOf_natsOf]
/-- Bytes in memory, as cells to append. -/
theorem Byt.news {w : World} {ad : Addr} {l : List Nat} (h : Byt w (some ad) l) : ∀ (j : Nat) (u : Value), (u8s l)[j]? = some u → w.cell? (ad.add j) = some u := by
  intro j u hu
  rcases h with rfl | ⟨b, off, he, _, hc⟩
  · simp [u8s] at hu
  · cases he
    simp only [u8s, List.getElem?_map, Option.map_eq_some_iff] at hu
    obtain ⟨n, hn, rfl⟩ := hu
    obtain ⟨hj, rfl⟩ := List.getElem?_eq_some_iff.1 hn
    rw [addr_add]; exact hc j hj
theorem u8s_one (l : List Nat) : ∀ u ∈ u8s l, u.oneCell' = true := by
  intro u hu; simp only [u8s, List.mem_map] at hu; obtain ⟨_, _, rfl⟩ := hu; rfl

namespace varintTexts
set_option maxRecDepth 100000 in
set_option maxHeartbeats 2000000 in
theorem walk (a0 : Option Addr) (len0 cap0 : Nat) (z0 : List Int) (a1 : ByteArray) (a2 : Int) (w : World) (w0 : IsRow .u8 w a0 len0 cap0 z0) (hlen : len0 ≤ 1048576) (w1 : a1.size ≤ 1048576) (w2 : (Lit.int .i64 a2).wf = true) :
    Calls Try.prog 5 #[.slice a0 len0 cap0, .string a1, .int .i64 a2] w fun e w' => e = .returned (.bool true) ∧ Below w.heap.size w w' := by
  obtain ⟨i0, hi0, hz0, hz1, hz2⟩ := info_parts Try.info5
  have hr := wf_i64 w2
  have hcap : a0 = none → cap0 = 0 := by
    rintro rfl; rcases w0 with ⟨_, _, h, _⟩ | ⟨x, h, _⟩
    · exact h
    · cases h
  obtain ⟨l, rfl, hl, hb, h1, h2, hnil⟩ := w0.byt
  have hm : l.length ≤ maxLen := by unfold maxLen; omega
  have hcv := conv_bytes hl hb hnil cap0 l.length rfl
  obtain ⟨S, K, E, hV⟩ := textV_shape l a2
  have c1 : Hid (Calls Try.prog 21 #[.string (strOf l), .int .i64 a2] w fun e w' => e = .returned (.tuple #[.string S, .int .i64 K, .int .i64 E]) ∧ w = w') := Lib.hid (by
    have := rgetText_any (strOf l) (by rw [strOf_size]; exact hm) a2 hr w
    rwa [natsOf_strOf hb, hV] at this)
  have c2 : Hid (Calls Try.prog 22 #[.slice a0 l.length cap0, .int .i64 a2] w fun e w' => e = .returned (.tuple #[.string S, .int .i64 K, .int .i64 E]) ∧ w = w') := Lib.hid (by
    have := getText_any w a0 cap0 l hl hb hnil h1 hm a2 hr
    rwa [hV] at this)
  have c3 := Lib.hid (fun wx => PutText_any wx a1 (by omega))
  have hp10 := putL_len10 a1.size (by omega)
  have hnl := natsOf_length a1
  have HT := Lib.hid (textV_put a1 (by omega) l a2)
  have HBY : Hid (∀ x ∈ (putL a1.size ++ natsOf a1) ++ l, x < 256) := Lib.hid (by
    intro x hx
    rcases List.mem_append.1 hx with h | h
    · rcases List.mem_append.1 h with h | h
      · exact putL_byte _ x h
      · exact natsOf_byte _ x h
    · exact hb x h)
  have HL : Hid (((putL a1.size ++ natsOf a1) ++ l).length = (putL a1.size).length + a1.size + l.length) := Lib.hid (by simp; omega)
  have HL2 : Hid ((putL a1.size ++ natsOf a1).length = (putL a1.size).length + a1.size) := Lib.hid (by simp; omega)
  have HW := Lib.hid hl
  have HC := Lib.hid hcap
  have HN := Lib.hid hnil
  generalize hpl : (putL a1.size).length = pl at *
  generalize putL a1.size ++ natsOf a1 = L at *
  clear hV hl hcap hnil w2 hpl hnl w0 hb
  go_enter Try.func5, Try.ntmps5
  go_wp2_with fail
  refine c1.out.mono ?_
  rintro e w' ⟨rfl, rfl⟩
  go_wp2_with fail
  refine c2.out.mono ?_
  rintro e w' ⟨rfl, rfl⟩
  clear hcv c1 c2
  go_wp2_with fail
  refine (counts_any w).mono ?_
  rintro e wa ⟨rfl, hba⟩
  have BA := Lib.hid hba
  clear hba
  go_wp2_with fail
  refine (c3.out wa).mono ?_
  rintro e wb ⟨vb, rfl, hob, hbb⟩
  have BB := Lib.hid (below_next BA.out hbb)
  have OB := Lib.hid hob
  have BL := Lib.hid (hbb.size)
  have BAB := Lib.hid hbb
  have HWB := Lib.hid (HW.out.keep BB.out)
  clear hob hbb
  have HG := Lib.hid (fun (wx : World) (ax : Option Addr) (cx : Nat) (hB : Byt wx ax (L ++ l)) (hn : ax = none → L ++ l = []) (hc : (L ++ l).length ≤ cx) => getText_any wx ax cx (L ++ l) hB HBY.out hn hc (by rw [HL.out]; unfold maxLen; omega) a2 hr)
  cases a0 with
  | none =>
    have h0 := HN.out rfl
    have hc0 := HC.out rfl
    subst h0
    subst hc0
    go_wp2_with (at_builtin; refine wpList_append_own_none rfl _ _ 24 rfl wa.heap.size 5 i0 1 Try.underlying24 hi0 _ _ _ rfl OB.out rfl ?_)
    obtain ⟨wc, hwc⟩ : ∃ wc, wc = wb := ⟨_, rfl⟩
    have OC : Hid (wc.ownsRow wa.heap.size 5 1 vb (L ++ []).length (u8s (L ++ []))) := Lib.hid (by rw [List.append_nil, hwc]; exact OB.out)
    have BC : Hid (Below w.heap.size w wc) := Lib.hid (by rw [hwc]; exact BB.out)
    rw [← hwc]
    clear hwc OB
    generalize L ++ [] = X at *
    obtain ⟨a5, cap5, rfl, hB5, hn5, hc5⟩ := byt_of_own OC.out
    have G5 := Lib.hid (HG.out wc a5 cap5 hB5 hn5 hc5)
    clear hB5 hn5 hc5 OC HG
    go_wp2_with fail
    refine G5.out.mono ?_
    rintro e w' ⟨rfl, rfl⟩
    rw [HT.out]
    clear G5
    have hLL := HL.out
    by_cases hbig : a2 < (a1.size : Int)
    · rw [if_pos hbig]
      go_wp2
      go_ret
      exact ⟨rfl, BC.out⟩
    · rw [if_neg hbig]
      go_wp2
      go_ret
      exact ⟨rfl, BC.out⟩
  | some ad =>
    go_wp2_with (at_builtin; refine wpList_append_own _ rfl _ _ 24 rfl wa.heap.size 5 i0 (.int .u8 0) 1 1 Try.underlying24 hi0 hz0 hz1 hz2 rfl (by decide) _ _ _ rfl OB.out ad l.length cap0 (u8s l) rfl ?c1 ?c2 ?c3 ?c4 ?c5 ?c6 ?_)
    case c1 => simp [u8s]
    case c2 => exact HWB.out.news
    case c3 => exact u8s_one l
    case c4 => rw [HL2.out]; unfold maxLen; omega
    case c5 => rw [HL2.out]; omega
    case c6 => exact BL.out
    intro vc wc hoc hgc hnc
    have OC : Hid (wc.ownsRow wa.heap.size 5 1 vc (L ++ l).length (u8s (L ++ l))) := Lib.hid (by simpa [u8s] using hoc)
    have BC : Hid (Below w.heap.size w wc) := Lib.hid (BA.out.trans (((Below.refl wa.heap.size wa).trans BAB.out).grown hgc BL.out (fun g hg => (OB.out.lt g hg).1) |>.mono BA.out.size))
    clear hoc hgc hnc OB
    generalize L ++ l = X at *
    obtain ⟨a5, cap5, rfl, hB5, hn5, hc5⟩ := byt_of_own OC.out
    have G5 := Lib.hid (HG.out wc a5 cap5 hB5 hn5 hc5)
    clear hB5 hn5 hc5 OC HG
    go_wp2_with fail
    refine G5.out.mono ?_
    rintro e w' ⟨rfl, rfl⟩
    rw [HT.out]
    clear G5
    have hLL := HL.out
    by_cases hbig : a2 < (a1.size : Int)
    · rw [if_pos hbig]
      go_wp2
      go_ret
      exact ⟨rfl, BC.out⟩
    · rw [if_neg hbig]
      go_wp2
      go_ret
      exact ⟨rfl, BC.out⟩
end varintTexts
end Go.Proofs.Ytakiajapejblkaa
