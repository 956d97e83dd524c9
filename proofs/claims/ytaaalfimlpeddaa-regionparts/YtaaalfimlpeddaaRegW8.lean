/-
  What Store of package region does, said of a pool that lies in memory.
-/
import Derived.Test.YtaaalfimlpeddaaRegW7
namespace Go.Proofs.Ytaaalfimlpeddaa
open Go.RowKit

/-- 'copy' into a row of which all is known, in one word: the row behind it, and that nothing else has turned. -/
theorem wpList_copy_touch {P : Program} {w : World} {ops : Array Oper} {rest : List Oper} {o : Oper} {a : Act} {Q : Exit → Act → World → Prop} (hgd : o.guard = none) (d s : Operand) (dT sT : TypeId)
    (ho : o.op = .call { callee := .builtin .copy, args := #[d, s], argTypes := #[dT, sT] }) (elem : TypeId) (hu : P.underlying dT = some (.slice elem)) (hsz : (P.info? elem).map (·.size) = some 1)
    (dp sp : Option Addr) (dLen dCap sLen sCap : Nat) (hd : a.eval d = .slice dp dLen dCap) (hs : a.eval s = .slice sp sLen sCap)
    (g off N : Nat) (t : TypeId) (f : Nat → Value) (hg : w.rowIs g t N f) (cs : List Value) (hn : cs.length = Nat.min sLen dLen)
    (hpos : 0 < cs.length → dp = some ⟨g, off, none⟩ ∧ ∃ ad, sp = some ad ∧ ∀ j v, cs[j]? = some v → w.cell? (ad.add j) = some v)
    (hfit : 0 < cs.length → off + cs.length ≤ N) (h1 : ∀ v ∈ cs, v.oneCell' = true)
    (h : ∀ w', w'.rowIs g t N (fun j => if off ≤ j ∧ j < off + cs.length then cs.getD (j - off) undef else f j) → Touch g w w' → wpList P ops Q rest (a.put o.dst (goInt cs.length)) w') :
    wpList P ops Q (o :: rest) a w := by
  by_cases h0 : cs.length = 0
  · obtain rfl : cs = [] := List.eq_nil_of_length_eq_zero h0
    refine wpList_copy_nothing hgd d s dT sT ho elem hu hsz dp sp dLen dCap sLen sCap hd hs (by simpa using hn.symm) ?_
    exact h w (hg.congr fun j _ => by rw [if_neg (by simp)]) (Touch.refl _ _)
  · obtain ⟨rfl, ad, rfl, hsrc⟩ := hpos (by omega)
    have hfit := hfit (by omega)
    obtain ⟨c, hb, hN, hc⟩ := hg
    refine wpList_copy_own hgd d s dT sT ho elem hu hsz g off dLen dCap ad sLen sCap hd hs c t hb cs hn hsrc (by omega) h1 ?_
    refine h _ ⟨_, setRow_heap w g c _ t _ hb, ?_, fun j hj => ?_⟩ ⟨rfl, rfl, rfl, by simp [World.setRow], fun k hk => setRow_other w g k _ hk⟩
    · simp; omega
    · have hcj := hc j hj
      rw [← Array.getElem?_toList] at hcj
      simp only [List.getElem?_toArray]
      have hlc : c.toList.length = N := by simpa using hN
      by_cases e1 : j < off
      · rw [List.getElem?_append_left (by simp; omega), List.getElem?_take, if_pos e1, hcj, if_neg (by omega)]
      · rw [List.getElem?_append_right (by simp; omega)]
        have : (List.take off c.toList).length = off := by rw [List.length_take]; omega
        rw [this]
        by_cases e2 : j < off + cs.length
        · rw [List.getElem?_append_left (by omega), if_pos (by omega), List.getD_eq_getElem?_getD, List.getElem?_eq_getElem (by omega)]; rfl
        · rw [List.getElem?_append_right (by omega), List.getElem?_drop, if_neg (by omega)]
          rw [show off + cs.length + (j - off - cs.length) = j from by omega]; exact hcj

/-- Some bytes, others. -/
def putBt (bt : Nat → Nat) (a : Nat) (bs : List Nat) : Nat → Nat := fun k => if a ≤ k ∧ k < a + bs.length then bs.getD (k - a) 0 else bt k

/-- A slice value that reads as these bytes in w. -/
def ReadsB (w : World) (v : Value) (bs : List Nat) : Prop :=
  ∃ sp c, v = .slice sp bs.length c ∧ (0 < bs.length → ∃ ad, sp = some ad ∧ ∀ j u, (u8s bs)[j]? = some u → w.cell? (ad.add j) = some u)
theorem ReadsB.grew {w w' : World} {v : Value} {bs : List Nat} (h : ReadsB w v bs) (hg : Grew w w') : ReadsB w' v bs := by
  obtain ⟨sp, c, hv, hs⟩ := h
  refine ⟨sp, c, hv, fun hp => ?_⟩
  obtain ⟨ad, had, hc⟩ := hs hp
  refine ⟨ad, had, fun j u hu => ?_⟩
  have h1 := hc j u hu
  rw [hg.cell (World.block_lt_of_cell? w _ h1)]; exact h1

theorem Try.info1T_u8 : (Try.prog.info? 5).map (·.size) = some 1 := by kernel_rfl

set_option maxRecDepth 100000 in
set_option maxHeartbeats 800000 in
theorem store_err {w : World} {S : Ps} {F : Nat → Prop} (hS : PoolAt w S F) (hO : S.Ok) (r g o l z at_ : Int) (v : Value) (hl : l ≤ 9223372036854775807) (hz : S.perr r g o l = z) (hz0 : z ≠ 0) :
    Calls Try.prog 22 #[.pointer (some ⟨S.pb, 0, none⟩), Hv r g o l, .int .i64 at_, v] w fun e w' => e = .returned (.int .i64 z) ∧ Grew w w' := by
  have hf := piece_err (hS.alloc (.cells #[.int .i64 r, .int .i64 g, .int .i64 o, .int .i64 l] 41)) hO r g o l z hl hz hz0
  have HF := Lib.hid hf
  have hz1 : (z != 0) = true := by simpa using hz0
  clear hf hS hO hz hz0 hl
  go_enter Try.func22, Try.ntmps22
  go_wp2_with fail
  refine HF.out.mono ?_
  rintro e w1 ⟨rfl, hg1⟩
  have HG := Lib.hid ((Grew.alloc w (.cells #[.int .i64 r, .int .i64 g, .int .i64 o, .int .i64 l] 41)).then hg1)
  clear hg1
  go_wp2
  go_ret
  exact ⟨rfl, HG.out⟩

set_option maxRecDepth 100000 in
set_option maxHeartbeats 800000 in
theorem store_arg {w : World} {S : Ps} {F : Nat → Prop} (hS : PoolAt w S F) (hO : S.Ok) {i o l : Nat} {at_ : Int} {sp : Option Addr} {bl c : Nat} (hi : i < 256) (hlv : S.live i = true) (h1 : 1 ≤ l) (h2 : o + l ≤ S.fill i) (h3 : o % S.size + l ≤ S.size)
    (hbl : bl ≤ 9000000000000000000) (hbad : at_ < 0 ∨ (l : Int) < at_ + bl) :
    Calls Try.prog 22 #[.pointer (some ⟨S.pb, 0, none⟩), Hv i (S.gen i) o l, .int .i64 at_, .slice sp bl c] w fun e w' => e = .returned (.int .i64 1) ∧ Grew w w' := by
  have hf := piece_good (hS.alloc (.cells #[.int .i64 i, .int .i64 (S.gen i), .int .i64 o, .int .i64 l] 41)) hO hi hlv h1 h2 h3
  have HF := Lib.hid hf
  have hl : l ≤ 65536 := by have := hO.s2; omega
  clear hf hS hO hlv
  by_cases k1 : at_ < 0
  · clear hbad
    go_enter Try.func22, Try.ntmps22
    go_wp2_with fail
    refine HF.out.mono ?_
    rintro e w1 ⟨⟨c1, rfl, _⟩, hg1⟩
    have HG := Lib.hid ((Grew.alloc w (.cells #[.int .i64 i, .int .i64 (S.gen i), .int .i64 o, .int .i64 l] 41)).then hg1)
    clear hg1
    go_wp2
    go_ret
    exact ⟨rfl, HG.out⟩
  · have k2 : (l : Int) - (bl : Int) < at_ := by omega
    clear hbad
    go_enter Try.func22, Try.ntmps22
    go_wp2_with fail
    refine HF.out.mono ?_
    rintro e w1 ⟨⟨c1, rfl, _⟩, hg1⟩
    have HG := Lib.hid ((Grew.alloc w (.cells #[.int .i64 i, .int .i64 (S.gen i), .int .i64 o, .int .i64 l] 41)).then hg1)
    clear hg1
    go_wp2
    go_ret
    exact ⟨rfl, HG.out⟩

set_option maxRecDepth 100000 in
set_option maxHeartbeats 800000 in
theorem store_ok {w : World} {S : Ps} {F : Nat → Prop} (hS : PoolAt w S F) (hO : S.Ok) {i o l at_ : Nat} {v : Value} {bs : List Nat} (hi : i < 256) (hlv : S.live i = true) (h1 : 1 ≤ l) (h2 : o + l ≤ S.fill i) (h3 : o % S.size + l ≤ S.size)
    (hv : ReadsB w v bs) (hat : at_ + bs.length ≤ l) :
    Calls Try.prog 22 #[.pointer (some ⟨S.pb, 0, none⟩), Hv i (S.gen i) o l, .int .i64 at_, v] w fun e w' => e = .returned (.int .i64 0) ∧ PoolAt w' { S with bt := putBt S.bt (S.addr i o + at_) bs } F ∧ Moves F w F w' := by
  have hf := piece_good (hS.alloc (.cells #[.int .i64 i, .int .i64 (S.gen i), .int .i64 o, .int .i64 l] 41)) hO hi hlv h1 h2 h3
  have HF := Lib.hid hf
  have hl : l ≤ 65536 := by have := hO.s2; omega
  have hal := addr_le hO hi h1 h2 h3
  have HS := Lib.hid hS
  have HR := Lib.hid hv
  obtain ⟨sp, c, rfl, _⟩ := hv
  generalize hbl : bs.length = bl at *
  have HB := Lib.hid hbl
  clear hf hS hO hlv hbl
  go_enter Try.func22, Try.ntmps22
  go_wp2_with fail
  refine HF.out.mono ?_
  rintro e w1 ⟨⟨c1, rfl, hc1⟩, hg1⟩
  have hgw := ((Grew.alloc w (.cells #[.int .i64 i, .int .i64 (S.gen i), .int .i64 o, .int .i64 l] 41)).then hg1)
  have HG := Lib.hid hgw
  have HS1 := Lib.hid (HS.out.grew hgw)
  have HR1 := Lib.hid (HR.out.grew hgw)
  have k1 : ¬ ((at_ : Int) < 0) := by omega
  have k2 : ¬ ((l : Int) - (bl : Int) < (at_ : Int)) := by omega
  have k3 : (at_ : Int) ≤ (l : Int) := by omega
  clear hg1 hgw
  have hul : (u8s bs).length = bl := by simp [u8s, HB.out]
  have hsrc : 0 < bl → ∃ ad, sp = some ad ∧ ∀ j v, (u8s bs)[j]? = some v → w1.cell? (ad.add j) = some v := by
    intro hp
    obtain ⟨sp', c', e1, e2⟩ := HR1.out
    injection e1 with e1 _ _
    subst e1
    exact e2 (by have := HB.out; omega)
  have HU := Lib.hid hul
  have HSR := Lib.hid hsrc
  clear hul hsrc
  have fin : ∀ w', Hid (w'.rowIs S.bb 5 (S.size * S.n) (fun j => if S.addr i o + at_ ≤ j ∧ j < S.addr i o + at_ + (u8s bs).length then (u8s bs).getD (j - (S.addr i o + at_)) undef else .int .u8 (S.bt j))) → Hid (Touch S.bb w1 w') →
      PoolAt w' { S with bt := putBt S.bt (S.addr i o + at_) bs } F ∧ Moves F w F w' := by
    intro w' hr ht
    refine ⟨HS1.out.turnB ht.out (hr.out.congr fun j _ => ?_), HG.out.moves.trans (ht.out.moves HS.out.fb)⟩
    rw [HU.out, ← HB.out]
    unfold putBt
    by_cases e : S.addr i o + at_ ≤ j ∧ j < S.addr i o + at_ + bs.length
    · rw [if_pos e, if_pos e, u8s, List.getD_eq_getElem?_getD, List.getElem?_map, List.getElem?_eq_getElem (by omega), List.getD_eq_getElem?_getD, List.getElem?_eq_getElem (by omega)]; rfl
    · rw [if_neg e, if_neg e]
  have FIN := Lib.hid fin
  clear fin
  by_cases hca : c1 = at_
  · subst hca
    go_wp2_with (refine wpList_copy_touch rfl (.tmp 33) (.tmp 34) 49 49 rfl 5 Try.underlying49 Try.info1T_u8 _ sp _ _ bl c rfl rfl S.bb (S.addr i o + c1) (S.size * S.n) 5 _ HS1.out.hB (u8s bs) ?c1 ?c2 ?c3 (u8s_one _) ?_)
    case c1 =>
      have hb0 : bl = 0 := by omega
      rw [HU.out, hb0]; exact (Nat.zero_min _).symm
    case c2 => intro hp; rw [HU.out] at hp; omega
    case c3 => intro hp; rw [HU.out] at hp; omega
    intro w' hr ht
    have HF2 := Lib.hid (FIN.out w' hr ht)
    clear hr ht
    go_wp2
    go_ret
    exact ⟨rfl, HF2.out⟩
  · go_wp2_with (refine wpList_copy_touch rfl (.tmp 33) (.tmp 34) 49 49 rfl 5 Try.underlying49 Try.info1T_u8 _ sp (l - at_) _ bl c rfl rfl S.bb (S.addr i o + at_) (S.size * S.n) 5 _ HS1.out.hB (u8s bs) ?c1 ?c2 ?c3 (u8s_one _) ?_)
    case c1 => rw [HU.out]; exact (Nat.min_eq_left (by omega)).symm
    case c2 => intro hp; rw [HU.out] at hp; exact HSR.out hp
    case c3 => intro hp; rw [HU.out]; omega
    intro w' hr ht
    have HF2 := Lib.hid (FIN.out w' hr ht)
    clear hr ht
    go_wp2
    go_ret
    exact ⟨rfl, HF2.out⟩
end Go.Proofs.Ytaaalfimlpeddaa
