/-
  The law CrcTells, walked.
-/
import Derived.Test.YtipcbnjfeijheaaCrcThreeW
import Derived.Deep.AppendLies
namespace Go.Proofs.Ytipcbnjfeijheaa
open Go.RowKit

/-- Bytes that came in, within the reach. -/
def IsRowS (k : IntKind) (w : World) (a : Option Addr) (len cap : Nat) (zs : List Int) : Prop := IsRow k w a len cap zs ∧ cap ≤ 140737488351232
/-- Which bits of byte j are turned by the first q steps. -/
def mk (turn : BitVec 32) (k : Nat) : Nat → Nat → BitVec 8
  | 0, _ => 0#8
  | q + 1, j => if turn.getLsbD q ∧ (k + q) / 8 = j then mk turn k q j ^^^ (1#8 <<< ((k + q) % 8)) else mk turn k q j
theorem mk_bit (turn : BitVec 32) (k q j t : Nat) (ht : t < 8) : (mk turn k q j).getLsbD t = (decide (k ≤ 8 * j + t ∧ 8 * j + t < k + q) && turn.getLsbD (8 * j + t - k)) := by
  induction q with
  | zero =>
    have : ¬ (k ≤ 8 * j + t ∧ 8 * j + t < k + 0) := by omega
    rw [decide_eq_false this]; simp [mk]
  | succ q ih =>
    unfold mk
    by_cases hb : turn.getLsbD q = true ∧ (k + q) / 8 = j
    · rw [if_pos hb, BitVec.getLsbD_xor, ih, BitVec.getLsbD_shiftLeft, BitVec.getLsbD_one]
      by_cases e : t = (k + q) % 8
      · have e2 : 8 * j + t = k + q := by omega
        rw [e2, show k + q - k = q by omega, hb.1]
        simp; omega
      · have h1 : decide (t - (k + q) % 8 = 0) = decide (t < (k + q) % 8) := decide_eq_decide.2 (by omega)
        rw [h1, show decide (k ≤ 8 * j + t ∧ 8 * j + t < k + (q + 1)) = decide (k ≤ 8 * j + t ∧ 8 * j + t < k + q) from decide_eq_decide.2 (by omega)]
        cases decide (t < (k + q) % 8) <;> simp
    · rw [if_neg hb, ih]
      by_cases e : 8 * j + t = k + q
      · have hf : turn.getLsbD q = false := by
          cases h : turn.getLsbD q
          · rfl
          · exact absurd ⟨h, by omega⟩ hb
        rw [e, show k + q - k = q by omega, hf]; simp
      · rw [show decide (k ≤ 8 * j + t ∧ 8 * j + t < k + (q + 1)) = decide (k ≤ 8 * j + t ∧ 8 * j + t < k + q) from decide_eq_decide.2 (by omega)]
def sm (turn : BitVec 32) : Nat → Bool
  | 0 => false
  | q + 1 => sm turn q || turn.getLsbD q
theorem sm_iff (turn : BitVec 32) (q : Nat) : sm turn q = false ↔ ∀ i, i < q → turn.getLsbD i = false := by
  induction q with
  | zero => simp [sm]
  | succ q ih =>
    unfold sm
    rw [Bool.or_eq_false_iff, ih]
    constructor
    · rintro ⟨h1, h2⟩ i hi
      by_cases e : i = q
      · rw [e]; exact h2
      · exact h1 i (by omega)
    · intro h; exact ⟨fun i hi => h i (by omega), h q (by omega)⟩
def bent (l : List (BitVec 8)) (turn : BitVec 32) (k q : Nat) : List (BitVec 8) := (List.range l.length).map fun j => l.getD j 0#8 ^^^ mk turn k q j
theorem bent_sum (l : List (BitVec 8)) (turn : BitVec 32) (k Q : Nat) (hk : k < 8 * l.length) (hQ : Q ≤ 32) (hQ2 : Q = 32 ∨ 8 * l.length ≤ k + Q) (hQ3 : k + Q ≤ 8 * l.length) :
    (Crc.sum (bent l turn k Q) = Crc.sum l) ↔ sm turn Q = false := by
  let m := (List.range l.length).map (mk turn k Q)
  have hm : m.length = l.length := by simp [m]
  have hbit : ∀ p, p < 8 * m.length → Crc.bitsOf m p = (decide (k ≤ p ∧ p < k + 32) && turn.getLsbD (p - k)) := by
    intro p hp
    rw [hm] at hp
    have hlt : p / 8 < l.length := by omega
    have e : m.getD (p / 8) 0#8 = mk turn k Q (p / 8) := by simp [m, List.getD_eq_getElem?_getD, hlt]
    unfold Crc.bitsOf
    rw [e, mk_bit _ _ _ _ _ (by omega), show 8 * (p / 8) + p % 8 = p by omega]
    rw [show decide (k ≤ p ∧ p < k + Q) = decide (k ≤ p ∧ p < k + 32) from decide_eq_decide.2 (by omega)]
  have hburst := Crc.burst m k turn (by rw [hm]; exact hk) hbit
  have hz : List.zipWith (· ^^^ ·) (bent l turn k Q) l = m := by
    apply List.ext_getElem
    · simp [bent, m]
    · intro i h1 h2
      simp [bent, m] at h1 h2
      simp [bent, m, List.getD_eq_getElem?_getD, h2]
      rw [BitVec.xor_comm, ← BitVec.xor_assoc, BitVec.xor_self, BitVec.zero_xor]
  have hx := Crc.over_xor (0#32 ^^^ Crc.ff) (0#32 ^^^ Crc.ff) (bent l turn k Q) l (by simp [bent])
  rw [hz, BitVec.xor_self] at hx
  have h1 : (Crc.sum (bent l turn k Q) = Crc.sum l) ↔ Crc.over 0#32 m = 0#32 := by
    rw [hx]
    unfold Crc.sum Crc.more
    constructor
    · intro h
      have := congrArg (· ^^^ Crc.ff) h
      simp only [Crc.xor_cancel] at this
      rw [this, BitVec.xor_self]
    · intro h
      have : Crc.over (0#32 ^^^ Crc.ff) (bent l turn k Q) = Crc.over (0#32 ^^^ Crc.ff) l := by
        have h2 := congrArg (· ^^^ Crc.over (0#32 ^^^ Crc.ff) l) h
        simp only [Crc.xor_cancel, BitVec.zero_xor] at h2
        exact h2
      rw [this]
  rw [h1, hburst, sm_iff, hm]
  constructor
  · intro h i hi; exact h i (by omega) (by omega)
  · intro h i hi hki
    exact h i (by omega)
theorem own_row {w : World} {base : Nat} {e : TypeId} {v : Value} {n : Nat} {xs : List Value} (hn : 0 < n) (h : w.ownsRow base e 1 v n xs) :
    ∃ g cap, v = .slice (some ⟨g, 0, none⟩) n cap ∧ base ≤ g ∧ n ≤ cap ∧ cap ≤ maxLen ∧ ∃ f, w.rowIs g e cap f ∧ ∀ j, j < n → some (f j) = xs[j]? := by
  rcases h.2 with ⟨_, h0⟩ | ⟨g, cap, cur, rfl, hB, hh, h1, h2, h3, h4⟩
  · omega
  · refine ⟨g, cap, rfl, hB, h1, h2, fun j => cur.getD j undef, ⟨cur, hh, by simpa using h3, fun i hi => ?_⟩, fun j hj => ?_⟩
    · have : i < cur.size := by omega
      simp [Array.getD, this]
    · have : j < cur.size := by omega
      rw [← h4, List.getElem?_take, if_pos (by omega)]
      simp [Array.getD, this]
theorem modM (x : Int) (n : Nat) (hp : 0 < n) (hb : n ≤ 9223372036854775807) : ∃ k : Nat, k < n ∧ wrap64 ((IntKind.u64.wrap x).tmod (n : Int)) = (k : Int) := by
  have h1 : 0 ≤ IntKind.u64.wrap x := by simp [IntKind.wrap, IntKind.bits, IntKind.signed]; omega
  rw [Int.tmod_eq_emod_of_nonneg h1]
  have h2 := Int.emod_nonneg (IntKind.u64.wrap x) (show (n : Int) ≠ 0 by omega)
  have h3 := Int.emod_lt_of_pos (IntKind.u64.wrap x) (show (0 : Int) < (n : Int) by omega)
  refine ⟨((IntKind.u64.wrap x) % (n : Int)).toNat, by omega, ?_⟩
  unfold wrap64; omega
namespace crcTells
set_option maxRecDepth 100000 in
set_option maxHeartbeats 2000000 in
theorem walk (a0 : Option Addr) (len0 cap0 : Nat) (z0 : List Int) (a1 a2 : Int) (w : World) (w0 : IsRowS .u8 w a0 len0 cap0 z0) (_w1 : (Lit.int .i64 a1).wf = true) (w2 : (Lit.int .u32 a2).wf = true) :
    Calls Try.prog 6 #[.slice a0 len0 cap0, .int .i64 a1, .int .u32 a2] w fun e w' => e = .returned (.bool true) ∧ Below w.heap.size w w' := by
  obtain ⟨l, rfl, hl, h1, h2⟩ := w0.1.byt
  have hreach := w0.2
  obtain ⟨tn, rfl, htn⟩ := wf_u32 w2
  obtain ⟨turn, rfl⟩ : ∃ r : BitVec 32, r.toNat = tn := ⟨BitVec.ofNat 32 tn, by rw [BitVec.toNat_ofNat]; omega⟩
  clear w0 w2
  have hm : l.length ≤ maxLen := by omega
  have hl47 : l.length ≤ 140737488351232 := by omega
  have HL := Lib.hid hl
  by_cases h0 : l.length = 0 ∨ turn.toNat = 0
  · clear hl
    by_cases hz : l.length = 0
    · have hz2 : (((l.length : Nat) : Int) == 0) = true := by rw [hz]; rfl
      clear h0
      go_enter Try.func6, Try.ntmps6
      go_wp2_with fail
      refine (sums_any _).mono ?_
      rintro e wa ⟨rfl, hb1⟩
      have HB1 := Lib.hid hb1
      clear hb1
      go_wp2_with fail
      refine (sums_any _).mono ?_
      rintro e wb ⟨rfl, hb2⟩
      have HB2 := Lib.hid (HB1.out.trans (hb2.mono HB1.out.size))
      clear hb2
      go_wp2
      go_ret
      exact ⟨rfl, HB2.out⟩
    · have hz2 : (((l.length : Nat) : Int) == 0) = false := by rw [beq_eq_false_iff_ne]; omega
      have ht2 : (((turn.toNat : Nat) : Int) == 0) = true := by
        have : turn.toNat = 0 := by omega
        rw [this]; rfl
      clear h0
      go_enter Try.func6, Try.ntmps6
      go_wp2_with fail
      refine (sums_any _).mono ?_
      rintro e wa ⟨rfl, hb1⟩
      have HB1 := Lib.hid hb1
      clear hb1
      go_wp2_with fail
      refine (sums_any _).mono ?_
      rintro e wb ⟨rfl, hb2⟩
      have HB2 := Lib.hid (HB1.out.trans (hb2.mono HB1.out.size))
      clear hb2
      go_wp2
      go_ret
      exact ⟨rfl, HB2.out⟩
  · have hz2 : (((l.length : Nat) : Int) == 0) = false := by rw [beq_eq_false_iff_ne]; omega
    have ht2 : (((turn.toNat : Nat) : Int) == 0) = false := by rw [beq_eq_false_iff_ne]; omega
    have hpos : 0 < l.length := by omega
    obtain ⟨k, hk, ek⟩ := modM a1 (8 * l.length) (by omega) (by omega)
    rw [show ((8 * l.length : Nat) : Int) = 8 * (l.length : Int) by omega] at ek
    obtain ⟨b0, off0, rfl, _⟩ := hl.at hpos
    obtain ⟨i0, hi0, hz0, hz1, hzz2⟩ := info_parts Try.info5
    clear hl h0
    go_enter Try.func6, Try.ntmps6
    go_wp2_with fail
    refine (sums_any _).mono ?_
    rintro e wa ⟨rfl, hb1⟩
    have HB1 := Lib.hid hb1
    have HLa := Lib.hid (HL.out.keep hb1)
    clear hb1
    go_wp2_with fail
    refine (sum_any _ _ _ _ HLa.out hm).mono ?_
    rintro e w' ⟨rfl, rfl⟩
    have HNEWS : Hid (∀ j u, (l.map fun c : BitVec 8 => Value.int .u8 (c.toNat : Int))[j]? = some u → (wa.alloc (.cells #[] 5)).cell? ((⟨b0, off0, none⟩ : Addr).add j) = some u) := Lib.hid (by
      intro j u hu
      have hj : j < l.length := by
        have := (List.getElem?_eq_some_iff.1 hu).1
        simpa using this
      rcases HLa.out with h | ⟨b, off, e, hlt, hc⟩
      · rw [h] at hj; simp at hj
      · obtain ⟨rfl, rfl⟩ : b0 = b ∧ off0 = off := by simpa using e
        have hadd : (⟨b0, off0, none⟩ : Addr).add j = ⟨b0, off0 + j, none⟩ := by unfold Addr.add; split <;> simp_all
        rw [hadd, World.cell?_of_block (a := ⟨b0, off0 + j, none⟩) (w := wa) (Below.heap_alloc _ _ _ hlt), hc j hj]
        simp [hj] at hu; rw [hu])
    have HOWN : Hid ((wa.alloc (.cells #[] 5)).ownsRow w.heap.size 5 1 (.slice (some ⟨wa.heap.size, 0, none⟩) 0 0) 0 []) := Lib.hid
      ⟨by simp, .inr ⟨wa.heap.size, 0, #[], rfl, HB1.out.size, by show (wa.heap.push _)[wa.heap.size]? = _; simp, Nat.le_refl _, by unfold maxLen; omega, rfl, rfl⟩⟩
    go_wp2_with (at_builtin; refine wpList_append_own _ rfl _ _ 22 rfl w.heap.size 5 i0 (.int .u8 0) 1 1 Try.underlying22 hi0 hz0 hz1 hzz2 rfl (by decide) (.slice (some ⟨wa.heap.size, 0, none⟩) 0 0) 0 [] rfl ?c0 ⟨b0, off0, none⟩ l.length cap0 (l.map fun c : BitVec 8 => Value.int .u8 (c.toNat : Int)) rfl ?c1 ?c2 ?c3 ?c4 ?c5 ?c6 ?_)
    case c0 => exact HOWN.out
    case c1 => simp
    case c2 => exact HNEWS.out
    case c3 => intro u hu; simp at hu; obtain ⟨c, _, rfl⟩ := hu; rfl
    case c4 => omega
    case c5 => omega
    case c6 => have := HB1.out.size; first | omega | (simp; omega)
    intro v' w3 hown hgr hnil
    have hB3 : Below w.heap.size w w3 := ((HB1.out.alloc HB1.out.size _).grown hgr (by simp; have := HB1.out.size; omega) (fun g hg => by
      have : g = wa.heap.size := by simpa [Value.ownBlock] using hg.symm
      rw [this]; exact HB1.out.size))
    obtain ⟨g, capc, rfl, hg, hc1, hc2, f, hrow, hf⟩ := own_row hpos hown
    have hst : w3.rowIs g 5 capc (fun c => if c < l.length then .int .u8 ((l.getD c 0#8 ^^^ mk turn k 0 c).toNat : Int) else f c) := hrow.congr (fun c _ => by
      by_cases e : c < l.length
      · rw [if_pos e]
        have := hf c e
        simp [e] at this
        rw [this]; simp [mk, List.getD_eq_getElem?_getD, e]
      · rw [if_neg e])
    have HST := Lib.hid hst
    have HB3 := Lib.hid hB3
    have HG := Lib.hid hg
    have hglt : g < w3.heap.size := hrow.lt
    clear hown hgr hnil hB3 hst hrow hf HNEWS HOWN
    go_wp2_with fail
    simp only [ek]
    clear ek
    go_loopg [10, 11] 32 (fun gk s i wr => ∃ q : Nat, Hid (q + gk = 32) ∧ q ≤ 32 ∧ k + q ≤ 8 * l.length ∧ s = .bool (sm turn q) ∧ i = .int .i64 (q : Int) ∧ Hid (wr.rowIs g 5 capc (fun c => if c < l.length then .int .u8 ((l.getD c 0#8 ^^^ mk turn k q c).toNat : Int) else f c) ∧ Below w.heap.size w wr))
    case atStart => exact ⟨0, Lib.hid rfl, by omega, by omega, rfl, rfl, HST.out, HB3.out⟩
    case round =>
      obtain ⟨q, hgk, hq, hkq, rfl, rfl, hI⟩ := hrel
      clear HST HB3
      by_cases hgo : q < 32 ∧ k + q < 8 * l.length
      · obtain ⟨hq32, hkq2⟩ := hgo
        have hbt : (bits .and .u32 ((turn.toNat : Int) / 2 ^ q) 1 == 1) = turn.getLsbD q := by
          have h := and1_bv (turn >>> q)
          have e : ((turn >>> q).toNat : Int) = (turn.toNat : Int) / 2 ^ q := by rw [BitVec.toNat_ushiftRight, Nat.shiftRight_eq_div_pow, Int.natCast_ediv]; simp
          rw [e, BitVec.getLsbD_ushiftRight] at h
          rw [h, Nat.add_zero]; cases turn.getLsbD q <;> rfl
        have hg2 : (k : Int) + (q : Int) < 8 * (l.length : Int) := by omega
        cases hb : turn.getLsbD q
        · rw [hb] at hbt
          have HR : Hid (wr.rowIs g 5 capc (fun c => if c < l.length then .int .u8 ((l.getD c 0#8 ^^^ mk turn k (q + 1) c).toNat : Int) else f c) ∧ Below w.heap.size w wr) := Lib.hid ⟨hI.out.1.congr (fun c _ => by
            have : mk turn k (q + 1) c = mk turn k q c := by show (if _ then _ else _) = _; rw [hb]; simp
            rw [this]), hI.out.2⟩
          have HSM : Hid (sm turn (q + 1) = sm turn q) := Lib.hid (by show (sm turn q || _) = _; rw [hb]; simp)
          clear hb hI
          go_wp2
          go_roundg (gk - 1)
          case measure => have := hgk.out; omega
          case rel => exact ⟨q + 1, Lib.hid (by have := hgk.out; omega), by omega, by omega, by rw [HSM.out], by go_num, HR.out⟩
        · rw [hb] at hbt
          obtain ⟨p, hp⟩ : ∃ p, p = (k + q) / 8 := ⟨_, rfl⟩
          obtain ⟨t, ht⟩ : ∃ t, t = (k + q) % 8 := ⟨_, rfl⟩
          have hpl : p < l.length := by omega
          have c0 := hI.out.1.cell (show p < capc by omega)
          rw [if_pos hpl] at c0
          have z0 := hI.out.1.frozen p
          have HMK : Hid (∀ c, mk turn k (q + 1) c = if c = p then mk turn k q c ^^^ (1#8 <<< t) else mk turn k q c) := Lib.hid (fun c => by
            show (if _ then _ else _) = _
            rw [hb, ← hp, ← ht]
            by_cases e : c = p
            · subst e; simp
            · rw [if_neg e, if_neg (by rintro ⟨_, h⟩; exact e h.symm)])
          have HSM : Hid (sm turn (q + 1) = true) := Lib.hid (by show (sm turn q || _) = _; rw [hb]; simp)
          have HX : Hid (∀ y : BitVec 8, bits .xor .u8 (y.toNat : Int) (((1#8 <<< t : BitVec 8)).toNat : Int) = ((y ^^^ (1#8 <<< t)).toNat : Int)) := Lib.hid (fun y => xor8 y _)
          clear hb
          generalize hy : l.getD p 0#8 ^^^ mk turn k q p = y at *
          have hy8 := y.isLt
          have e2 : IntKind.i64.wrap (((k : Int) + (q : Int)).tdiv 8) = (p : Int) := by rw [IntKind.wrap_i64, Int.tdiv_eq_ediv_of_nonneg (by omega)]; omega
          have e3 : ((k : Int) + (q : Int)).tmod 8 = (t : Int) := by rw [Int.tmod_eq_emod_of_nonneg (by omega)]; omega
          have i1 : (p : Int) < (l.length : Int) := by omega
          have f0 : ¬ ((8 : Int) = 0) := by omega
          have HP := Lib.hid hp
          have HT := Lib.hid ht
          clear hp ht
          have ht8 : t < 8 := by have := HT.out; omega
          have hpw : (2 : Int) ^ t % 256 = ((1#8 <<< t : BitVec 8).toNat : Int) := by
            have hh : ∀ t : Fin 8, (2 : Int) ^ t.val % 256 = ((1#8 <<< t.val : BitVec 8).toNat : Int) := by decide
            exact hh ⟨t, ht8⟩
          have hfin : (wr.setCell ⟨g, p, none⟩ (.int .u8 (bits .xor .u8 (y.toNat : Int) ((2 : Int) ^ t % 256)))).drew.rowIs g 5 capc (fun c => if c < l.length then .int .u8 ((l.getD c 0#8 ^^^ mk turn k (q + 1) c).toNat : Int) else f c) ∧ Below w.heap.size w (wr.setCell ⟨g, p, none⟩ (.int .u8 (bits .xor .u8 (y.toNat : Int) ((2 : Int) ^ t % 256)))).drew := by
            refine ⟨(hI.out.1.set p _).congr (fun c _ => ?_), (hI.out.2.setCell (p := ⟨g, p, none⟩) HG.out _).drew⟩
            by_cases e : c = p
            · subst e
              rw [if_pos rfl, if_pos hpl, hpw, HX.out, HMK.out, if_pos rfl, ← BitVec.xor_assoc, hy]
            · rw [if_neg e, HMK.out, if_neg e]
          have HFIN := Lib.hid hfin
          clear hfin hpw hy hI
          go_wp2_with fail
          go_region
          all_goals
            go_wp2
            go_roundg (gk - 1)
            case measure => have := hgk.out; omega
            case rel => exact ⟨q + 1, Lib.hid (by have := hgk.out; omega), by omega, by omega, by rw [HSM.out], by go_num, HFIN.out⟩
      · have hB : Byt wr (some ⟨g, 0, none⟩) (bent l turn k q) := by
          refine .inr ⟨g, 0, rfl, hI.out.1.lt, fun i hi => ?_⟩
          have hi' : i < l.length := by simpa [bent] using hi
          rw [Nat.zero_add, hI.out.1.cell (by omega), if_pos hi']; simp [bent]
        have hs := bent_sum l turn k q hk hq (by omega) hkq
        have hD : ((((Crc.sum (bent l turn k q)).toNat : Nat) : Int) != (((Crc.sum l).toNat : Nat) : Int)) = sm turn q := by
          cases hsm : sm turn q
          · rw [hs.2 hsm]; simp
          · have hne : Crc.sum (bent l turn k q) ≠ Crc.sum l := fun e => by rw [hs.1 e] at hsm; cases hsm
            have : (Crc.sum (bent l turn k q)).toNat ≠ (Crc.sum l).toNat := fun e => hne (BitVec.eq_of_toNat_eq e)
            simp only [bne_iff_ne]; omega
        have KB := Lib.hid hB
        have KL : Hid ((bent l turn k q).length = l.length) := Lib.hid (by simp [bent])
        have KL2 := Lib.hid (HL.out.keep hI.out.2)
        have HW := Lib.hid hI.out.2
        have HD := Lib.hid hD
        have hgo2 : ¬ ((q : Int) < 32) ∨ ((q : Int) < 32 ∧ ¬ ((k : Int) + (q : Int) < 8 * (l.length : Int))) := by omega
        clear hB hs hD hI hgo
        generalize bent l turn k q = C at *
        generalize sm turn q = sq at *
        rcases hgo2 with hg1 | ⟨hg1, hg2⟩
        all_goals
          go_wp2_with fail
          refine (sum_at _ _ _ _ C KL.out KB.out hm).mono ?_
          rintro e w' ⟨rfl, rfl⟩
          have hd := HD.out
          go_wp2_with fail
          refine (sum_any _ _ _ _ KL2.out hm).mono ?_
          rintro e w' ⟨rfl, rfl⟩
          clear hd
          go_wp2
          go_ret
          exact ⟨rfl, HW.out⟩
end crcTells
end Go.Proofs.Ytipcbnjfeijheaa
