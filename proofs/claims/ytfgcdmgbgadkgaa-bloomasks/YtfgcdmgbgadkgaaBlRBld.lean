/-
  What the document's own bytes and DocBuild answer.
-/
import Derived.Test.YtfgcdmgbgadkgaaBlRProb
namespace Go.Proofs.Ytfgcdmgbgadkgaa
open Go.RowKit

theorem Try.info4 : (Try.prog.info? 4).map (fun i => (i.zero, i.size, i.bytes)) = some (some (.bool false), 1, 1) := by kernel_rfl
theorem app1 (B : Nat) (w0 wr : World) (v : Value) (ys : List Nat) (n : Nat) (x : Int) (c : Nat) (hx : x = c) (hown : wr.ownsRow B 5 1 v n (u8s ys)) (hb : Below B w0 wr) (hB : B ≤ w0.heap.size) (p : Nat) (hp : wr.heap.size = p) (hl : n ≤ 140737488351232) :
    ∃ v' w2, (Builtin.append_ #[30, 30] 30 #[v, .slice (some ⟨p, 0, none⟩) 1 1]).run Try.prog (wr.alloc (.cells #[.int .u8 x] 5)) = .ok v' w2 ∧ w2.ownsRow B 5 1 v' (n + 1) (u8s (ys ++ [c])) ∧ Below B w0 w2 := by
  subst hp
  subst hx
  obtain ⟨i0, hi0, hz0, hz1, hz2⟩ := info_parts Try.info5
  have hsz := hb.size
  obtain ⟨v', w2, h1, h2, h3, _⟩ := run_append_own (P := Try.prog) (wr.alloc (.cells #[.int .u8 (c : Int)] 5)) B 30 30 5 i0 (.int .u8 0) 1 1 Try.underlying30 hi0 hz0 hz1 hz2 rfl (by decide) v n (u8s ys) (hown.alloc _) ⟨wr.heap.size, 0, none⟩ 1 1 [.int .u8 (c : Int)] rfl (cell_one_new _ _ _) (by intro u hu; simp at hu; subst hu; rfl) (by unfold maxLen; omega) (by omega) (by simp; omega)
  exact ⟨v', w2, h1, by unfold u8s; rw [List.map_append]; exact h2, (hb.alloc (by omega) _).grown h3 (by simp; omega) (fun g hg => (hown.lt g hg).1)⟩
def boolf (S : Nat → Bool) (i : Nat) : Value := .bool (S i)
theorem add_two (x i : Nat) (hx : x < 2 ^ (i % 8)) : ((x : Int) + (2 : Int) ^ (i % 8)) % 256 = ((x + 2 ^ (i % 8) : Nat) : Int) := by
  have h := pow_lt8 i
  rw [show (2 : Int) ^ (i % 8) = ((2 ^ (i % 8) : Nat) : Int) by simp]
  have h2 : 2 ^ (i % 8) ≤ 2 ^ 7 := Nat.pow_le_pow_right (by omega) (by omega)
  generalize 2 ^ (i % 8) = q at *
  omega
def Byts (w : World) (m : Nat) (S : Nat → Bool) (e : Ending) (w' : World) : Prop := ∃ g, e = .returned (.slice (some ⟨g, 0, none⟩) m m) ∧ w.heap.size ≤ g ∧ w'.rowIs g 5 m (u8f (byteS S)) ∧ Below w.heap.size w w'
theorem own_of_row {w : World} {B g m : Nat} {f : Nat → Nat} (h : w.rowIs g 5 m (u8f f)) (hB : B ≤ g) (hm : m ≤ maxLen) : w.ownsRow B 5 1 (.slice (some ⟨g, 0, none⟩) m m) m (u8s ((List.range m).map f)) := by
  obtain ⟨c, hb, hn, hc⟩ := h
  refine ⟨by simp [u8s], .inr ⟨g, m, c, rfl, hB, hb, Nat.le_refl _, hm, by omega, ?_⟩⟩
  apply List.ext_getElem?
  intro i
  by_cases hi : i < m
  · rw [List.getElem?_take, if_pos (by omega), Array.getElem?_toList, hc i hi]
    simp [u8s, u8f, hi]
  · rw [List.getElem?_take, if_neg (by omega)]
    simp [u8s, hi]
set_option maxRecDepth 100000 in
set_option maxHeartbeats 800000 in
theorem rbytes_any (w : World) (g n cap m : Nat) (S : Nat → Bool) (hn : n = 8 * m) (hm : m ≤ 1000000) (hr : w.rowIs g 4 n (boolf S)) :
    Calls Try.prog 21 #[.slice (some ⟨g, 0, none⟩) n cap] w (Byts w m S) := by
  have hgl := hr.lt
  have hd : (n : Int) / 8 = (m : Int) := by omega
  have kmk := run_make_row' (P := Try.prog) 30 5 (.int .u8 0) 1 Try.underlying30 Try.info5 rfl .i64 .i64 m (by omega) (by omega)
  have HST : Hid ((w.alloc (Obj.cells (madeCells #[Value.int IntKind.u8 0] m) 5)).rowIs w.heap.size 5 m (u8f (outAt S 0))) := Lib.hid ((World.rowIs_made w (.int .u8 0) m 5).congr (fun i _ => by unfold u8f; rw [outAt_zero]; rfl))
  have HR := Lib.hid hr
  have hn8 : n ≤ 8000000 := by omega
  have HN := Lib.hid hn
  clear hr hn
  go_enter Try.func21, Try.ntmps21
  go_wp2_with fail
  clear kmk hd
  go_loopw [4] (fun x wr => ∃ i : Nat, i ≤ n ∧ x = .int .i64 (i : Int) ∧ Hid (wr.rowIs w.heap.size 5 m (u8f (outAt S i)) ∧ Below w.heap.size w wr)) (fun x _ => n - (intOf x).toNat)
  case atStart => exact ⟨0, by omega, rfl, HST.out, bel1 _ _⟩
  case round =>
    clear HST
    obtain ⟨i, hi, rfl, hI⟩ := hrel
    obtain ⟨hrow, hB⟩ := hI.out
    by_cases hlt : i < n
    · have hld : wr.cell? ⟨g, i, none⟩ = some (.bool (S i)) := (hB.cell (p := ⟨g, i, none⟩) hgl).trans (HR.out.cell hlt)
      have hi8 : i / 8 < m := by have := HN.out; omega
      by_cases hS : S i = true
      · rw [hS] at hld
        have hcell : wr.cell? ⟨w.heap.size, i / 8, none⟩ = some (.int .u8 (outAt S i (i / 8) : Int)) := hrow.cell hi8
        have hfrz := hrow.frozen (i / 8)
        have hop := outAt_part S i
        have HO := Lib.hid (add_two (outAt S i (i / 8)) i hop)
        have hx := outAt_lt S i (i / 8)
        have HSET := Lib.hid (fun v => hrow.set (i / 8) v)
        have HFB := Lib.hid hB
        have HSC := Lib.hid (fun j => outAt_succ S i j)
        clear hrow hB hI hop
        generalize hx1 : outAt S i (i / 8) = x at *
        have HX := Lib.hid hx1
        clear hx1
        go_wp2_with fail
        go_region
        go_wp2
        go_roundw
        case rel =>
          rw [HO.out]
          refine ⟨i + 1, by omega, by go_num, ?_, (HFB.out.setCell (p := ⟨w.heap.size, i / 8, none⟩) (Nat.le_refl _) _).drew⟩
          refine ((HSET.out _).congr (fun j _ => ?_)).drew
          show _ = Value.int .u8 ((outAt S (i + 1) j : Nat) : Int)
          rw [HSC.out j]
          by_cases e : j = i / 8
          · subst e; rw [if_pos rfl, if_pos rfl, if_pos hS, HX.out]
          · rw [if_neg e, if_neg e]; rfl
        case measure => simp [intOf]; omega
      · rw [show S i = false by simpa using hS] at hld
        have HF : Hid (wr.rowIs w.heap.size 5 m (u8f (outAt S (i + 1))) ∧ Below w.heap.size w wr) := Lib.hid ⟨hrow.congr (fun j _ => by
          unfold u8f; rw [outAt_succ]
          by_cases e : j = i / 8
          · rw [if_pos e, if_neg hS, Nat.add_zero]
          · rw [if_neg e]), hB⟩
        clear hrow hB hI
        go_wp2
        go_roundw
        case rel => exact ⟨i + 1, by omega, by go_num, HF.out⟩
        case measure => simp [intOf]; omega
    · obtain rfl : i = n := by omega
      have HF : Hid (Byts w m S (.returned (.slice (some ⟨w.heap.size, 0, none⟩) m m)) wr) := Lib.hid ⟨_, rfl, Nat.le_refl _, hrow.congr (fun j hj => by unfold u8f; rw [outAt_full S i j (by have := HN.out; omega)]), hB⟩
      clear hrow hB hI
      go_wp2
      go_ret
      exact HF.out
def DocS (w : World) (L : List Nat) (E : Int) (e : Ending) (w' : World) : Prop := e = .returned (.tuple #[.string (strOf L), .int .i64 E]) ∧ Below w.heap.size w w'
theorem bool_snoc {w : World} {g n p : Nat} {P : List Nat} (h : w.rowIs g 4 n (boolf (hasP P))) : (w.setCell ⟨g, p, none⟩ (.bool true)).rowIs g 4 n (boolf (hasP (P ++ [p]))) :=
  (h.set p (.bool true)).congr (fun j _ => by
    unfold boolf
    rw [hasP_snoc]
    by_cases e : j = p
    · simp [e]
    · have : (j == p) = false := by rw [beq_eq_false_iff_ne]; exact e
      rw [if_neg e, this, Bool.or_false])
set_option maxRecDepth 100000 in
set_option maxHeartbeats 1600000 in
theorem docBuild_any (w : World) (a : Option Addr) (cap n : Nat) (ss : List ByteArray) (hn : ss.length = n) (hs : Strs w a ss) (hsz : ∀ s ∈ ss, s.size ≤ 9223372036854775807) (hm : n ≤ 100000) (bits : Int) :
    Calls Try.prog 13 #[.slice a n cap, .int .i64 bits] w (DocS w (buildR (ss.map natsOf) bits) (buildE bits)) := by
  by_cases hb1 : bits < 1
  · have HR : Hid (buildR (ss.map natsOf) bits = [] ∧ buildE bits = 1) := Lib.hid ⟨if_neg (by omega), if_neg (by omega)⟩
    go_enter Try.func13, Try.ntmps13
    go_wp2
    go_ret2
    rw [HR.out.1, HR.out.2]
    exact ⟨rfl, Below.refl _ _⟩
  by_cases hb2 : 64 < bits
  · have HR : Hid (buildR (ss.map natsOf) bits = [] ∧ buildE bits = 1) := Lib.hid ⟨if_neg (by omega), if_neg (by omega)⟩
    go_enter Try.func13, Try.ntmps13
    go_wp2
    go_ret2
    rw [HR.out.1, HR.out.2]
    exact ⟨rfl, Below.refl _ _⟩
  obtain ⟨B, rfl⟩ : ∃ B : Nat, bits = B := ⟨bits.toNat, by omega⟩
  have hB1 : 1 ≤ B := by omega
  have hB2 : B ≤ 64 := by omega
  have hc := cntOf_le B
  have hz := sizOf_le n B hm hB2
  have HR : Hid (buildR (ss.map natsOf) B = buildL (ss.map natsOf) B ∧ buildE B = 0) := Lib.hid ⟨if_pos (by omega), if_pos (by omega)⟩
  have hnB : n * B ≤ 6400000 := Nat.le_trans (Nat.mul_le_mul hm hB2) (by omega)
  have hm1 : ∀ ts t wx, (Builtin.max_ ts t #[.int .i64 ((B : Int) * 69 / 100), .int .i64 1]).run Try.prog wx = .ok (.int .i64 (max ((B : Int) * 69 / 100) 1)) wx := fun ts t wx => run_max2 ts t _ _ _ rfl
  have hm2 : ∀ ts t wx, (Builtin.min_ ts t #[.int .i64 (max ((B : Int) * 69 / 100) 1), .int .i64 30]).run Try.prog wx = .ok (.int .i64 (cntOf B : Int)) wx := fun ts t wx => run_min2 ts t _ _ _ (by unfold cntOf; omega)
  have hm3 : ∀ ts t wx, (Builtin.max_ ts t #[.int .i64 ((n : Int) * (B : Int)), .int .i64 64]).run Try.prog wx = .ok (.int .i64 (((max (n * B) 64 : Nat) : Int))) wx := fun ts t wx => run_max2 ts t _ _ _ (by rw [← Int.natCast_mul]; omega)
  have hsv : (max (n * B) 64 + 7) / 8 = sizOf n B := rfl
  have hmx : max (n * B) 64 ≤ 6400000 := by omega
  have hnB' : (n : Int) * (B : Int) ≤ 6400000 := by rw [← Int.natCast_mul]; omega
  have hnB0 : 0 ≤ (n : Int) * (B : Int) := by rw [← Int.natCast_mul]; omega
  generalize (max (n * B) 64 : Nat) = mx at *
  have HL : Hid (buildL (ss.map natsOf) B = (List.range (sizOf n B)).map (byteS (hasP (allP (ss.map natsOf) (cntOf B) (8 * sizOf n B)))) ++ [cntOf B]) := Lib.hid (by unfold buildL; rw [List.length_map, hn])
  have HBB := Lib.hid (buildL_byte (ss.map natsOf) B)
  generalize cntOf B = C at *
  generalize sizOf n B = S at *
  have hlo : mx ≤ 8 * S := by omega
  have hhi : 8 * S < mx + 8 := by omega
  have hNm : 8 * S % 8 = 0 := by omega
  have hNl : 64 ≤ 8 * S ∧ 8 * S ≤ 6400008 := by omega
  generalize hN8 : 8 * S = N at *
  have HN8 := Lib.hid hN8
  clear hN8
  have kmk := run_make_row' (P := Try.prog) 43 4 (.bool false) 1 Try.underlying43 Try.info4 rfl .i64 .i64 N (by omega) (by omega)
  have hst := World.rowIs_made w (.bool false) N 4
  have HST : Hid ((w.alloc (Obj.cells (madeCells #[Value.bool false] N) 4)).rowIs w.heap.size 4 N (boolf (hasP []))) := Lib.hid (hst.congr (fun i _ => by simp [boolf, hasP]))
  have HSS := Lib.hid hs
  have HSZ := Lib.hid hsz
  have HN := Lib.hid hn
  have hq : decide ((100000 : Int) < (n : Int)) = false := by simp; omega
  clear hst hs hsz hn hsv
  go_enter Try.func13, Try.ntmps13
  go_wp2_with fail
  clear hm1 hm2 hm3 hnB' hnB0 hq
  go_loop [7] (fun x => ∃ b : Nat, mx ≤ b ∧ b ≤ N ∧ x = .int .i64 (b : Int)) (fun x => N - (intOf x).toNat)
  case atStart => exact ⟨mx, Nat.le_refl _, hlo, rfl⟩
  case round =>
    obtain ⟨b, hb1', hb2', rfl⟩ := hrel
    by_cases h8 : b % 8 = 0
    · obtain rfl : N = b := by omega
      have q8 : ((N : Int) % 8 != 0) = false := by rw [show (N : Int) % 8 = 0 by omega]; rfl
      go_wp2_with fail
      clear kmk q8
      go_loopw [9] (fun x wr => ∃ k : Nat, k ≤ n ∧ x = .int .i64 (k : Int) ∧ Hid (wr.rowIs w.heap.size 4 N (boolf (hasP (allP ((ss.map natsOf).take k) C N))) ∧ Below w.heap.size w wr)) (fun x _ => n - (intOf x).toNat)
      case atStart => exact ⟨0, by omega, rfl, by rw [List.take_zero]; exact HST.out, bel1 _ _⟩
      case round =>
        clear HST
        obtain ⟨k, hk, rfl, hI⟩ := hrel
        obtain ⟨hrow, hB⟩ := hI.out
        by_cases hlt : k < n
        · obtain ⟨b, off, rfl, hcl⟩ := (HSS.out.keep hB).at (k := k) (by rw [HN.out]; exact hlt)
          have hks := HSZ.out _ (List.getElem_mem (show k < ss.length by rw [HN.out]; exact hlt))
          have hkk : k < (ss.map natsOf).length := by rw [List.length_map, HN.out]; exact hlt
          have HA := Lib.hid (allP_snoc (ss.map natsOf) k C N hkk)
          rw [List.getElem_map] at HA
          have hpl := hrow.lt
          generalize ss[k]'(by rw [HN.out]; exact hlt) = s at *
          have HPR : Hid (∀ wx, Calls Try.prog 20 #[.string s, .int .i64 (N : Int), .int .i64 (C : Int)] wx (IntsR wx (probesOf (hashN (natsOf s)) C N))) := Lib.hid (fun wx => rprobes_any s hks N C (by omega) (by omega) (by omega) wx)
          have HPL : Hid (∀ p ∈ probesOf (hashN (natsOf s)) C N, p < N) := Lib.hid (fun p hp => by
            unfold probesOf at hp
            obtain ⟨i, _, rfl⟩ := List.mem_map.1 hp
            exact probeN_lt _ _ _ (by omega))
          have HPN := Lib.hid (probesOf_length (hashN (natsOf s)) C N)
          have HRW := Lib.hid hrow
          have HBW := Lib.hid hB
          clear hrow hB hI
          generalize probesOf (hashN (natsOf s)) C N = L at *
          generalize allP ((ss.map natsOf).take k) C N = P0 at *
          go_wp2_with fail
          refine (HPR.out _).mono ?_
          rintro e w2 ⟨al, cl, rfl, hy2, hb2⟩
          have HR2 : Hid (w2.rowIs w.heap.size 4 N (boolf (hasP P0))) := Lib.hid (HRW.out.of_block (hb2.block _ hpl))
          have HB2 := Lib.hid (HBW.out.trans (hb2.mono HBW.out.size))
          have hp2 := HR2.out.lt
          have HY : Hid (∀ wx : World, (∀ p : Addr, p.block ≠ w.heap.size → wx.cell? p = w2.cell? p) → ∀ j (hj : j < L.length), ∃ b off, al = some ⟨b, off, none⟩ ∧ wx.cell? ⟨b, off + j, none⟩ = some (.int .i64 (L[j] : Int))) := Lib.hid (fun wx hwx j hj => by
            obtain ⟨b', o', e, hc⟩ := hy2.at hj
            refine ⟨b', o', e, ?_⟩
            rw [hwx ⟨b', o' + j, none⟩ (fun e2 => ?_)]
            · exact hc
            · simp only at e2
              subst e2
              have hcl2 : w2.cell? ⟨w.heap.size, o' + j, none⟩ = some (.int .i64 (L[j] : Int)) := hc
              obtain ⟨c, hc1, hc2, hc3⟩ := HR2.out
              simp only [World.cell?, hc1] at hcl2
              by_cases hlt3 : o' + j < N
              · rw [hc3 _ hlt3] at hcl2; simp [boolf] at hcl2
              · rw [Array.getElem?_eq_none (by omega)] at hcl2; simp at hcl2)
          rw [HPN.out]
          clear hb2 hy2 HRW HBW hcl HPR
          go_wp2_with fail
          go_loopw [11] (fun x wr => ∃ i : Nat, i ≤ C ∧ x = .int .i64 (i : Int) ∧ Hid (wr.rowIs w.heap.size 4 N (boolf (hasP (P0 ++ L.take i))) ∧ Below w.heap.size w wr ∧ (∀ p : Addr, p.block ≠ w.heap.size → wr.cell? p = w2.cell? p))) (fun x _ => C - (intOf x).toNat)
          case atStart => exact ⟨0, by omega, rfl, by simpa using HR2.out, HB2.out, fun _ _ => rfl⟩
          case round =>
            clear HR2 HB2
            obtain ⟨i, hi, rfl, hI⟩ := hrel
            obtain ⟨hrow, hB, hoth⟩ := hI.out
            by_cases hlt2 : i < C
            · have hiL : i < L.length := by rw [HPN.out]; exact hlt2
              obtain ⟨b3, o3, rfl, hc3⟩ := HY.out wr hoth i hiL
              have hpl3 := HPL.out _ (List.getElem_mem hiL)
              have HTK : Hid (L.take (i + 1) = L.take i ++ [L[i]]) := Lib.hid (List.take_succ_eq_append_getElem hiL)
              generalize L[i] = p at *
              have hcell := hrow.cell hpl3
              unfold boolf at hcell
              have hfrz := hrow.frozen p
              have HF : Hid ((wr.setCell ⟨w.heap.size, p, none⟩ (.bool true)).rowIs w.heap.size 4 N (boolf (hasP (P0 ++ L.take (i + 1)))) ∧ Below w.heap.size w (wr.setCell ⟨w.heap.size, p, none⟩ (.bool true)) ∧ (∀ q : Addr, q.block ≠ w.heap.size → (wr.setCell ⟨w.heap.size, p, none⟩ (.bool true)).cell? q = w2.cell? q)) := Lib.hid ⟨by rw [HTK.out, ← List.append_assoc]; exact bool_snoc hrow, hB.setCell (Nat.le_refl _) _, fun q hq => by
                rw [World.cell?_setCell_other _ _ _ _ (by intro e; apply hq; rw [← e])]; exact hoth q hq⟩
              clear hrow hB hoth hI
              go_wp2
              go_roundw
              case rel => exact ⟨i + 1, by omega, by go_num, HF.out⟩
              case measure => simp [intOf]; omega
            · obtain rfl : i = C := by omega
              have HF : Hid (wr.rowIs w.heap.size 4 N (boolf (hasP (allP ((ss.map natsOf).take (k + 1)) i N))) ∧ Below w.heap.size w wr) := Lib.hid ⟨by
                rw [HA.out]; rw [List.take_of_length_le (by rw [HPN.out]; exact Nat.le_refl _)] at hrow; exact hrow, hB⟩
              clear hrow hB hoth hI
              go_wp2
              go_roundw
              case rel => exact ⟨k + 1, by omega, by go_num, HF.out⟩
              case measure => simp [intOf]; omega
        · obtain rfl : k = n := by omega
          rw [List.take_of_length_le (by rw [List.length_map, HN.out]; exact Nat.le_refl _)] at hrow
          have HRB : Hid (Calls Try.prog 21 #[.slice (some ⟨w.heap.size, 0, none⟩) N N] wr (Byts wr S (hasP (allP (ss.map natsOf) C N)))) := Lib.hid (rbytes_any wr _ _ _ S _ HN8.out.symm (by omega) hrow)
          have HBW := Lib.hid hB
          clear hrow hB hI
          go_wp2_with fail
          refine HRB.out.mono ?_
          rintro e w3 ⟨g, rfl, hg, hrg, hb3⟩
          have hown := own_of_row hrg hg (by unfold maxLen; omega)
          have B3 := HBW.out.trans (hb3.mono HBW.out.size)
          obtain ⟨v5, w5, r5, o5, b5⟩ := app1 wr.heap.size wr w3 _ _ _ (C : Int) C rfl hown hb3 (Nat.le_refl _) w3.heap.size rfl (by omega)
          rw [← HL.out] at o5
          obtain ⟨a5, c5, rfl, hy5, hn5, -⟩ := byt_of_own o5
          have hln : (buildL (ss.map natsOf) B).length = S + 1 := by rw [HL.out]; simp
          have hcv := conv_bytes hy5 HBB.out hn5 c5 _ rfl
          have HB5 := Lib.hid (HBW.out.trans (b5.mono HBW.out.size))
          clear hown hrg hg hb3 B3 o5 b5 hy5 hn5 HRB HBW
          rw [hln] at hcv r5
          generalize buildL (ss.map natsOf) B = R at *
          clear hln
          go_wp2_with (at_builtin; refine wpList_app_run rfl rfl r5 rfl rfl ?_)
          go_ret2
          rw [HR.out.1, HR.out.2]
          exact ⟨rfl, HB5.out⟩
    · have q8 : ((b : Int) % 8 != 0) = true := by simp; omega
      go_wp2
      go_round
      case rel => exact ⟨b + 1, by omega, by omega, by go_num⟩
      case measure => simp [intOf]; omega
end Go.Proofs.Ytfgcdmgbgadkgaa
