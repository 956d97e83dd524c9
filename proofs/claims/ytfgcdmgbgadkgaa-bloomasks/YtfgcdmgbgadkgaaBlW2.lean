/-
  What Build answers: the walk.
-/
import Derived.Test.YtfgcdmgbgadkgaaBlW1
namespace Go.Proofs.Ytfgcdmgbgadkgaa
open Go.RowKit

theorem or_two (x p : Nat) (hx : x < 256) : bits .or .u8 (x : Int) ((2 : Int) ^ (p % 8) % 256) = ((x ||| 2 ^ (p % 8) : Nat) : Int) := by
  have h := pow_lt8 p
  rw [show (2 : Int) ^ (p % 8) = ((2 ^ (p % 8) : Nat) : Int) by simp]
  generalize 2 ^ (p % 8) = q at *
  rw [show (q : Int) % 256 = (q : Int) by omega]
  exact or8 x _ hx h
set_option maxRecDepth 100000 in
set_option maxHeartbeats 1600000 in
theorem build_any (w : World) (a : Option Addr) (cap n : Nat) (ss : List ByteArray) (hn : ss.length = n) (hs : Strs w a ss) (hsz : ∀ s ∈ ss, s.size ≤ 9223372036854775807) (hm : n ≤ 100000) (bits : Int) :
    Calls Try.prog 14 #[.slice a n cap, .int .i64 bits] w (FreshE w (buildR (ss.map natsOf) bits) (buildE bits)) := by
  by_cases hb1 : bits < 1
  · have HR : Hid (buildR (ss.map natsOf) bits = [] ∧ buildE bits = 1) := Lib.hid ⟨if_neg (by omega), if_neg (by omega)⟩
    go_enter Try.func14, Try.ntmps14
    go_wp2
    go_ret2
    rw [HR.out.1, HR.out.2]
    exact ⟨none, 0, rfl, .inl rfl, fun _ => rfl, Nat.le_refl _, Below.refl _ _⟩
  by_cases hb2 : 64 < bits
  · have HR : Hid (buildR (ss.map natsOf) bits = [] ∧ buildE bits = 1) := Lib.hid ⟨if_neg (by omega), if_neg (by omega)⟩
    go_enter Try.func14, Try.ntmps14
    go_wp2
    go_ret2
    rw [HR.out.1, HR.out.2]
    exact ⟨none, 0, rfl, .inl rfl, fun _ => rfl, Nat.le_refl _, Below.refl _ _⟩
  obtain ⟨B, rfl⟩ : ∃ B : Nat, bits = B := ⟨bits.toNat, by omega⟩
  have hB1 : 1 ≤ B := by omega
  have hB2 : B ≤ 64 := by omega
  have hc := cntOf_le B
  have hz := sizOf_le n B hm hB2
  have HR : Hid (buildR (ss.map natsOf) B = buildL (ss.map natsOf) B ∧ buildE B = 0) := Lib.hid ⟨if_pos (by omega), if_pos (by omega)⟩
  have hnB : n * B ≤ 6400000 := Nat.le_trans (Nat.mul_le_mul hm hB2) (by omega)
  have hm1 : ∀ ts t wx, (Builtin.max_ ts t #[.int .i64 ((B : Int) * 69 / 100), .int .i64 1]).run Try.prog wx = .ok (.int .i64 (max ((B : Int) * 69 / 100) 1)) wx := fun ts t wx => run_max2 ts t _ _ _ rfl
  have hm2 : ∀ ts t wx, (Builtin.min_ ts t #[.int .i64 (max ((B : Int) * 69 / 100) 1), .int .i64 30]).run Try.prog wx = .ok (.int .i64 (cntOf B : Int)) wx := fun ts t wx => run_min2 ts t _ _ _ (by unfold cntOf; omega)
  have hm3 : ∀ ts t wx, (Builtin.max_ ts t #[.int .i64 ((n : Int) * (B : Int)), .int .i64 64]).run Try.prog wx = .ok (.int .i64 (((max (n * B) 64 : Nat) : Int))) wx := fun ts t wx => run_max2 ts t _ _ _ (by rw [← Int.natCast_mul]; omega)
  have hsv : (((max (n * B) 64 : Nat) : Int) + 7) / 8 = (sizOf n B : Int) := by unfold sizOf; omega
  have hmx : ((max (n * B) 64 : Nat) : Int) ≤ 6400000 := by omega
  have hnB' : (n : Int) * (B : Int) ≤ 6400000 := by rw [← Int.natCast_mul]; omega
  have hnB0 : 0 ≤ (n : Int) * (B : Int) := by rw [← Int.natCast_mul]; omega
  generalize (max (n * B) 64 : Nat) = mx at *
  generalize hC : cntOf B = C at *
  generalize hS : sizOf n B = S at *
  have HCS : Hid (cntOf B = C ∧ sizOf n B = S) := Lib.hid ⟨hC, hS⟩
  have kmk := run_make_row' (P := Try.prog) 30 5 (.int .u8 0) 1 Try.underlying30 Try.info5 rfl .i64 .i64 (S + 1) (by omega) (by omega)
  rw [show ((S + 1 : Nat) : Int) = (S : Int) + 1 by omega] at kmk
  have hst := World.rowIs_made w (.int .u8 0) (S + 1) 5
  have c0 := hst.cell (i := S) (by omega)
  have f0 := hst.frozen S
  have h1S : ((S + 1 : Nat) : Int) = (S : Int) + 1 := by omega
  have HST : Hid ((w.alloc (Obj.cells ((madeCells #[Value.int IntKind.u8 0] (S + 1)).setIfInBounds S (.int .u8 (C : Int))) 5)).rowIs w.heap.size 5 (S + 1) (fun i => if i = S then .int .u8 (C : Int) else .int .u8 0)) := Lib.hid (by
    refine ⟨_, heap_alloc_new _ _, by simp [size_madeCells], fun i hi => ?_⟩
    rw [Array.getElem?_setIfInBounds, size_madeCells]
    by_cases e : S = i
    · subst e; simp
    · have e2 : ¬ i = S := fun h => e h.symm
      rw [if_neg e]
      simp [madeCells, hi, Nat.mod_one, e2])
  have HSS := Lib.hid hs
  have HSZ := Lib.hid hsz
  have HN := Lib.hid hn
  clear hst hs hsz hC hS hn
  have hq : decide ((100000 : Int) < (n : Int)) = false := by simp; omega
  go_enter Try.func14, Try.ntmps14
  go_wp2_with fail
  clear kmk hm1 hm2 hm3 c0 f0 h1S
  clear hsv hmx hnB' hnB0 hq
  go_loopw [45] (fun x wr => ∃ k : Nat, k ≤ n ∧ x = .int .i64 (k : Int) ∧ Hid (wr.rowIs w.heap.size 5 (S + 1) (u8f (fillF (allP ((ss.map natsOf).take k) C (8 * S)) S C)) ∧ Below w.heap.size w wr)) (fun x _ => n - (intOf x).toNat)
  case atStart =>
    refine ⟨0, by omega, rfl, ?_, bel1 _ _⟩
    exact HST.out.congr (fun i hi => by
      show _ = Value.int .u8 ((fillF (allP (List.take 0 (List.map natsOf ss)) C (8 * S)) S C i : Nat) : Int)
      by_cases h : i = S
      · subst h; simp [fillF]
      · rw [if_neg h, List.take_zero, show allP [] C (8 * S) = [] from rfl, fill_nil S C i (by omega)]; rfl)
  case round =>
    clear HST
    obtain ⟨k, hk, rfl, hI⟩ := hrel
    obtain ⟨hrow, hB⟩ := hI.out
    by_cases hlt : k < n
    · obtain ⟨b, off, rfl, hcl⟩ := (HSS.out.keep hB).at (k := k) (by rw [HN.out]; exact hlt)
      have hks := HSZ.out _ (List.getElem_mem (show k < ss.length by rw [HN.out]; exact hlt))
      have hkk : k < (ss.map natsOf).length := by rw [List.length_map, HN.out]; exact hlt
      have HA := Lib.hid (allP_snoc (ss.map natsOf) k C (8 * S) hkk)
      rw [List.getElem_map] at HA
      have hpl := hrow.lt
      generalize ss[k]'(by rw [HN.out]; exact hlt) = s at *
      have hhl : hashN (natsOf s) < 4294967296 := hashF_lt _ _ (hash0_lt _)
      have HRW := Lib.hid hrow
      have HBW := Lib.hid hB
      clear hrow hB hI
      go_wp2_with fail
      refine (hash_any s hks _).mono ?_
      rintro e w2 ⟨rfl, hb2⟩
      generalize hashN (natsOf s) = h at *
      have HR2 : Hid (w2.rowIs w.heap.size 5 (S + 1) (u8f (fillF (allP ((ss.map natsOf).take k) C (8 * S)) S C))) := Lib.hid (HRW.out.of_block (hb2.block _ hpl))
      have HB2 := Lib.hid (HBW.out.trans (hb2.mono HBW.out.size))
      clear hb2 HRW HBW hcl
      generalize allP ((ss.map natsOf).take k) C (8 * S) = P0 at *
      go_wp2_with fail
      go_loopw [52] (fun x wr => ∃ i : Nat, i ≤ C ∧ x = .int .i64 (i : Int) ∧ Hid (wr.rowIs w.heap.size 5 (S + 1) (u8f (fillF (P0 ++ probesOf h i (8 * S)) S C)) ∧ Below w.heap.size w wr)) (fun x _ => C - (intOf x).toNat)
      case atStart => exact ⟨0, by omega, rfl, by simpa [probesOf] using HR2.out, HB2.out⟩
      case round =>
        clear HR2 HB2
        obtain ⟨i, hi, rfl, hI⟩ := hrel
        obtain ⟨hrow, hB⟩ := hI.out
        by_cases hlt2 : i < C
        · have HP : Hid (∀ wx, Calls Try.prog 22 #[.int .u32 (h : Int), .int .i64 (i : Int), .int .i64 (8 * (S : Int))] wx fun e w' => e = .returned (.int .i64 (probeN h i (8 * S) : Int)) ∧ wx = w') := Lib.hid (fun wx => by
            have := probe_any h i (8 * S) hhl (by omega) (by omega) (by omega) wx
            rwa [show ((8 * S : Nat) : Int) = 8 * (S : Int) by omega] at this)
          have hpr := probeN_lt h i (8 * S) (by omega)
          have HPS := Lib.hid (probesOf_snoc h i (8 * S))
          generalize probeN h i (8 * S) = p at *
          have HFS := Lib.hid (fun j => fill_snoc (P0 ++ probesOf h i (8 * S)) p S C j hpr)
          have hcell : wr.cell? ⟨w.heap.size, p / 8, none⟩ = some (.int .u8 (fillF (P0 ++ probesOf h i (8 * S)) S C (p / 8) : Int)) := hrow.cell (i := p / 8) (by omega)
          have hg256 : fillF (P0 ++ probesOf h i (8 * S)) S C (p / 8) < 256 := by
            unfold fillF; rw [if_pos (by omega)]; exact byteS_lt _ _
          have HO := Lib.hid (or_two (fillF (P0 ++ probesOf h i (8 * S)) S C (p / 8)) p hg256)
          have hfrz := hrow.frozen (p / 8)
          have hset := fun v => hrow.set (p / 8) v
          generalize fillF (P0 ++ probesOf h i (8 * S)) S C = g at *
          have HSET := Lib.hid hset
          have HFB := Lib.hid hB
          clear hset hrow hB hI
          go_wp2_with fail
          refine (HP.out _).mono ?_
          rintro e w3 ⟨rfl, rfl⟩
          go_wp2_with fail
          go_region
          go_wp2
          go_roundw
          case rel =>
            rw [HO.out]
            refine ⟨i + 1, by omega, by go_num, ?_, ?_⟩
            · rw [HPS.out, ← List.append_assoc]
              refine (HSET.out _).congr (fun j _ => ?_)
              show _ = Value.int .u8 ((fillF (P0 ++ probesOf h i (8 * S) ++ [p]) S C j : Nat) : Int)
              rw [HFS.out j]
              by_cases e : j = p / 8
              · rw [if_pos e, if_pos e]
              · rw [if_neg e, if_neg e]; rfl
            · exact (HFB.out.setCell (p := ⟨w.heap.size, p / 8, none⟩) (Nat.le_refl _) _).drew
          case measure => simp [intOf]; omega
        · obtain rfl : i = C := by omega
          have HRW := Lib.hid hrow
          have HBW := Lib.hid hB
          clear hrow hB hI
          go_wp2
          go_roundw
          case rel => exact ⟨k + 1, by omega, by go_num, by rw [HA.out]; exact HRW.out, HBW.out⟩
          case measure => simp [intOf]; omega
    · obtain rfl : k = n := by omega
      have HRW := Lib.hid hrow
      have HBW := Lib.hid hB
      clear hrow hB hI
      go_wp2
      go_ret2
      rw [HR.out.1, HR.out.2]
      have hL : buildL (ss.map natsOf) B = (List.range S).map (byteS (hasP (allP (ss.map natsOf) C (8 * S)))) ++ [C] := by
        unfold buildL; rw [List.length_map, HN.out, HCS.out.1, HCS.out.2]
      have hrw := HRW.out
      rw [List.take_of_length_le (by rw [List.length_map, HN.out]; exact Nat.le_refl _)] at hrw
      have hll : (buildL (ss.map natsOf) B).length = S + 1 := by rw [hL]; simp
      refine ⟨some ⟨w.heap.size, 0, none⟩, S + 1, by rw [hll]; rfl, .inr ⟨w.heap.size, 0, rfl, hrw.lt, fun j hj => ?_⟩, fun h => (by cases h), by omega, HBW.out⟩
      rw [hll] at hj
      rw [Nat.zero_add, hrw.cell hj]
      show some (Value.int .u8 ((fillF (allP (ss.map natsOf) C (8 * S)) S C j : Nat) : Int)) = _
      congr 2
      simp only [hL]
      unfold fillF
      by_cases hjS : j < S
      · rw [if_pos hjS, List.getElem_append_left (by simpa using hjS)]; simp
      · obtain rfl : j = S := by omega
        rw [if_neg hjS, List.getElem_append_right (by simp)]; simp
end Go.Proofs.Ytfgcdmgbgadkgaa
