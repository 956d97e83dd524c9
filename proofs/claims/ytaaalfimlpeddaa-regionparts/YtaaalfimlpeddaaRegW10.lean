/-
  What Make, Slabs, Idle, Raw and Size of package region do, said of a pool that lies in memory.
-/
import Derived.Test.YtaaalfimlpeddaaRegW8
namespace Go.Proofs.Ytaaalfimlpeddaa
open Go.RowKit

/-- A region of the number i is made. -/
def Ps.made (S : Ps) (i : Nat) : Ps :=
  { S with
    live := fun k => if k = i then true else S.live k
    gen := fun k => if k = i then S.gen i + 1 else S.gen k
    fill := fun k => if k = i then 0 else S.fill k
    sl := fun k => if k = i then [] else S.sl k
    sv := fun k => if k = i then .slice none 0 0 else S.sv k }

theorem area_cells (S S' : Ps) (i k : Nat) (h1 : S'.size = S.size) (h2 : S'.n = S.n) (h3 : S'.bb = S.bb) (h4 : S'.tb = S.tb)
    (hl : ∀ m, m ≠ i → S'.live m = S.live m ∧ S'.gen m = S.gen m ∧ S'.sv m = S.sv m ∧ S'.fill m = S.fill m) :
    (if k = 3 + i * 4 + 3 then Value.int .i64 (S'.fill i) else if k = 3 + i * 4 + 2 then S'.sv i else if k = 3 + i * 4 + 1 then .int .i64 (S'.gen i) else if k = 3 + i * 4 then .bool (S'.live i) else S.pc k) = S'.pc k := by
  by_cases e3 : k = 3 + i * 4 + 3
  · rw [if_pos e3, e3, Ps.pc_fill]
  · rw [if_neg e3]
    by_cases e2 : k = 3 + i * 4 + 2
    · rw [if_pos e2, e2, Ps.pc_sv]
    · rw [if_neg e2]
      by_cases e1 : k = 3 + i * 4 + 1
      · rw [if_pos e1, e1, Ps.pc_gen]
      · rw [if_neg e1]
        by_cases e0 : k = 3 + i * 4
        · rw [if_pos e0, e0, Ps.pc_live]
        · rw [if_neg e0]
          unfold Ps.pc
          rw [h1, h2, h3, h4]
          by_cases a : k < 3
          · by_cases a0 : k = 0
            · simp [a0]
            · by_cases a1 : k = 1
              · simp [a1]
              · have a2 : k = 2 := by omega
                simp [a2]
          · have hm : (k - 3) / 4 ≠ i := by omega
            obtain ⟨q1, q2, q3, q4⟩ := hl _ hm
            rw [q1, q2, q3, q4]

/-- The four cells of an area, stored. -/
theorem PoolAt.setArea {w : World} {S : Ps} {F : Nat → Prop} (h : PoolAt w S F) (i : Nat) {S' : Ps}
    (e1 : S'.pb = S.pb) (e2 : S'.bb = S.bb) (e3 : S'.tb = S.tb) (e4 : S'.size = S.size) (e5 : S'.n = S.n) (e6 : S'.bt = S.bt) (e7 : S'.tk = S.tk)
    (hl : ∀ m, m ≠ i → S'.live m = S.live m ∧ S'.gen m = S.gen m ∧ S'.sv m = S.sv m ∧ S'.fill m = S.fill m) (hsl : ∀ m, m ≠ i → S'.sl m = S.sl m) (hi : S'.sv i = .slice none 0 0) (hi2 : S'.sl i = []) :
    PoolAt ((((w.setCell ⟨S.pb, 3 + i * 4, none⟩ (.bool (S'.live i))).setCell ⟨S.pb, 3 + i * 4 + 1, none⟩ (.int .i64 (S'.gen i))).setCell ⟨S.pb, 3 + i * 4 + 2, none⟩ (S'.sv i)).setCell ⟨S.pb, 3 + i * 4 + 3, none⟩ (.int .i64 (S'.fill i))) S' F := by
  refine h.turnP ?_ ((((((h.hP.set _ _).set _ _).set _ _).set _ _)).congr fun k _ => area_cells S S' i k e4 e5 e2 e3 hl) e1 e2 e3 e4 e5 e6 e7 (fun m _ => ?_)
  · exact (((Touch.setCell (a := ⟨S.pb, 3 + i * 4, none⟩) _).trans (Touch.setCell (a := ⟨S.pb, 3 + i * 4 + 1, none⟩) _)).trans (Touch.setCell (a := ⟨S.pb, 3 + i * 4 + 2, none⟩) _)).trans (Touch.setCell (a := ⟨S.pb, 3 + i * 4 + 3, none⟩) _)
  · by_cases e : m = i
    · subst e; exact .inr ⟨hi, hi2⟩
    · exact .inl ⟨(hl m e).2.2.1, hsl m e⟩

/-- The least number of which there is no region, from k on. -/
def freeFrom (live : Nat → Bool) (k : Nat) : Option Nat := idleFrom live 256 k
def Ps.next (S : Ps) : Option Nat := idleFrom S.live 256 0

set_option maxRecDepth 100000 in
set_option maxHeartbeats 400000 in
theorem make_nil (w : World) :
    Calls Try.prog 7 #[.pointer none] w fun e w' => e = .returned (.tuple #[.int .i64 0, .int .i64 1]) ∧ w = w' := by
  go_enter Try.func7, Try.ntmps7
  go_wp2
  go_ret2
  exact ⟨rfl, rfl⟩

/-- What Make answers, and leaves. -/
def MakeP (S : Ps) (F : Nat → Prop) (w : World) (e : Ending) (w' : World) : Prop :=
  match S.next with
  | some i => e = .returned (.tuple #[.int .i64 i, .int .i64 0]) ∧ PoolAt w' (S.made i) F ∧ Moves F w F w'
  | none => e = .returned (.tuple #[.int .i64 0, .int .i64 5]) ∧ w = w'

set_option maxRecDepth 100000 in
set_option maxHeartbeats 800000 in
theorem make_any {w : World} {S : Ps} {F : Nat → Prop} (hS : PoolAt w S F) (hg : ∀ i, i < 256 → S.gen i < 4611686018427387904) :
    Calls Try.prog 7 #[.pointer (some ⟨S.pb, 0, none⟩)] w (MakeP S F w) := by
  have HS := Lib.hid hS
  have HGn := Lib.hid hg
  clear hS hg
  go_enter Try.func7, Try.ntmps7
  go_wp2
  go_loop [4, 5, 8] (fun _ _ i => ∃ k : Nat, k ≤ 256 ∧ i = .int .i64 k ∧ Hid (S.next = idleFrom S.live 256 k)) (fun _ _ i => 256 - (intOf i).toNat)
  case atStart => exact ⟨0, Nat.zero_le _, rfl, rfl⟩
  case round =>
    obtain ⟨k, hk, rfl, hid⟩ := hrel
    by_cases hlt : k < 256
    · have hc := HS.out.cl hlt
      have hst := idleFrom_step S.live 256 k hlt
      cases hb : S.live k
      · rw [hb] at hst hc
        have hfin : Hid (S.next = some k) := by show _ = _; rw [hid.out, hst]; rfl
        have cg := HS.out.cg hlt
        have cs := HS.out.cs hlt
        have cf := HS.out.cf hlt
        have z0 := HS.out.hP.frozen (3 + k * 4)
        have z1 := HS.out.hP.frozen (3 + k * 4 + 1)
        have z2 := HS.out.hP.frozen (3 + k * 4 + 2)
        have z3 := HS.out.hP.frozen (3 + k * 4 + 3)
        have hgk := HGn.out k hlt
        clear hb hst hid
        go_wp2
        go_ret2
        have h := HS.out.setArea k (S' := S.made k) rfl rfl rfl rfl rfl rfl rfl (fun m hm => by simp [Ps.made, hm]) (fun m hm => by simp [Ps.made, hm]) (by simp [Ps.made]) (by simp [Ps.made])
        unfold MakeP
        rw [hfin.out]
        refine ⟨rfl, ?_, ?_⟩
        · have e1 : (S.made k).live k = true := by simp [Ps.made]
          have e2 : (((S.made k).gen k : Nat) : Int) = (S.gen k : Int) + 1 := by simp [Ps.made]
          have e3 : (S.made k).sv k = .slice none 0 0 := by simp [Ps.made]
          have e4 : (((S.made k).fill k : Nat) : Int) = 0 := by simp [Ps.made]
          rw [e1, e2, e3, e4] at h
          exact h
        · exact (((Moves.setCell w (a := ⟨S.pb, 3 + k * 4, none⟩) HS.out.fp _).trans (Moves.setCell _ (a := ⟨S.pb, 3 + k * 4 + 1, none⟩) HS.out.fp _)).trans (Moves.setCell _ (a := ⟨S.pb, 3 + k * 4 + 2, none⟩) HS.out.fp _)).trans (Moves.setCell _ (a := ⟨S.pb, 3 + k * 4 + 3, none⟩) HS.out.fp _)
      · rw [hb] at hst hc
        have hnx : Hid (S.next = idleFrom S.live 256 (k + 1)) := by show _ = _; rw [hid.out, hst]; rfl
        clear hb hst hid
        go_wp2
        go_round
        case rel => exact ⟨k + 1, by omega, by go_num, hnx⟩
        case measure => simp [intOf]; omega
    · have : k = 256 := by omega
      subst this
      have hfin : Hid (S.next = none) := by show _ = _; rw [hid.out, idleFrom_end]
      clear hid
      go_wp2
      go_ret2
      unfold MakeP
      rw [hfin.out]; exact ⟨rfl, rfl⟩

set_option maxRecDepth 100000 in
set_option maxHeartbeats 400000 in
theorem size_any {w : World} {S : Ps} {F : Nat → Prop} (hS : PoolAt w S F) :
    Calls Try.prog 13 #[.pointer (some ⟨S.pb, 0, none⟩)] w fun e w' => e = .returned (.int .i64 S.size) ∧ w = w' := by
  have c0 := hS.c0
  clear hS
  go_enter Try.func13, Try.ntmps13
  go_wp2
  go_ret
  exact ⟨rfl, rfl⟩
set_option maxRecDepth 100000 in
set_option maxHeartbeats 400000 in
theorem size_nil (w : World) : Calls Try.prog 13 #[.pointer none] w fun e w' => e = .returned (.int .i64 0) ∧ w = w' := by
  go_enter Try.func13, Try.ntmps13
  go_wp2
  go_ret
  exact ⟨rfl, rfl⟩
set_option maxRecDepth 100000 in
set_option maxHeartbeats 400000 in
theorem idle_nil (w : World) : Calls Try.prog 9 #[.pointer none] w fun e w' => e = .returned (.int .i64 0) ∧ w = w' := by
  go_enter Try.func9, Try.ntmps9
  go_wp2
  go_ret
  exact ⟨rfl, rfl⟩

/-- How many slabs below k are idle. -/
def idleCnt (tk : Nat → Bool) (k : Nat) : Nat := (List.range k).countP (fun j => !tk j)
theorem idleCnt_succ (tk : Nat → Bool) (k : Nat) : idleCnt tk (k + 1) = idleCnt tk k + if tk k then 0 else 1 := by
  unfold idleCnt; rw [List.range_succ, List.countP_append]; cases h : tk k <;> simp [h]
theorem idleCnt_le (tk : Nat → Bool) (k : Nat) : idleCnt tk k ≤ k := by
  unfold idleCnt; have := List.countP_le_length (p := fun j => !tk j) (l := List.range k); simpa using this

set_option maxRecDepth 100000 in
set_option maxHeartbeats 400000 in
theorem idle_any {w : World} {S : Ps} {F : Nat → Prop} (hS : PoolAt w S F) (hn : S.n ≤ 4096) :
    Calls Try.prog 9 #[.pointer (some ⟨S.pb, 0, none⟩)] w fun e w' => e = .returned (.int .i64 (idleCnt S.tk S.n)) ∧ w = w' := by
  have HS := Lib.hid hS
  have c2 := hS.c2
  clear hS
  go_enter Try.func9, Try.ntmps9
  go_wp2
  go_loop [3, 5, 13] (fun c _ i => ∃ k : Nat, k ≤ S.n ∧ i = .int .i64 k ∧ c = .int .i64 (idleCnt S.tk k)) (fun _ _ i => S.n - (intOf i).toNat)
  case atStart => exact ⟨0, Nat.zero_le _, rfl, rfl⟩
  case round =>
    obtain ⟨k, hk, rfl, rfl⟩ := hrel
    have hle := idleCnt_le S.tk k
    by_cases hlt : k < S.n
    · have hc := HS.out.ct hlt
      have hst := idleCnt_succ S.tk k
      cases hb : S.tk k
      · rw [hb] at hst hc
        have HST := Lib.hid hst
        clear hb hst
        go_wp2
        go_round
        case rel => exact ⟨k + 1, by omega, by go_num, by rw [HST.out]; go_num⟩
        case measure => simp [intOf]; omega
      · rw [hb] at hst hc
        have HST := Lib.hid hst
        clear hb hst
        go_wp2
        go_round
        case rel => exact ⟨k + 1, by omega, by go_num, by rw [HST.out]; go_num⟩
        case measure => simp [intOf]; omega
    · have : k = S.n := by omega
      subst this
      go_wp2
      go_ret
      exact ⟨rfl, rfl⟩

set_option maxRecDepth 100000 in
set_option maxHeartbeats 800000 in
theorem raw_bad {w : World} {S : Ps} {F : Nat → Prop} (hS : PoolAt w S F) (z : Int) (hz : z < 0 ∨ (S.n : Int) ≤ z) :
    Calls Try.prog 28 #[.pointer (some ⟨S.pb, 0, none⟩), .int .i64 z] w fun e w' => e = .returned (.tuple #[.slice none 0 0, .int .i64 1]) ∧ w = w' := by
  have c2 := hS.c2
  clear hS
  by_cases h0 : z < 0
  · clear hz
    go_enter Try.func28, Try.ntmps28
    go_wp2
    go_ret2
    exact ⟨rfl, rfl⟩
  · have h1 : (S.n : Int) ≤ z := by omega
    clear hz
    go_enter Try.func28, Try.ntmps28
    go_wp2
    go_ret2
    exact ⟨rfl, rfl⟩

set_option maxRecDepth 100000 in
set_option maxHeartbeats 800000 in
theorem raw_ok {w : World} {S : Ps} {F : Nat → Prop} (hS : PoolAt w S F) (hO : S.Ok) {j : Nat} (hj : j < S.n) :
    Calls Try.prog 28 #[.pointer (some ⟨S.pb, 0, none⟩), .int .i64 j] w fun e w' => ∃ v, e = .returned (.tuple #[v, .int .i64 0]) ∧ FreshRow 5 w v (u8s (S.bytesAt (j * S.size) S.size)) w' := by
  have HS := Lib.hid hS
  have HO := Lib.hid hO
  have c2 := hS.c2
  have hs1 := hO.s1
  have hs3 := hO.s3
  have hjs : j * S.size + S.size ≤ S.size * S.n := by
    have : (j + 1) * S.size ≤ S.n * S.size := Nat.mul_le_mul_right _ hj
    rw [Nat.add_mul, Nat.one_mul, Nat.mul_comm S.n] at this; exact this
  clear hS hO
  go_enter Try.func28, Try.ntmps28
  go_wp2_with fail
  refine (slab_any HS.out hj hs3 (by omega)).mono ?_
  rintro e w1 ⟨rfl, n1, rfl⟩
  have hcp := copyOf_some (w.drewN n1) ⟨S.bb, j * S.size, none⟩ S.size (S.size * S.n - j * S.size) (u8s (S.bytesAt (j * S.size) S.size)) (by simp [u8s, Ps.bytesAt]) (bytes_news (HS.out.drewN n1) hjs) (u8s_one _) (by omega) (by omega)
  have HC := Lib.hid hcp
  clear hcp
  go_wp2_with fail
  refine HC.out.mono ?_
  rintro e w2 ⟨v, rfl, hv⟩
  have HV := Lib.hid hv
  clear hv
  go_wp2
  go_ret2
  obtain ⟨cap, hv, hown, hgr, hlt⟩ := HV.out
  have hl : (u8s (S.bytesAt (j * S.size) S.size)).length = S.size := by simp [u8s, Ps.bytesAt]
  refine ⟨_, rfl, w.heap.size, cap, by rw [hl]; exact hv, Nat.le_refl _, hlt, by rw [hl]; exact hown, ⟨hgr.os, hgr.tape, hgr.output, hgr.size, fun k hk => hgr.block k hk (by simp)⟩⟩
end Go.Proofs.Ytaaalfimlpeddaa
