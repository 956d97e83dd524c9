/-
  What Slabs and Free of package region do, said of a pool that lies in memory.
-/
import Derived.Test.YtaaalfimlpeddaaRegW10
namespace Go.Proofs.Ytaaalfimlpeddaa
open Go.RowKit

/-- As FreshRow; nothing is nil. -/
def FreshOr (e : TypeId) (w : World) (v : Value) (xs : List Value) (w' : World) : Prop :=
  (xs = [] ∧ v = .slice none 0 0 ∧ Grew w w') ∨ FreshRow e w v xs w'

def i64s (l : List Nat) : List Value := l.map fun x : Nat => Value.int .i64 x

set_option maxRecDepth 100000 in
set_option maxHeartbeats 400000 in
theorem slabs_miss {w : World} {S : Ps} {F : Nat → Prop} (hS : PoolAt w S F) (r : Int) (hr : S.has r = false) :
    Calls Try.prog 25 #[.pointer (some ⟨S.pb, 0, none⟩), .int .i64 r] w fun e w' => e = .returned (.tuple #[.slice none 0 0, .int .i64 7]) ∧ w = w' := by
  have hf := find_any hS r
  rw [hr] at hf
  have HF := Lib.hid hf
  clear hf hS hr
  go_enter Try.func25, Try.ntmps25
  go_wp2_with fail
  refine HF.out.mono ?_
  rintro e w1 ⟨rfl, rfl⟩
  go_wp2
  go_ret2
  exact ⟨rfl, rfl⟩

set_option maxRecDepth 100000 in
set_option maxHeartbeats 800000 in
theorem slabs_ok {w : World} {S : Ps} {F : Nat → Prop} (hS : PoolAt w S F) (hO : S.Ok) {i : Nat} (hi : i < 256) (hlv : S.live i = true) :
    Calls Try.prog 25 #[.pointer (some ⟨S.pb, 0, none⟩), .int .i64 i] w fun e w' => ∃ v, e = .returned (.tuple #[v, .int .i64 0]) ∧ FreshOr 3 w v (i64s (S.sl i)) w' := by
  obtain ⟨i0, hi0, hz0, hz1, hz2⟩ := info_parts Try.info3
  have hf := find_in hS hi
  rw [hlv] at hf
  have HF := Lib.hid hf
  have cs := hS.cs hi
  have hr := hS.hR i hi
  have hln : (S.sl i).length ≤ 4096 := Nat.le_trans (hO.len hi) hO.s5
  clear hf hS hlv hO
  rcases hr.2 with ⟨e, h0⟩ | ⟨g, cap, cur, hv, hb, hg, hnc, hcm, hcs, ht⟩
  · have hl : S.sl i = [] := List.eq_nil_of_length_eq_zero h0
    rw [e] at cs
    have HL := Lib.hid hl
    clear e h0 hl hr
    go_enter Try.func25, Try.ntmps25
    go_wp2_with fail
    refine HF.out.mono ?_
    rintro e w1 ⟨rfl, rfl⟩
    go_wp2
    go_ret2
    exact ⟨_, rfl, .inl ⟨by rw [HL.out]; rfl, rfl, Below.refl _ _⟩⟩
  · rw [hv] at cs
    have hnews : ∀ j u, (i64s (S.sl i))[j]? = some u → w.cell? ((⟨g, 0, none⟩ : Addr).add j) = some u := (World.ownsRow.cells hr (g := g) (by rw [hv]; rfl))
    have HNW := Lib.hid hnews
    have hlen : (i64s (S.sl i)).length = (S.sl i).length := by simp [i64s]
    have HL := Lib.hid hlen
    clear hv hr hg hnews hlen hcs ht
    go_enter Try.func25, Try.ntmps25
    go_wp2_with fail
    refine HF.out.mono ?_
    rintro e w1 ⟨rfl, rfl⟩
    go_wp2_with (at_builtin; refine wpList_append_own _ rfl _ _ 56 rfl w.heap.size 3 i0 (.int .i64 0) 1 8 Try.underlying56 hi0 hz0 hz1 hz2 rfl (by decide) (.slice none 0 0) 0 [] rfl (World.ownsRow_nil _ _ _ _) ⟨g, 0, none⟩ (S.sl i).length cap (i64s (S.sl i)) rfl ?c1 ?c2 ?c3 ?c4 ?c5 ?c6 ?_)
    case c1 => rw [Nat.mul_one]; exact HL.out
    case c2 => exact HNW.out
    case c3 => intro u hu; simp [i64s] at hu; obtain ⟨x, _, rfl⟩ := hu; rfl
    case c4 => unfold maxLen; omega
    case c5 => omega
    case c6 => exact Nat.le_refl _
    intro v' w' hown hgr hnil
    have Ho := Lib.hid hown
    have Hg := Lib.hid hgr
    have Hn := Lib.hid hnil
    clear hown hgr hnil
    go_wp2
    go_ret2
    refine ⟨_, rfl, ?_⟩
    have hgrew : Grew w w' := ⟨Hg.out.os, Hg.out.tape, Hg.out.output, Hg.out.size, fun k hk => Hg.out.block k hk (by simp [Value.ownBlock])⟩
    have ho := Ho.out
    by_cases hz : (S.sl i).length = 0
    · refine .inl ⟨List.eq_nil_of_length_eq_zero (by rw [HL.out]; exact hz), ?_, hgrew⟩
      have := Hn.out.2 (List.eq_nil_of_length_eq_zero hz)
      simpa using this
    · obtain ⟨g', cap', e1, e2, e3⟩ := ho.form (by omega)
      refine .inr ⟨g', cap', ?_, e2, e3, ?_, hgrew⟩
      · rw [HL.out]; simpa using e1
      · rw [HL.out]; simpa using ho

/-- A region is freed. -/
def Ps.freed (S : Ps) (i : Nat) : Ps :=
  { S with
    live := fun k => if k = i then false else S.live k
    fill := fun k => if k = i then 0 else S.fill k
    sl := fun k => if k = i then [] else S.sl k
    sv := fun k => if k = i then .slice none 0 0 else S.sv k
    bt := fun k => if k / S.size ∈ S.sl i then 221 else S.bt k
    tk := fun j => if j ∈ S.sl i then false else S.tk j }

/-- Some slabs, poisoned and idle. -/
def Ps.pois (S : Ps) (l : List Nat) : Ps :=
  { S with bt := fun k => if k / S.size ∈ l then 221 else S.bt k, tk := fun j => if j ∈ l then false else S.tk j }

theorem pois_snoc (S : Ps) (hs : 1 ≤ S.size) (l : List Nat) (j : Nat) : S.pois (l ++ [j]) =
    { S.pois l with bt := fun k => if j * S.size ≤ k ∧ k < j * S.size + S.size then 221 else (S.pois l).bt k, tk := fun i => if i = j then false else (S.pois l).tk i } := by
  unfold Ps.pois
  congr 1
  · funext k
    have hk : k / S.size = j ↔ j * S.size ≤ k ∧ k < j * S.size + S.size := by
      rw [Nat.div_eq_iff (by omega)]; omega
    simp only [List.mem_append, List.mem_singleton]
    by_cases h1 : k / S.size ∈ l
    · simp [h1]
    · by_cases h2 : k / S.size = j
      · simp [h2, hk.1 h2]
      · simp only [h1, h2, or_self, if_false]
        rw [if_neg (fun h => h2 (hk.2 h))]
  · funext k
    simp only [List.mem_append, List.mem_singleton]
    by_cases h1 : k ∈ l <;> by_cases h2 : k = j <;> simp [h1, h2]

set_option maxRecDepth 100000 in
set_option maxHeartbeats 400000 in
theorem free_nil (r : Int) (w : World) : Calls Try.prog 10 #[.pointer none, .int .i64 r] w fun e w' => e = .returned (.int .i64 1) ∧ w = w' := by
  go_enter Try.func10, Try.ntmps10
  go_wp2_with fail
  refine (find_nil r _).mono ?_
  rintro e w1 ⟨rfl, rfl⟩
  go_wp2
  go_ret
  exact ⟨rfl, rfl⟩

set_option maxRecDepth 100000 in
set_option maxHeartbeats 400000 in
theorem free_miss {w : World} {S : Ps} {F : Nat → Prop} (hS : PoolAt w S F) (r : Int) (hr : S.has r = false) :
    Calls Try.prog 10 #[.pointer (some ⟨S.pb, 0, none⟩), .int .i64 r] w fun e w' => e = .returned (.int .i64 7) ∧ w = w' := by
  have hf := find_any hS r
  rw [hr] at hf
  have HF := Lib.hid hf
  clear hf hS hr
  go_enter Try.func10, Try.ntmps10
  go_wp2_with fail
  refine HF.out.mono ?_
  rintro e w1 ⟨rfl, rfl⟩
  go_wp2
  go_ret
  exact ⟨rfl, rfl⟩

set_option maxRecDepth 100000 in
set_option maxHeartbeats 1600000 in
theorem free_ok {w : World} {S : Ps} {F : Nat → Prop} (hS : PoolAt w S F) (hO : S.Ok) {i : Nat} (hi : i < 256) (hlv : S.live i = true) :
    Calls Try.prog 10 #[.pointer (some ⟨S.pb, 0, none⟩), .int .i64 i] w fun e w' => e = .returned (.int .i64 0) ∧ PoolAt w' (S.freed i) F ∧ Moves F w F w' := by
  have hf := find_in hS hi
  rw [hlv] at hf
  have HF := Lib.hid hf
  have HS := Lib.hid hS
  have HO := Lib.hid hO
  obtain ⟨a, cap, hv⟩ := hS.svForm hi
  have cs := hS.cs hi
  rw [hv] at cs
  have HVv := Lib.hid hv
  have hln : (S.sl i).length ≤ 4096 := Nat.le_trans (hO.len hi) hO.s5
  have hs1 := hO.s1
  have hs3 := hO.s3
  clear hf hlv hS hO hv
  go_enter Try.func10, Try.ntmps10
  go_wp2_with fail
  refine HF.out.mono ?_
  rintro e w1 ⟨rfl, rfl⟩
  go_wp2
  go_loopw [8, 23] (fun _ m wr => ∃ k : Nat, k ≤ (S.sl i).length ∧ m = .int .i64 k ∧ Hid (PoolAt wr (S.pois ((S.sl i).take k)) F) ∧ Hid (Moves F w F wr)) (fun _ m _ => (S.sl i).length - (intOf m).toNat)
  case atStart => exact ⟨0, Nat.zero_le _, rfl, by show PoolAt _ _ _; simpa [Ps.pois] using HS.out, Moves.refl _ _⟩
  case round =>
    obtain ⟨k, hk, rfl, hP, hM⟩ := hrel
    by_cases hlt : k < (S.sl i).length
    · obtain ⟨sg, scap, hsv, hsc, hsl⟩ := hP.out.svCell (q := k) hi hlt
      have hsv2 : Value.slice a (S.sl i).length cap = .slice (some ⟨sg, 0, none⟩) (S.sl i).length scap := HVv.out.symm.trans hsv
      injection hsv2 with ha _ hcap
      subst ha hcap
      have hsc2 : wr.cell? ⟨sg, k, none⟩ = some (.int .i64 ((S.sl i).getD k 0 : Nat)) := hsc
      have hmem : (S.sl i).getD k 0 ∈ S.sl i := by rw [List.getD_eq_getElem?_getD, List.getElem?_eq_getElem hlt]; simp
      have hjn : (S.sl i).getD k 0 < S.n := HO.out.v1 i hi _ hmem
      have htk : (S.sl i).take (k + 1) = (S.sl i).take k ++ [(S.sl i).getD k 0] := by
        rw [List.take_succ_eq_append_getElem hlt, List.getD_eq_getElem?_getD, List.getElem?_eq_getElem hlt]; rfl
      have HTK := Lib.hid htk
      clear hsv hsc hmem htk
      generalize hj : (S.sl i).getD k 0 = j at *
      have hjs : j * S.size + S.size ≤ S.size * S.n := by
        have : (j + 1) * S.size ≤ S.n * S.size := Nat.mul_le_mul_right _ hjn
        rw [Nat.add_mul, Nat.one_mul, Nat.mul_comm S.n] at this; exact this
      clear hj
      go_wp2_with fail
      refine (slab_any (S := S.pois ((S.sl i).take k)) hP.out hjn hs3 (by show 1 ≤ S.size; omega)).mono ?_
      rintro e w2 ⟨rfl, n2, rfl⟩
      go_wp2_with fail
      refine (paint_any0 (wr.drewN n2) S.bb (j * S.size) S.size _ (S.size * S.n) 221 _ (hP.out.drewN n2).hB hjs hs3).mono ?_
      rintro e w3 ⟨rfl, hrow, hto⟩
      have hB3 := (hP.out.drewN n2).turnB hto (bt := fun q => if j * S.size ≤ q ∧ q < j * S.size + S.size then 221 else (S.pois ((S.sl i).take k)).bt q) (hrow.congr (fun q _ => by by_cases e : j * S.size ≤ q ∧ q < j * S.size + S.size <;> simp [e]))
      have c2 : w3.cell? ⟨S.pb, 2, none⟩ = some (.slice (some ⟨S.tb, 0, none⟩) S.n S.n) := hB3.c2
      obtain ⟨tv, ct⟩ : ∃ tv, w3.cell? ⟨S.tb, j, none⟩ = some (.bool tv) := ⟨_, hB3.ct hjn⟩
      have cz : w3.frozen? ⟨S.tb, j, none⟩ = false := hB3.hT.frozen j
      have HM3 := Lib.hid ((hM.out.trans (Moves.drewN F wr n2)).trans (hto.moves HS.out.fb))
      have hfin : PoolAt (w3.setCell ⟨S.tb, j, none⟩ (.bool false)) (S.pois ((S.sl i).take (k + 1))) F := by
        rw [HTK.out, pois_snoc S (by omega)]
        exact hB3.setTk j false
      have HFN := Lib.hid hfin
      clear hB3 hrow hto hfin hP hM
      go_wp2
      go_roundw
      case rel => exact ⟨k + 1, by omega, by go_num, HFN.out, HM3.out.trans (Moves.setCell w3 (a := ⟨S.tb, j, none⟩) HS.out.ft _)⟩
      case measure => simp [intOf]; omega
    · have hkl : k = (S.sl i).length := by omega
      have hP2 : PoolAt wr (S.pois (S.sl i)) F := by have := hP.out; rw [hkl, List.take_length] at this; exact this
      have cl := hP2.cl hi
      have cg := hP2.cg hi
      have cs := hP2.cs hi
      have cf := hP2.cf hi
      have z0 := hP2.hP.frozen (3 + i * 4)
      have z1 := hP2.hP.frozen (3 + i * 4 + 1)
      have z2 := hP2.hP.frozen (3 + i * 4 + 2)
      have z3 := hP2.hP.frozen (3 + i * 4 + 3)
      have h := hP2.setArea i (S' := S.freed i) rfl rfl rfl rfl rfl rfl rfl (fun m hm => by simp [Ps.freed, Ps.pois, hm]) (fun m hm => by simp [Ps.freed, Ps.pois, hm]) (by simp [Ps.freed]) (by simp [Ps.freed])
      have e1 : (S.freed i).live i = false := by simp [Ps.freed]
      have e2 : (((S.freed i).gen i : Nat) : Int) = (S.gen i : Int) := by simp [Ps.freed]
      have e3 : (S.freed i).sv i = .slice none 0 0 := by simp [Ps.freed]
      have e4 : (((S.freed i).fill i : Nat) : Int) = 0 := by simp [Ps.freed]
      rw [e1, e2, e3, e4] at h
      have HH := Lib.hid h
      simp only [Ps.pois] at cl cg cs cf z0 z1 z2 z3
      clear h hP2 e1 e2 e3 e4 hP
      go_wp2
      go_ret
      refine ⟨rfl, HH.out, hM.out.trans ?_⟩
      exact (((Moves.setCell wr (a := ⟨S.pb, 3 + i * 4, none⟩) HS.out.fp _).trans (Moves.setCell _ (a := ⟨S.pb, 3 + i * 4 + 1, none⟩) HS.out.fp _)).trans (Moves.setCell _ (a := ⟨S.pb, 3 + i * 4 + 2, none⟩) HS.out.fp _)).trans (Moves.setCell _ (a := ⟨S.pb, 3 + i * 4 + 3, none⟩) HS.out.fp _)
end Go.Proofs.Ytaaalfimlpeddaa
