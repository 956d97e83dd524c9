/-
  What hand of package region does, said of a pool that lies in memory.
-/
import Derived.Test.YtaaalfimlpeddaaRegW3
namespace Go.Proofs.Ytaaalfimlpeddaa
open Go.RowKit

/-- A pool whose region i got the slab j, whose bytes are noughts; its list of slabs is the value v now. -/
def Ps.handed (S : Ps) (i j : Nat) (v : Value) : Ps :=
  { S with
    bt := fun k => if j * S.size ≤ k ∧ k < j * S.size + S.size then 0 else S.bt k
    tk := fun k => if k = j then true else S.tk k
    sl := fun k => if k = i then S.sl i ++ [j] else S.sl k
    sv := fun k => if k = i then v else S.sv k }

theorem cell_one_new' {w : World} {B : Nat} (hB : w.heap.size = B) {v : Value} {t : TypeId} : ∀ j u, [v][j]? = some u → (w.alloc (.cells #[v] t)).cell? ((⟨B, 0, none⟩ : Addr).add j) = some u := by
  subst hB
  exact cell_one_new _ _ _

set_option maxRecDepth 100000 in
set_option maxHeartbeats 800000 in
theorem hand_any {w : World} {S : Ps} {F : Nat → Prop} (hS : PoolAt w S F) {i j : Nat} (hi : i < 256) (hj : j < S.n) (hN : S.size * S.n ≤ 4194304) (hsz : 1 ≤ S.size) (hln : (S.sl i).length ≤ 4096) (_hn : S.n ≤ 4096) :
    Calls Try.prog 36 #[.pointer (some ⟨S.pb, 0, none⟩), .pointer (some ⟨S.pb, 3 + i * 4, none⟩), .int .i64 j] w fun e w' =>
      e = .returned (.tuple #[]) ∧ ∃ v F', PoolAt w' (S.handed i j v) F' ∧ Moves F w F' w' := by
  obtain ⟨i0, hi0, hz0, hz1, hz2⟩ := info_parts Try.info3
  have hjs : j * S.size + S.size ≤ S.size * S.n := by
    have : (j + 1) * S.size ≤ S.n * S.size := Nat.mul_le_mul_right _ hj
    rw [Nat.add_mul, Nat.one_mul, Nat.mul_comm S.n] at this; exact this
  have HS := Lib.hid hS
  clear hS
  go_enter Try.func36, Try.ntmps36
  go_wp2_with fail
  refine (slab_any HS.out hj hN hsz).mono ?_
  rintro e w1 ⟨rfl, n1, rfl⟩
  go_wp2_with fail
  refine (paint_any0 (w.drewN n1) S.bb (j * S.size) S.size _ (S.size * S.n) 0 _ (HS.out.drewN n1).hB hjs hN).mono ?_
  rintro e w2 ⟨rfl, hrow, hto⟩
  have hB2 : PoolAt w2 { S with bt := fun k => if j * S.size ≤ k ∧ k < j * S.size + S.size then 0 else S.bt k } F :=
    (HS.out.drewN n1).turnB hto (hrow.congr (fun k _ => by by_cases e : j * S.size ≤ k ∧ k < j * S.size + S.size <;> simp [e]))
  have HM2 := Lib.hid ((Moves.drewN F w n1).trans (hto.moves HS.out.fb))
  have H2 := Lib.hid hB2
  have c2 : w2.cell? ⟨S.pb, 2, none⟩ = some (.slice (some ⟨S.tb, 0, none⟩) S.n S.n) := hB2.c2
  have ct : w2.cell? ⟨S.tb, j, none⟩ = some (.bool (S.tk j)) := hB2.ct hj
  have cz : w2.frozen? ⟨S.tb, j, none⟩ = false := hB2.hT.frozen j
  have cs : w2.cell? ⟨S.pb, 3 + i * 4 + 2, none⟩ = some (S.sv i) := hB2.cs hi
  have hn1 : S.pb ≠ S.tb := hB2.n2
  have hn2 : S.tb ≠ S.pb := hB2.n2.symm
  clear hB2 hrow hto
  go_wp2_with (at_builtin; refine wpList_append_lies _ rfl _ _ 56 rfl 0 3 i0 (.int .i64 0) 1 8 Try.underlying56 hi0 hz0 hz1 hz2 rfl (by decide) (S.sv i) (S.sl i).length ((S.sl i).map fun j : Nat => Value.int .i64 j) rfl ?c0 ⟨w2.heap.size, 0, none⟩ 1 1 [.int .i64 j] rfl ?c1 ?c2 ?c3 ?c4 ?c5 ?c6 ?c7 (w2.heap.size + 1) ?c8 ?_)
  case c0 => exact ((H2.out.setTk j true).alloc _).hR i hi
  case c1 => rfl
  case c2 => exact cell_one_new' (w := w2.setCell ⟨S.tb, j, none⟩ (.bool true)) (by simp [World.setCell])
  case c3 => intro u hu; simp at hu; subst hu; rfl
  case c4 => decide
  case c5 => unfold maxLen; omega
  case c6 => omega
  case c7 => exact Nat.zero_le _
  case c8 => simp [World.setCell]
  intro g cap w3 hown hgr hg hlt
  have h3 := (H2.out.setTk j true).alloc (.cells #[.int .i64 (j : Int)] 3)
  have hne : some S.pb ≠ (S.sv i).ownBlock := fun e => (h3.n4 i hi S.pb e.symm).1 rfl
  have cs3 : w3.cell? ⟨S.pb, 3 + i * 4 + 2, none⟩ = some (S.sv i) := (hgr.cell_far ⟨S.pb, 3 + i * 4 + 2, none⟩ (h3.fl _ h3.fp) hne).trans (h3.cs hi)
  have fz3 : w3.frozen? ⟨S.pb, 3 + i * 4 + 2, none⟩ = false := (hgr.frozen_far ⟨S.pb, 3 + i * 4 + 2, none⟩ (h3.fl _ h3.fp) hne).trans (h3.hP.frozen _)
  have hfin := PoolAt.addSlab (w := w2.setCell ⟨S.tb, j, none⟩ (.bool true)) (H2.out.setTk j true) hi j (w2 := w3) (g := g) (cap := cap)
    (w1 := (w2.setCell ⟨S.tb, j, none⟩ (.bool true)).alloc (.cells #[.int .i64 (j : Int)] 3))
    (fun k hk => Below.heap_alloc _ _ _ ((H2.out.setTk j true).fl k hk)) (Moves.alloc _ _ _) hown hgr (hg.imp id (fun e => by rw [e]; simp [World.setCell])) hlt
  have HF := Lib.hid (And.intro hfin.1 ((HM2.out.trans (Moves.setCell w2 (a := ⟨S.tb, j, none⟩) H2.out.ft (.bool true))).trans hfin.2))
  clear hfin h3 hown hgr hg hne ct cz cs c2 H2 HM2 HS
  go_wp2
  go_end0
  exact ⟨rfl, _, _, HF.out.1, HF.out.2⟩
end Go.Proofs.Ytaaalfimlpeddaa
