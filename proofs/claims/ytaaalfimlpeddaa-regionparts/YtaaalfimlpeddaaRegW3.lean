/-
  What place and hand of package region do, said of a pool that lies in memory.
-/
import Derived.Test.YtaaalfimlpeddaaRegW2
namespace Go.Proofs.Ytaaalfimlpeddaa
open Go.RowKit

theorem PoolAt.svForm {w : World} {S : Ps} {F : Nat → Prop} (h : PoolAt w S F) {i : Nat} (hi : i < 256) : ∃ a cap, S.sv i = .slice a (S.sl i).length cap := by
  rcases (h.hR i hi).2 with ⟨e, h0⟩ | ⟨g, cap, cur, hv, _⟩
  · exact ⟨none, 0, by rw [e, h0]⟩
  · exact ⟨_, cap, hv⟩

theorem drewN_two (w : World) (a b : Nat) : ∃ k, (w.drewN a).drewN b = w.drewN k := ⟨a + b, by simp [World.drewN, Nat.add_assoc]⟩

/-- Where a piece begins that needs no slab more. -/
def upTo (rest al : Nat) : Nat := (rest + al - 1) / al * al
def Ps.from (S : Ps) (i al : Nat) : Nat := S.fill i - S.fill i % S.size + upTo (S.fill i % S.size) al
def Ps.fits (S : Ps) (i n al : Nat) : Bool := decide (S.from i al < (S.sl i).length * S.size) && decide (upTo (S.fill i % S.size) al + n ≤ S.size)

theorem upTo_le (rest al : Nat) : upTo rest al ≤ rest + al - 1 := Nat.div_mul_le_self _ _

set_option maxRecDepth 100000 in
set_option maxHeartbeats 800000 in
theorem place_any0 (w : World) (pb ao size fill R U L len cap n al : Nat) (a : Option Addr)
    (h0 : w.cell? ⟨pb, 0, none⟩ = some (.int .i64 size)) (h2 : w.cell? ⟨pb, ao + 2, none⟩ = some (.slice a len cap)) (h3 : w.cell? ⟨pb, ao + 3, none⟩ = some (.int .i64 fill))
    (hR : R = fill % size) (hU : U = upTo R al) (hL : L = len * size) (hs : 64 ≤ size) (hs2 : size ≤ 65536) (hn : n ≤ size) (ha : 1 ≤ al) (ha2 : al ≤ 64) (hf : fill ≤ 4194304) (hL2 : L ≤ 4194304) :
    Calls Try.prog 34 #[.pointer (some ⟨pb, 0, none⟩), .pointer (some ⟨pb, ao, none⟩), .int .i64 n, .int .i64 al] w fun e w' =>
      e = .returned (.tuple #[.int .i64 (fill - R + U : Nat), .bool (decide (fill - R + U < L) && decide (U + n ≤ size))]) ∧ ∃ k, w' = w.drewN k := by
  have hR1 : R ≤ fill := by rw [hR]; exact Nat.mod_le _ _
  have hR2 : R < size := by rw [hR]; exact Nat.mod_lt _ (by omega)
  have hU2 : U ≤ R + al - 1 := by rw [hU]; exact upTo_le R al
  have e1 : (fill : Int).tmod (size : Int) = (R : Int) := by rw [hR, Int.tmod_eq_emod_of_nonneg (by omega)]; exact (Int.natCast_emod _ _).symm
  have e2 : wrap64 (((R : Int) + al - 1) / al * al) = (U : Int) := by
    have h : ((R : Int) + al - 1) / al * al = (U : Int) := by
      rw [hU]; unfold upTo; rw [show ((R : Int) + al - 1) = ((R + al - 1 : Nat) : Int) from by omega]; push_cast; rfl
    rw [h]; unfold wrap64; omega
  have e3 : IntKind.i64.wrap ((len : Int) * (size : Int)) = (L : Int) := by
    rw [show (len : Int) * (size : Int) = (L : Int) from by rw [hL]; push_cast; rfl]; exact IntWalk.i64_in _ (by omega)
  have e5 : IntKind.i64.wrap ((U : Int) + (n : Int)) = (U : Int) + n := IntWalk.i64_in _ (by omega)
  have e6 : ((fill - R + U : Nat) : Int) = (fill : Int) - R + U := by omega
  have E6 := Lib.hid e6
  clear e6 hR hU hL
  by_cases hg : fill - R + U < L
  · have hd : decide ((fill : Int) - R + U < (L : Int)) = true := by simp; omega
    have hd2 : decide (fill - R + U < L) = true := by simpa using hg
    have HD2 := Lib.hid hd2
    have hv : decide ((U : Int) + n ≤ (size : Int)) = decide (U + n ≤ size) := by rw [decide_eq_decide]; omega
    have HV := Lib.hid hv
    clear hd2 hv
    go_enter Try.func34, Try.ntmps34
    go_wp2
    go_quiet (fail)
    go_wp2
    go_quiet (fail)
    go_wp2
    go_ret2
    rw [HD2.out, Bool.true_and, ← HV.out, E6.out]
    exact ⟨rfl, drewN_two _ _ _⟩
  · have hd : decide ((fill : Int) - R + U < (L : Int)) = false := by simp; omega
    have hd2 : decide (fill - R + U < L) = false := by simpa using hg
    have HD2 := Lib.hid hd2
    clear hd2
    go_enter Try.func34, Try.ntmps34
    go_wp2
    go_quiet (fail)
    go_wp2
    go_quiet (fail)
    go_wp2
    go_ret2
    rw [HD2.out, Bool.false_and, E6.out]
    exact ⟨rfl, drewN_two _ _ _⟩

theorem place_any {w : World} {S : Ps} {F : Nat → Prop} (hS : PoolAt w S F) {i n al : Nat} (hi : i < 256) (hs : 64 ≤ S.size) (hs2 : S.size ≤ 65536) (hn : n ≤ S.size) (ha : 1 ≤ al) (ha2 : al ≤ 64)
    (hf : S.fill i ≤ 4194304) (hL : (S.sl i).length * S.size ≤ 4194304) :
    Calls Try.prog 34 #[.pointer (some ⟨S.pb, 0, none⟩), .pointer (some ⟨S.pb, 3 + i * 4, none⟩), .int .i64 n, .int .i64 al] w fun e w' =>
      e = .returned (.tuple #[.int .i64 (S.from i al), .bool (S.fits i n al)]) ∧ ∃ k, w' = w.drewN k := by
  obtain ⟨a, cap, hv⟩ := hS.svForm hi
  exact place_any0 w S.pb (3 + i * 4) S.size (S.fill i) _ _ _ (S.sl i).length cap n al a hS.c0 (by rw [hS.cs hi, hv]) (hS.cf hi) rfl rfl rfl hs hs2 hn ha ha2 hf hL

/-- The slabs of a region, one more. -/
theorem PoolAt.addSlab {w w1 w2 : World} {S : Ps} {F : Nat → Prop} (h : PoolAt w S F) {i : Nat} (hi : i < 256) (j : Nat) {g cap : Nat} (hw1 : ∀ k, F k → w1.heap[k]? = w.heap[k]?) (hM : Moves F w F w1)
    (hown : w2.ownsRow 0 3 1 (.slice (some ⟨g, 0, none⟩) ((S.sl i).length + 1) cap) ((S.sl i).length + 1) ((S.sl i).map (fun j : Nat => Value.int .i64 j) ++ [.int .i64 j]))
    (hgr : w1.grownBy w2 (S.sv i).ownBlock) (hg : (S.sv i).ownBlock = some g ∨ g = w1.heap.size) (hlt : g < w2.heap.size) :
    PoolAt (w2.setCell ⟨S.pb, 3 + i * 4 + 2, none⟩ (.slice (some ⟨g, 0, none⟩) ((S.sl i).length + 1) cap))
      { S with sl := fun k => if k = i then S.sl i ++ [j] else S.sl k, sv := fun k => if k = i then .slice (some ⟨g, 0, none⟩) ((S.sl i).length + 1) cap else S.sv k } (fun k => F k ∨ k = g) ∧
    Moves F w (fun k => F k ∨ k = g) (w2.setCell ⟨S.pb, 3 + i * 4 + 2, none⟩ (.slice (some ⟨g, 0, none⟩) ((S.sl i).length + 1) cap)) := by
  have h1 : PoolAt w1 S F := h.keep hw1 hM.size
  generalize hv : Value.slice (some ⟨g, 0, none⟩) ((S.sl i).length + 1) cap = v at hown ⊢
  have hvb : v.ownBlock = some g := by rw [← hv]; rfl
  have hnp : some S.pb ≠ (S.sv i).ownBlock := fun e => (h.n4 i hi S.pb e.symm).1 rfl
  have hnb : some S.bb ≠ (S.sv i).ownBlock := fun e => (h.n4 i hi S.bb e.symm).2.1 rfl
  have hnt : some S.tb ≠ (S.sv i).ownBlock := fun e => (h.n4 i hi S.tb e.symm).2.2.1 rfl
  have gne : ∀ k, F k → (S.sv i).ownBlock ≠ some k → k ≠ g := fun k hk hne e => by
    subst e
    rcases hg with hg | hg
    · exact hne hg
    · have := h1.fl k hk; omega
  have gp : S.pb ≠ g := gne _ h.fp hnp.symm
  have gb : S.bb ≠ g := gne _ h.fb hnb.symm
  have gt : S.tb ≠ g := gne _ h.ft hnt.symm
  have two : ∀ k, F k → some k ≠ (S.sv i).ownBlock → k ≠ S.pb → (w2.setCell ⟨S.pb, 3 + i * 4 + 2, none⟩ v).heap[k]? = w1.heap[k]? := fun k hk hne hp =>
    (Below.heap_setCell _ _ _ _ hp).trans (hgr.block k (h1.fl k hk) hne)
  have rowg : (w2.setCell ⟨S.pb, 3 + i * 4 + 2, none⟩ v).ownsRow 0 3 1 v ((S.sl i).length + 1) ((S.sl i).map (fun j : Nat => Value.int .i64 j) ++ [.int .i64 j]) := by
    obtain ⟨r1, r2⟩ := hown
    refine ⟨r1, ?_⟩
    rcases r2 with r2 | ⟨g', cap', cur, hv', hb', hh, r⟩
    · exact .inl r2
    · refine .inr ⟨g', cap', cur, hv', hb', ?_, r⟩
      have : g' = g := by rw [hv'] at hvb; simpa [Value.ownBlock] using hvb
      rw [Below.heap_setCell _ _ _ _ (by rw [this]; exact gp.symm)]; exact hh
  refine ⟨⟨?_, ?_, ?_, ?_, h.n1, h.n2, h.n3, ?_, ?_, .inl h.fp, .inl h.fb, .inl h.ft, ?_⟩, ?_⟩
  · have hp2 : w2.rowIs S.pb 78 1027 S.pc := h1.hP.of_block (hgr.block _ (h1.fl _ h.fp) hnp)
    refine (hp2.set (3 + i * 4 + 2) v).congr (fun k _ => ?_)
    by_cases e : k = 3 + i * 4 + 2
    · rw [if_pos e, e, Ps.pc_sv]; simp
    · rw [if_neg e]
      unfold Ps.pc
      by_cases a0 : k = 0 <;> by_cases a1 : k = 1 <;> by_cases a2 : k = 2 <;> by_cases a3 : (k - 3) % 4 = 0 <;> by_cases a4 : (k - 3) % 4 = 1 <;> by_cases a5 : (k - 3) % 4 = 2 <;> simp only [a0, a1, a2, a3, a4, a5, if_true, if_false]
      have : (k - 3) / 4 ≠ i := by omega
      rw [if_neg this]
  · exact h1.hB.of_block (two _ h.fb hnb h.n1.symm)
  · exact h1.hT.of_block (two _ h.ft hnt h.n2.symm)
  · intro k hk
    by_cases e : k = i
    · subst e; simp only [if_true]; simpa using rowg
    · simp only [if_neg e]
      obtain ⟨r1, r2⟩ := h1.hR k hk
      refine ⟨r1, ?_⟩
      rcases r2 with r2 | ⟨g', cap', cur, hv', hb', hh, r⟩
      · exact .inl r2
      · refine .inr ⟨g', cap', cur, hv', hb', ?_, r⟩
        have hob : (S.sv k).ownBlock = some g' := by rw [hv']; rfl
        have hf := h.n4 k hk g' hob
        rw [two g' hf.2.2.2 (fun e' => h.n5 k i hk hi e g' hob e'.symm) hf.1]; exact hh
  · intro k hk g' hg'
    by_cases e : k = i
    · subst e; simp only [if_true] at hg'; rw [hvb] at hg'; injection hg' with hg'; subst hg'; exact ⟨gp.symm, gb.symm, gt.symm, .inr rfl⟩
    · simp only [if_neg e] at hg'; have := h.n4 k hk g' hg'; exact ⟨this.1, this.2.1, this.2.2.1, .inl this.2.2.2⟩
  · intro k l hk hl hkl g' hg'
    by_cases e : k = i
    · subst e
      simp only [if_true] at hg'; rw [hvb] at hg'; injection hg' with hg'; subst hg'
      simp only [if_neg (Ne.symm hkl)]
      intro e'
      exact gne g (h.n4 l hl g e').2.2.2 (fun e2 => h.n5 k l hk hl hkl g e2 e') rfl
    · simp only [if_neg e] at hg'
      by_cases e2 : l = i
      · subst e2; simp only [if_true]; rw [hvb]; intro e3; injection e3 with e3; subst e3
        exact gne g (h.n4 k hk g hg').2.2.2 (fun e4 => h.n5 k l hk hl e g hg' e4) rfl
      · simp only [if_neg e2]; exact h.n5 k l hk hl hkl g' hg'
  · intro k hk
    have hsz : (w2.setCell ⟨S.pb, 3 + i * 4 + 2, none⟩ v).heap.size = w2.heap.size := by simp [World.setCell]
    rw [hsz]
    rcases hk with hk | hk
    · exact Nat.lt_of_lt_of_le (h1.fl k hk) hgr.size
    · rw [hk]; exact hlt
  · refine hM.trans ⟨hgr.os, hgr.tape, hgr.output, by simpa [World.setCell] using hgr.size, fun k hk hf => ?_, fun k hk => ?_⟩
    · rw [Below.heap_setCell _ _ _ _ (fun e => hf (by rw [e]; exact h.fp))]
      exact hgr.block k hk (fun e => hf (h.n4 i hi k e.symm).2.2.2)
    · rcases hk with hk | rfl
      · exact .inl hk
      · rcases hg with hg | hg
        · exact .inl (h.n4 i hi k hg).2.2.2
        · exact .inr (by omega)
end Go.Proofs.Ytaaalfimlpeddaa
