/-
  What isAlign, leastIdle, copyOf, place and hand of package region do, said of a pool that lies in memory.
-/
import Derived.Test.YtaaalfimlpeddaaRegW1
namespace Go.Proofs.Ytaaalfimlpeddaa
open Go.RowKit

theorem Try.info5 : (Try.prog.info? 5).map (fun i => (i.zero, i.size, i.bytes)) = some (some (.int .u8 0), 1, 1) := by kernel_rfl
theorem Try.info3 : (Try.prog.info? 3).map (fun i => (i.zero, i.size, i.bytes)) = some (some (.int .i64 0), 1, 8) := by kernel_rfl

/-- One of the seven alignments. -/
def alB (z : Int) : Bool := z == 1 || z == 2 || z == 4 || z == 8 || z == 16 || z == 32 || z == 64

theorem alB_bits (n : Nat) (h1 : 1 ≤ n) (h2 : n ≤ 64) : (bits BinOp.and IntKind.i64 (n : Int) ((n : Int) - 1) == 0) = alB n := by
  have h : ∀ k : Fin 65, 1 ≤ k.val → (bits BinOp.and IntKind.i64 (k.val : Int) ((k.val : Int) - 1) == 0) = alB k.val := by decide +kernel
  exact h ⟨n, by omega⟩ h1
theorem alB_out (z : Int) (h : z < 1 ∨ 64 < z) : alB z = false := by
  simp [alB]; omega

set_option maxRecDepth 100000 in
set_option maxHeartbeats 400000 in
theorem isAlign_any (z : Int) (w : World) :
    Calls Try.prog 33 #[.int .i64 z] w fun e w' => e = .returned (.bool (alB z)) ∧ w = w' := by
  by_cases h1 : z < 1
  · have ha : alB z = false := alB_out z (by omega)
    rw [ha]
    clear ha
    go_enter Try.func33, Try.ntmps33
    go_wp2
    go_ret
    exact ⟨rfl, rfl⟩
  · by_cases h2 : 64 < z
    · have ha : alB z = false := alB_out z (by omega)
      rw [ha]
      clear ha
      go_enter Try.func33, Try.ntmps33
      go_wp2
      go_ret
      exact ⟨rfl, rfl⟩
    · obtain ⟨n, rfl⟩ := Int.eq_ofNat_of_zero_le (show 0 ≤ z by omega)
      have ha := alB_bits n (by omega) (by omega)
      rw [← ha]
      clear ha
      have k1 : 1 ≤ n := by omega
      have k2 : n ≤ 64 := by omega
      clear h1 h2
      go_enter Try.func33, Try.ntmps33
      go_wp2
      go_ret
      exact ⟨rfl, rfl⟩

/-- The least idle slab below n, from k on. -/
def idleFrom (tk : Nat → Bool) (n k : Nat) : Option Nat := (List.range' k (n - k)).find? (fun j => !tk j)
theorem idleFrom_step (tk : Nat → Bool) (n k : Nat) (h : k < n) : idleFrom tk n k = if tk k then idleFrom tk n (k + 1) else some k := by
  unfold idleFrom
  obtain ⟨m, hm⟩ : ∃ m, n - k = m + 1 := ⟨n - k - 1, by omega⟩
  rw [hm, List.range'_succ, show n - (k + 1) = m from by omega]
  cases hk : tk k <;> simp [hk]
theorem idleFrom_end (tk : Nat → Bool) (n : Nat) : idleFrom tk n n = none := by simp [idleFrom]
def Ps.idle (S : Ps) : Option Nat := idleFrom S.tk S.n 0
def idleV : Option Nat → Value
  | some j => .tuple #[.int .i64 j, .bool true]
  | none => .tuple #[.int .i64 0, .bool false]

set_option maxRecDepth 100000 in
set_option maxHeartbeats 400000 in
theorem leastIdle_any0 (w : World) (pb tb n : Nat) (tk : Nat → Bool) (h2 : w.cell? ⟨pb, 2, none⟩ = some (.slice (some ⟨tb, 0, none⟩) n n)) (ht : w.rowIs tb 4 n (fun j => .bool (tk j))) (hn : n ≤ 4096) :
    Calls Try.prog 35 #[.pointer (some ⟨pb, 0, none⟩)] w fun e w' => e = .returned (idleV (idleFrom tk n 0)) ∧ w = w' := by
  go_enter Try.func35, Try.ntmps35
  go_wp2
  go_loop [4, 5, 11] (fun _ _ i => ∃ k : Nat, k ≤ n ∧ i = .int .i64 k ∧ Hid (idleFrom tk n 0 = idleFrom tk n k)) (fun _ _ i => n - (intOf i).toNat)
  case atStart => exact ⟨0, Nat.zero_le _, rfl, rfl⟩
  case round =>
    obtain ⟨k, hk, rfl, hid⟩ := hrel
    by_cases hlt : k < n
    · have hc := ht.cell hlt
      have hst := idleFrom_step tk n k hlt
      cases hb : tk k
      · rw [hb] at hst
        have hfin : Hid (idleFrom tk n 0 = some k) := by show _ = _; rw [hid.out, hst]; rfl
        simp only [hb] at hc
        clear hb hst hid ht
        go_wp2
        go_ret2
        rw [hfin.out]; exact ⟨rfl, rfl⟩
      · rw [hb] at hst
        have hnx : Hid (idleFrom tk n 0 = idleFrom tk n (k + 1)) := by show _ = _; rw [hid.out, hst]; rfl
        simp only [hb] at hc
        clear hb hst hid ht
        go_wp2
        go_round
        case rel => exact ⟨k + 1, by omega, by go_num, hnx⟩
        case measure => simp [intOf]; omega
    · have : k = n := by omega
      subst this
      have hfin : Hid (idleFrom tk k 0 = none) := by show _ = _; rw [hid.out, idleFrom_end]
      clear hid ht
      go_wp2
      go_ret2
      rw [hfin.out]; exact ⟨rfl, rfl⟩

theorem leastIdle_any {w : World} {S : Ps} {F : Nat → Prop} (hS : PoolAt w S F) (hn : S.n ≤ 4096) :
    Calls Try.prog 35 #[.pointer (some ⟨S.pb, 0, none⟩)] w fun e w' => e = .returned (idleV S.idle) ∧ w = w' :=
  leastIdle_any0 w S.pb S.tb S.n S.tk hS.c2 hS.hT hn

set_option maxRecDepth 100000 in
set_option maxHeartbeats 400000 in
theorem copyOf_nil (w : World) :
    Calls Try.prog 40 #[.slice none 0 0] w fun e w' => e = .returned (.slice none 0 0) ∧ w = w' := by
  go_enter Try.func40, Try.ntmps40
  go_wp2
  go_ret
  exact ⟨rfl, rfl⟩

/-- New memory with these cells. -/
def Copied (e : TypeId) (m : Nat) (news : List Value) (w : World) (v : Value) (w' : World) : Prop :=
  ∃ cap, v = .slice (some ⟨w.heap.size, 0, none⟩) m cap ∧ w'.ownsRow w.heap.size e 1 v m news ∧ w.grownBy w' none ∧ w.heap.size < w'.heap.size

set_option maxRecDepth 100000 in
set_option maxHeartbeats 400000 in
theorem copyOf_some (w : World) (ad : Addr) (m c : Nat) (news : List Value) (hl : news.length = m) (hnews : ∀ j u, news[j]? = some u → w.cell? (ad.add j) = some u) (h1 : ∀ u ∈ news, u.oneCell' = true) (hm : 0 < m) (hb : m ≤ 4194304) :
    Calls Try.prog 40 #[.slice (some ad) m c] w fun e w' => ∃ v, e = .returned v ∧ Copied 5 m news w v w' := by
  obtain ⟨i0, hi, hz0, hz1, hz2⟩ := info_parts Try.info5
  have Hn := Lib.hid hnews
  have H1 := Lib.hid h1
  have Hl := Lib.hid hl
  clear hnews h1 hl
  go_enter Try.func40, Try.ntmps40
  go_wp2_with (at_builtin; refine wpList_append_lies _ rfl _ _ 49 rfl w.heap.size 5 i0 (.int .u8 0) 1 1 Try.underlying49 hi hz0 hz1 hz2 rfl (by decide) (.slice none 0 0) 0 [] rfl (World.ownsRow_nil _ _ _ _) ad m c news rfl ?c1 ?c2 ?c3 ?c4 ?c5 ?c6 ?c7 w.heap.size rfl ?_)
  case c1 => rw [Nat.mul_one]; exact Hl.out
  case c2 => exact Hn.out
  case c3 => exact H1.out
  case c4 => exact hm
  case c5 => unfold maxLen; omega
  case c6 => omega
  case c7 => exact Nat.le_refl _
  intro g cap w' hown hgrow hg hlt
  have hg' : g = w.heap.size := by rcases hg with hg | hg; · simp [Value.ownBlock] at hg
                                   · exact hg
  subst hg'
  have Ho := Lib.hid hown
  have Hg := Lib.hid hgrow
  clear hown hgrow hg
  go_wp2
  go_ret
  have ho := Ho.out
  refine ⟨_, rfl, cap, ?_, ?_, Hg.out, hlt⟩
  · simp
  · simpa using ho
end Go.Proofs.Ytaaalfimlpeddaa
