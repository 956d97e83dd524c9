/-
  Bytes in memory, texts; footprints (what a call may turn).
-/
import Derived.Test.YthpcgdgahlcblaaProg
import Derived.Test.YthpcgdgahlcblaaFrFrPure
import Derived.WalkKit
import Derived.WalkSpells
import Derived.WalkLawsBesides
import Derived.BigQuiet
import Derived.Lib.Hide
import Derived.Outline
import Derived.Deep.LoopGhost
import Derived.Deep.QuietTactic
import Derived.Deep.AppendLies
import Derived.Deep.RegionWith
import Derived.Deep.OwnRows
import Derived.Maps.AppendAt
import Derived.Below
import Derived.Laws.IdiomStrings
import Derived.Lib.BufferRead
import Derived.Lib.AppendStr
import Derived.Laws.MakeOwn
import Derived.Deep.RegionLaw
import Derived.Lib.SmallJoins
namespace Go.Proofs.Ythpcgdgahlcblaa
open Go.RowKit

theorem ret_int {k : IntKind} {a b : Int} (h : a = b) : Ending.returned (.int k a) = .returned (.int k b) := by rw [h]
theorem Try.info5 : (Try.prog.info? 5).map (fun i => (i.zero, i.size, i.bytes)) = some (some (.int .u8 0), 1, 1) := by kernel_rfl
theorem below_drewN (B : Nat) (w : World) (n : Nat) : Below B w (w.drewN n) := ⟨rfl, rfl, rfl, Nat.le_refl _, fun _ _ => rfl⟩
theorem below_next {w w1 w2 : World} (h : Below w.heap.size w w1) (k : Below w1.heap.size w1 w2) : Below w.heap.size w w2 := h.trans (k.mono h.size)
theorem addr_add (b off i : Nat) : (⟨b, off, none⟩ : Addr).add i = ⟨b, off + i, none⟩ := by unfold Addr.add; split <;> simp_all

/-- Bytes that lie in memory. -/
def Byt (w : World) (a : Option Addr) (l : List Nat) : Prop :=
  l = [] ∨ ∃ b off, a = some ⟨b, off, none⟩ ∧ b < w.heap.size ∧ ∀ i (_ : i < l.length), w.cell? ⟨b, off + i, none⟩ = some (.int .u8 (l[i] : Int))
theorem Byt.keep {w w' : World} {a : Option Addr} {l : List Nat} (h : Byt w a l) (hb : Below w.heap.size w w') : Byt w' a l := by
  rcases h with h | ⟨b, off, rfl, hlt, hc⟩
  · exact .inl h
  · exact .inr ⟨b, off, rfl, Nat.lt_of_lt_of_le hlt hb.size, fun i hi => (hb.cell (p := ⟨b, off + i, none⟩) hlt).trans (hc i hi)⟩
theorem Byt.drewN {w : World} {a : Option Addr} {l : List Nat} (h : Byt w a l) (n : Nat) : Byt (w.drewN n) a l := h.keep (below_drewN _ _ _)
theorem Byt.at {w : World} {a : Option Addr} {l : List Nat} (h : Byt w a l) {k : Nat} (hk : k < l.length) : ∃ b off, a = some ⟨b, off, none⟩ ∧ w.cell? ⟨b, off + k, none⟩ = some (.int .u8 (l[k] : Int)) := by
  rcases h with h | ⟨b, off, rfl, _, hc⟩
  · subst h; simp at hk
  · exact ⟨b, off, rfl, hc k hk⟩
def u8s (l : List Nat) : List Value := l.map fun n : Nat => Value.int .u8 n
/-- Bytes of one's own. -/
theorem byt_of_own {w : World} {B n : Nat} {v : Value} {l : List Nat} (h : w.ownsRow B 5 1 v n (u8s l)) : ∃ a cap, v = .slice a l.length cap ∧ Byt w a l ∧ (a = none → l = []) ∧ l.length ≤ cap := by
  have hn : n = l.length := by have := h.1; simp [u8s] at this; omega
  subst hn
  have hc := fun g hg => World.ownsRow.cells h (g := g) hg
  rcases h.2 with ⟨rfl, h0⟩ | ⟨g, cap, cur, rfl, hB, hg, h1, h2, h3, h4⟩
  · exact ⟨none, 0, by rw [h0], .inl (List.length_eq_zero_iff.1 h0), fun _ => List.length_eq_zero_iff.1 h0, by omega⟩
  · refine ⟨some ⟨g, 0, none⟩, cap, rfl, .inr ⟨g, 0, rfl, ?_, fun i hi => ?_⟩, (fun h => by cases h), h1⟩
    · rcases Nat.lt_or_ge g w.heap.size with h | h
      · exact h
      · rw [Array.getElem?_eq_none h] at hg; cases hg
    · have := hc g rfl i (.int .u8 (l[i] : Int)) (by simp [u8s, hi])
      rw [addr_add] at this; exact this

theorem u64_val (n : Int) : IntKind.u64.wrap n = n % 18446744073709551616 := by simp [IntKind.wrap, IntKind.bits, IntKind.signed]
theorem xor_zero64 (x : Int) (hx : 0 ≤ x ∧ x < 18446744073709551616) : bits .xor .u64 x 0 = x := by
  show IntKind.u64.wrap ((BitVec.ofInt 64 x ^^^ BitVec.ofInt 64 0).toNat : Int) = _
  rw [show BitVec.ofInt 64 0 = 0#64 from rfl, BitVec.xor_zero, BitVec.toNat_ofInt, u64_val]; omega
theorem xor_ones64 (x : Int) (hx : 0 ≤ x ∧ x < 18446744073709551616) : bits .xor .u64 x 18446744073709551615 = 18446744073709551615 - x := by
  show IntKind.u64.wrap ((BitVec.ofInt 64 x ^^^ BitVec.ofInt 64 18446744073709551615).toNat : Int) = _
  rw [show BitVec.ofInt 64 18446744073709551615 = BitVec.allOnes 64 from by decide, BitVec.xor_allOnes, BitVec.toNat_not, BitVec.toNat_ofInt, u64_val]; omega
/-- Where a part of a slice lies. -/
def part (a : Option Addr) (cap p : Nat) : Option Addr := if cap = p then a else a.map (·.add p)
theorem part_zero {a : Option Addr} {cap : Nat} {w : World} {l : List Nat} (h : Byt w a l) : Byt w (part a cap 0) l := by
  rcases h with h | ⟨b, off, rfl, hlt, hc⟩
  · exact .inl h
  · refine .inr ⟨b, off, ?_, hlt, hc⟩
    unfold part; split
    · rfl
    · simp [addr_add]
theorem run_part_to {w : World} {a : Option Addr} (len cap q : Nat) (hq : q ≤ cap) :
    (Instr.slice 23 (.slice a len cap) none (some (.int .i64 (q : Int))) none).run Try.prog w = .ok (.slice (part a cap 0) q cap) w := by
  have hel : Try.prog.elem 23 = 5 := by kernel_rfl
  rw [run_slice_h (P := Try.prog) w 23 a len cap (by rw [hel]; exact Try.underlying23) .i64 q (by omega) (by omega), hel]
  simp [go_sem, sliced, part]

/-- Bytes as a text. -/
def strOf (l : List Nat) : ByteArray := ⟨(l.map fun c => UInt8.ofNat c).toArray⟩
theorem strOf_size (l : List Nat) : (strOf l).size = l.length := by
  show ((l.map fun c => UInt8.ofNat c).toArray).size = _
  simp
theorem strOf_inj {l m : List Nat} (hl : ∀ x ∈ l, x < 256) (hm : ∀ x ∈ m, x < 256) (h : strOf l = strOf m) : l = m := by
  have h1 : l.map (fun c => UInt8.ofNat c) = m.map (fun c => UInt8.ofNat c) := by
    have := congrArg ByteArray.data h
    exact List.toArray_inj this
  have h2 := congrArg (List.map UInt8.toNat) h1
  rw [List.map_map, List.map_map] at h2
  have key : ∀ l : List Nat, (∀ x ∈ l, x < 256) → l.map (UInt8.toNat ∘ fun c => UInt8.ofNat c) = l := by
    intro l hl
    conv => rhs; rw [← List.map_id l]
    apply List.map_congr_left
    intro x hx; simp; exact hl x hx
  rwa [key l hl, key m hm] at h2
theorem loop_eq (bs : ByteArray) (i : Nat) (r : List UInt8) : ByteArray.toList.loop bs i r = r.reverse ++ bs.data.toList.drop i := by
  unfold ByteArray.toList.loop
  split
  · rename_i h
    rw [loop_eq bs (i + 1)]
    have h2 : i < bs.data.toList.length := by simpa using h
    rw [List.drop_eq_getElem_cons h2]
    simp
    show bs.data[i]! = bs.data[i]
    have h3 : i < bs.data.size := h
    rw [getElem!_pos bs.data i h3]
  · rename_i h
    have : bs.data.toList.length ≤ i := by simpa using h
    rw [List.drop_eq_nil_of_le this]; simp
termination_by bs.size - i
theorem toList_eq (bs : ByteArray) : bs.toList = bs.data.toList := by
  unfold ByteArray.toList; rw [loop_eq]; simp
/-- Texts are the same just if their bytes are. -/
theorem strEq {l m : List Nat} (hl : ∀ x ∈ l, x < 256) (hm : ∀ x ∈ m, x < 256) : ((strOf l).toList == (strOf m).toList) = decide (l = m) := by
  by_cases h : l = m
  · subst h; simp
  · rw [decide_eq_false h, beq_eq_false_iff_ne]
    intro e
    apply h
    apply strOf_inj hl hm
    rw [toList_eq, toList_eq] at e
    have : (strOf l).data = (strOf m).data := Array.toList_inj.1 e
    cases hx : strOf l; cases hy : strOf m; rw [hx, hy] at this; simp at this; rw [this]
theorem conv_bytes {w : World} {a : Option Addr} {l : List Nat} (h : Byt w a l) (hb : ∀ x ∈ l, x < 256) (ha : a = none → l = []) (cap n : Nat) (hn : l.length = n) :
    (convert 23 9 (.slice a n cap)).run Try.prog w = .ok (.string (strOf l)) w := by
  subst hn
  cases a with
  | none =>
    have := ha rfl
    subst this
    exact Lib.run_convert_nil_bytes w 23 9 5 cap Try.underlying23 Try.underlying5 Try.underlying9
  | some x =>
    have h2 := run_convert_bytes_back (P := Try.prog) w 23 9 5 x cap (l.map fun c => UInt8.ofNat c) Try.underlying23 Try.underlying5 Try.underlying9 (fun j hj => by
      rcases h with rfl | ⟨b, off, hx, _, hc⟩
      · simp at hj
      · simp at hj
        rw [Option.some.inj hx, addr_add, hc j hj]; simp
        exact (Int.emod_eq_of_lt (by omega) (by have := hb l[j] (List.getElem_mem _); omega)).symm)
    rw [List.length_map] at h2
    exact h2
/-- A text's bytes. -/
def natsOf (t : ByteArray) : List Nat := t.data.toList.map UInt8.toNat
theorem natsOf_length (t : ByteArray) : (natsOf t).length = t.size := by simp [natsOf]
theorem natsOf_byte (t : ByteArray) : ∀ x ∈ natsOf t, x < 256 := by
  intro x hx; simp only [natsOf, List.mem_map] at hx; obtain ⟨c, _, rfl⟩ := hx; exact c.toNat_lt
theorem natsOf_get (t : ByteArray) (k : Nat) (hk : k < t.size) : (natsOf t)[k]'(by rw [natsOf_length]; exact hk) = (t[k]).toNat := by simp [natsOf]; rfl
theorem natsOf_strOf {l : List Nat} (h : ∀ x ∈ l, x < 256) : natsOf (strOf l) = l := by
  unfold natsOf strOf
  simp only [List.map_map]
  conv => rhs; rw [← List.map_id l]
  apply List.map_congr_left
  intro x hx; simp; exact h x hx
/-- What is told of a slice of integers that came in (as the shell of the proof has it). -/
def IsRow (k : IntKind) (w : World) (a : Option Addr) (len cap : Nat) (zs : List Int) : Prop :=
  (a = none ∧ len = 0 ∧ cap = 0 ∧ zs = []) ∨
  ∃ x, a = some x ∧ len ≤ cap ∧ cap ≤ maxLen ∧ zs.length = cap ∧ (∀ i, i < zs.length → w.cell? (x.add i) = some (.int k (zs.getD i 0))) ∧ ∀ n ∈ zs, (Lit.int k n).wf = true
theorem wf_u8 {a : Int} (h : (Lit.int .u8 a).wf = true) : 0 ≤ a ∧ a < 256 := by
  simp [Lit.wf, IntKind.min, IntKind.max, IntKind.signed, IntKind.bits] at h; omega
/-- Bytes that came in are bytes. -/
theorem IsRow.byt {w : World} {a : Option Addr} {len cap : Nat} {zs : List Int} (h : IsRow .u8 w a len cap zs) :
    ∃ l : List Nat, l.length = len ∧ Byt w a l ∧ (∀ x ∈ l, x < 256) ∧ len ≤ cap ∧ cap ≤ maxLen ∧ (a = none → l = []) := by
  rcases h with ⟨_, rfl, rfl, _⟩ | ⟨x, rfl, h1, h2, h3, h4, h5⟩
  · exact ⟨[], rfl, .inl rfl, by simp, Nat.le_refl _, by unfold maxLen; omega, fun _ => rfl⟩
  · refine ⟨(zs.take len).map Int.toNat, by simp; omega, ?_, ?_, h1, h2, fun h => by cases h⟩
    · by_cases h0 : len = 0
      · left; simp [h0]
      · right
        have hc0 := h4 0 (by omega)
        have hx : x.add 0 = x := by simp [Addr.add]
        rw [hx] at hc0
        obtain ⟨b, off, spot⟩ := x
        have hsp : spot = none := by
          cases spot with
          | none => rfl
          | some s => simp [World.cell?] at hc0; split at hc0 <;> simp at hc0
        subst hsp
        refine ⟨b, off, rfl, World.block_lt_of_cell? w _ hc0, fun i hi => ?_⟩
        simp at hi
        have := h4 i (by omega)
        rw [addr_add] at this
        rw [this]
        have hg : zs.getD i 0 = zs[i]'(by omega) := by rw [List.getD_eq_getElem?_getD, List.getElem?_eq_getElem (by omega)]; rfl
        have hw := wf_u8 (h5 (zs[i]'(by omega)) (List.getElem_mem _))
        rw [hg]; simp only [List.getElem_map, List.getElem_take]
        rw [Int.toNat_of_nonneg hw.1]
    · intro y hy
      simp only [List.mem_map] at hy
      obtain ⟨z, hz, rfl⟩ := hy
      have := wf_u8 (h5 z (List.mem_of_mem_take hz))
      omega

theorem Byt.part {w : World} {a : Option Addr} {l : List Nat} (h : Byt w a l) (cap p q : Nat) (hc : l.length ≤ cap) (hpq : p ≤ q) (hq : q ≤ l.length) : Byt w (part a cap p) ((l.take q).drop p) := by
  by_cases h0 : p = q
  · left; subst h0; simp
  · right
    rcases h with h | ⟨b, off, rfl, hlt, hcl⟩
    · subst h; simp at hq; omega
    · refine ⟨b, off + p, ?_, hlt, fun i hi => ?_⟩
      · unfold Ythpcgdgahlcblaa.part; rw [if_neg (by omega)]; simp [addr_add]
      · simp at hi
        have := hcl (p + i) (by omega)
        rw [Nat.add_assoc, this]; simp
theorem part_none {a : Option Addr} {cap p : Nat} (h : part a cap p = none) : a = none := by
  unfold part at h; split at h
  · exact h
  · simpa using h
theorem run_part {w : World} {a : Option Addr} (len cap p q : Nat) (z : Int) (hz : z = q) (hpq : p ≤ q) (hq : q ≤ cap) :
    (Instr.slice 23 (.slice a len cap) (some (.int .i64 (p : Int))) (some (.int .i64 z)) none).run Try.prog w = .ok (.slice (part a cap p) (q - p) (cap - p)) w := by
  subst hz
  have hel : Try.prog.elem 23 = 5 := by kernel_rfl
  rw [run_slice_lh (P := Try.prog) w 23 a len cap (by rw [hel]; exact Try.underlying23) .i64 .i64 p q (by omega) (by omega) (by omega), hel]
  simp [go_sem, sliced, part]
theorem extract_str (t : ByteArray) (a b : Nat) (_hb : b ≤ t.size) : t.extract a b = strOf (((natsOf t).take b).drop a) := by
  have h1 : (t.extract a b).data.toList = (t.data.toList.take b).drop a := by
    rw [ByteArray.data_extract, Array.toList_extract, List.extract_eq_take_drop, List.drop_take]
  have h2 : (strOf (((natsOf t).take b).drop a)).data.toList = (t.data.toList.take b).drop a := by
    show (((natsOf t).take b).drop a).map (fun c => UInt8.ofNat c) = _
    unfold natsOf
    rw [← List.map_take, ← List.map_drop, List.map_map]
    conv => rhs; rw [← List.map_id ((t.data.toList.take b).drop a)]
    apply List.map_congr_left
    intro c _; simp
  have h3 : (t.extract a b).data = (strOf (((natsOf t).take b).drop a)).data := Array.toList_inj.1 (h1.trans h2.symm)
  cases hx : t.extract a b; cases hy : strOf (((natsOf t).take b).drop a)
  rw [hx, hy] at h3; simp at h3; rw [h3]
theorem conv_nil (w : World) : (convert 23 9 (.slice none 0 0)).run Try.prog w = .ok (.string ⟨#[]⟩) w :=
  conv_bytes (l := []) (.inl rfl) (by simp) (fun _ => rfl) 0 0 rfl

theorem strOf_cons (x : Nat) (l : List Nat) : strOf [x] ++ strOf l = strOf (x :: l) := by
  apply ByteArray.ext
  rw [ByteArray.data_append]
  simp [strOf]
theorem conv_one (W : World) (b x cap : Nat) (hx : x < 256) (hb : b < W.heap.size) (hc : W.cell? ⟨b, 0, none⟩ = some (.int .u8 (x : Int))) :
    (convert 23 9 (.slice (some ⟨b, 0, none⟩) 1 cap)).run Try.prog W = .ok (.string (strOf [x])) W :=
  conv_bytes (l := [x]) (.inr ⟨b, 0, rfl, hb, fun i hi => by
    have : i = 0 := by simp at hi; exact hi
    subst this; simpa using hc⟩) (by simpa using hx) (fun h => by cases h) cap 1 rfl

theorem strOf_natsOf (s : ByteArray) : strOf (natsOf s) = s := by
  apply ByteArray.ext
  have h : ((fun c => UInt8.ofNat c) ∘ UInt8.toNat) = id := by funext x; simp
  simp [strOf, natsOf, h]
theorem strOf_app (l m : List Nat) : strOf l ++ strOf m = strOf (l ++ m) := by
  apply ByteArray.ext
  rw [ByteArray.data_append]
  simp [strOf]
theorem strCells_u8s (s : ByteArray) : Go.Lib.strCells s = u8s (natsOf s) := by
  simp [Go.Lib.strCells, u8s, natsOf]
theorem wf_i64 {a : Int} (h : (Lit.int .i64 a).wf = true) : -9223372036854775808 ≤ a ∧ a ≤ 9223372036854775807 := by
  simp [Lit.wf, IntKind.min, IntKind.max, IntKind.signed, IntKind.bits] at h; omega
/-- An append whose run is known: at the operation, in a plain region, in one that draws its order. -/
theorem wp_app_run {P : Program} {w : World} {o : Oper} {a : Act} {K : Act → World → Prop} {Q : Exit → Act → World → Prop} {s x : Operand} {t u : TypeId}
    (ho : o.op = .call { callee := .builtin .append, args := #[s, x], argTypes := #[t, u] }) {v1 v2 v' : Value} {w' : World}
    (hr : (Builtin.append_ #[t, u] o.type #[v1, v2]).run P w = .ok v' w') (hs : a.eval s = v1) (hx : a.eval x = v2) (h : K (a.put o.dst v') w') : o.wp P a w K Q := by
  unfold Oper.wp execOp
  simp only [ho, resolve, invoke, builtin, Sem.run_bind, Sem.run_pure, Result.andThen_ok, List.map_toArray, List.map_cons, List.map_nil, hs, hx, hr]
  exact h
theorem wpList_app_run {P : Program} {w : World} {ops : Array Oper} {rest : List Oper} {o : Oper} {a : Act} {Q : Exit → Act → World → Prop} (hgd : o.guard = none) {s x : Operand} {t u : TypeId}
    (ho : o.op = .call { callee := .builtin .append, args := #[s, x], argTypes := #[t, u] }) {v1 v2 v' : Value} {w' : World}
    (hr : (Builtin.append_ #[t, u] o.type #[v1, v2]).run P w = .ok v' w') (hs : a.eval s = v1) (hx : a.eval x = v2) (h : wpList P ops Q rest (a.put o.dst v') w') : wpList P ops Q (o :: rest) a w :=
  wpList_plain hgd fun _ hK => wp_app_run ho hr hs hx (hK _ _ h)
theorem step_app_run {P : Program} {w : World} {ops : Array Oper} {o : Oper} {a : Act} {K : Act → World → Prop} {Q : Exit → Act → World → Prop} {E : Prop} (hgd : o.guard = none) {s x : Operand} {t u : TypeId}
    (ho : o.op = .call { callee := .builtin .append, args := #[s, x], argTypes := #[t, u] }) {v1 v2 v' : Value} {w' : World}
    (hr : (Builtin.append_ #[t, u] o.type #[v1, v2]).run P w = .ok v' w') (hs : a.eval s = v1) (hx : a.eval x = v2) (h : K (a.put o.dst v') w') :
    if Region.wanted o (yielded ops a.tmps) = true then Oper.wp P o a w K Q else E := by
  have hw : Region.wanted o (yielded ops a.tmps) = true := by simp [Region.wanted, hgd]
  rw [if_pos hw]
  exact wp_app_run ho hr hs hx h

theorem own_keep {w w' : World} {B n : Nat} {e : TypeId} {v : Value} {xs : List Value} (h : w.ownsRow B e 1 v n xs) (hb : Below w.heap.size w w') : w'.ownsRow B e 1 v n xs := by
  refine ⟨h.1, ?_⟩
  rcases h.2 with h2 | ⟨g, cap, cur, h1, h2, h3, h4⟩
  · exact .inl h2
  · refine .inr ⟨g, cap, cur, h1, h2, ?_, h4⟩
    have hlt : g < w.heap.size := by
      rcases Nat.lt_or_ge g w.heap.size with h | h
      · exact h
      · rw [Array.getElem?_eq_none h] at h3; cases h3
    rw [hb.block g hlt]; exact h3
theorem u8s_one (l : List Nat) : ∀ u ∈ u8s l, u.oneCell' = true := by
  intro u hu; simp only [u8s, List.mem_map] at hu; obtain ⟨n, _, rfl⟩ := hu; rfl
theorem u8s_app (l m : List Nat) : u8s (l ++ m) = u8s l ++ u8s m := by simp [u8s]
theorem u8s_length (l : List Nat) : (u8s l).length = l.length := by simp [u8s]
/-- A text's bytes, laid anew. -/
theorem conv_new (wr : World) (s : ByteArray) (p : Nat) (hp : wr.heap.size = p) :
    ∃ cap w2, (convert 9 23 (.string s)).run Try.prog wr = .ok (.slice (some ⟨p, 0, none⟩) s.size cap) w2 ∧ s.size ≤ cap ∧ Byt w2 (some ⟨p, 0, none⟩) (natsOf s) ∧ Below wr.heap.size wr w2 := by
  subst hp
  have h := run_bytes_of_string (P := Try.prog) wr 9 23 5 s Try.underlying9 Try.underlying23 Try.underlying5
  refine ⟨_, _, h, grownCap_ge _ _ _ _, .inr ⟨wr.heap.size, 0, rfl, by simp, fun i hi => ?_⟩, ((Below.refl _ wr).drew).alloc (by simp) _⟩
  rw [natsOf_length] at hi
  have e : (wr.drew.alloc (.cells (bytesRow s (grownCap wr s.size 0 5)) 5 ((bytesRow s (grownCap wr s.size 0 5)).size, (bytesRow s (grownCap wr s.size 0 5)).size + 1))).heap[wr.heap.size]? = some (.cells (bytesRow s (grownCap wr s.size 0 5)) 5 ((bytesRow s (grownCap wr s.size 0 5)).size, (bytesRow s (grownCap wr s.size 0 5)).size + 1)) := by
    show (wr.heap.push _)[wr.heap.size]? = _
    simp
  rw [Nat.zero_add, cell_of_row _ _ _ _ _ _ e]
  unfold bytesRow
  have hd : i < s.data.size := hi
  rw [Array.getElem?_append_left (by simpa using hd)]
  simp [natsOf]
  exact ⟨s.data[i], Array.getElem?_eq_getElem hd, rfl⟩
end Go.Proofs.Ythpcgdgahlcblaa
