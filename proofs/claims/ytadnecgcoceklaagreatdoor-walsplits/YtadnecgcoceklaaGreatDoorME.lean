/-
  Texts laid together: FsFsBase FsFsPure FsFsDir FsFsAt.
-/
import Derived.Test.YtadnecgcoceklaaGreatDoorProg
import Derived.WalkKit
import Derived.WalkSpells
import Derived.WalkLawsBesides
import Derived.BigQuiet
import Derived.Lib.Hide
import Derived.Outline
import Derived.Deep.LoopGhost
import Derived.Deep.QuietTactic
import Derived.Deep.AppendLies
import Derived.Deep.RegionWith
import Derived.Deep.OwnRows
import Derived.Maps.AppendAt
import Derived.Below
import Derived.Laws.IdiomStrings
import Derived.Lib.BufferRead
import Derived.Lib.AppendStr
import Derived.Laws.MakeOwn
import Derived.Deep.RegionLaw
import Derived.Lib.SmallJoins
import Derived.Maps.OwnSet
import Derived.Maps.Ext
import Derived.Maps.RangeWalk
import Derived.Maps.RangeRun
import Derived.Shelf.SlMaps.Clone
/-
  Bytes in memory, texts; footprints (what a call may turn).
-/
namespace Go.Proofs.YtadnecgcoceklaaGreatDoor
open Go.RowKit

theorem ret_int {k : IntKind} {a b : Int} (h : a = b) : Ending.returned (.int k a) = .returned (.int k b) := by rw [h]
theorem Tryz.info5 : (Tryz.prog.info? 5).map (fun i => (i.zero, i.size, i.bytes)) = some (some (.int .u8 0), 1, 1) := by kernel_rfl
theorem below_drewN (B : Nat) (w : World) (n : Nat) : Below B w (w.drewN n) := ⟨rfl, rfl, rfl, Nat.le_refl _, fun _ _ => rfl⟩
theorem below_next {w w1 w2 : World} (h : Below w.heap.size w w1) (k : Below w1.heap.size w1 w2) : Below w.heap.size w w2 := h.trans (k.mono h.size)
theorem addr_add (b off i : Nat) : (⟨b, off, none⟩ : Addr).add i = ⟨b, off + i, none⟩ := by unfold Addr.add; split <;> simp_all

/-- Bytes that lie in memory. -/
def Byt (w : World) (a : Option Addr) (l : List Nat) : Prop :=
  l = [] ∨ ∃ b off, a = some ⟨b, off, none⟩ ∧ b < w.heap.size ∧ ∀ i (_ : i < l.length), w.cell? ⟨b, off + i, none⟩ = some (.int .u8 (l[i] : Int))
theorem Byt.keep {w w' : World} {a : Option Addr} {l : List Nat} (h : Byt w a l) (hb : Below w.heap.size w w') : Byt w' a l := by
  rcases h with h | ⟨b, off, rfl, hlt, hc⟩
  · exact .inl h
  · exact .inr ⟨b, off, rfl, Nat.lt_of_lt_of_le hlt hb.size, fun i hi => (hb.cell (p := ⟨b, off + i, none⟩) hlt).trans (hc i hi)⟩
theorem Byt.drewN {w : World} {a : Option Addr} {l : List Nat} (h : Byt w a l) (n : Nat) : Byt (w.drewN n) a l := h.keep (below_drewN _ _ _)
theorem Byt.at {w : World} {a : Option Addr} {l : List Nat} (h : Byt w a l) {k : Nat} (hk : k < l.length) : ∃ b off, a = some ⟨b, off, none⟩ ∧ w.cell? ⟨b, off + k, none⟩ = some (.int .u8 (l[k] : Int)) := by
  rcases h with h | ⟨b, off, rfl, _, hc⟩
  · subst h; simp at hk
  · exact ⟨b, off, rfl, hc k hk⟩
def u8s (l : List Nat) : List Value := l.map fun n : Nat => Value.int .u8 n
/-- Bytes of one's own. -/
theorem byt_of_own {w : World} {B n : Nat} {v : Value} {l : List Nat} (h : w.ownsRow B 5 1 v n (u8s l)) : ∃ a cap, v = .slice a l.length cap ∧ Byt w a l ∧ (a = none → l = []) ∧ l.length ≤ cap := by
  have hn : n = l.length := by have := h.1; simp [u8s] at this; omega
  subst hn
  have hc := fun g hg => World.ownsRow.cells h (g := g) hg
  rcases h.2 with ⟨rfl, h0⟩ | ⟨g, cap, cur, rfl, hB, hg, h1, h2, h3, h4⟩
  · exact ⟨none, 0, by rw [h0], .inl (List.length_eq_zero_iff.1 h0), fun _ => List.length_eq_zero_iff.1 h0, by omega⟩
  · refine ⟨some ⟨g, 0, none⟩, cap, rfl, .inr ⟨g, 0, rfl, ?_, fun i hi => ?_⟩, (fun h => by cases h), h1⟩
    · rcases Nat.lt_or_ge g w.heap.size with h | h
      · exact h
      · rw [Array.getElem?_eq_none h] at hg; cases hg
    · have := hc g rfl i (.int .u8 (l[i] : Int)) (by simp [u8s, hi])
      rw [addr_add] at this; exact this

theorem u64_val (n : Int) : IntKind.u64.wrap n = n % 18446744073709551616 := by simp [IntKind.wrap, IntKind.bits, IntKind.signed]
theorem xor_zero64 (x : Int) (hx : 0 ≤ x ∧ x < 18446744073709551616) : bits .xor .u64 x 0 = x := by
  show IntKind.u64.wrap ((BitVec.ofInt 64 x ^^^ BitVec.ofInt 64 0).toNat : Int) = _
  rw [show BitVec.ofInt 64 0 = 0#64 from rfl, BitVec.xor_zero, BitVec.toNat_ofInt, u64_val]; omega
theorem xor_ones64 (x : Int) (hx : 0 ≤ x ∧ x < 18446744073709551616) : bits .xor .u64 x 18446744073709551615 = 18446744073709551615 - x := by
  show IntKind.u64.wrap ((BitVec.ofInt 64 x ^^^ BitVec.ofInt 64 18446744073709551615).toNat : Int) = _
  rw [show BitVec.ofInt 64 18446744073709551615 = BitVec.allOnes 64 from by decide, BitVec.xor_allOnes, BitVec.toNat_not, BitVec.toNat_ofInt, u64_val]; omega
/-- Where a part of a slice lies. -/
def part (a : Option Addr) (cap p : Nat) : Option Addr := if cap = p then a else a.map (·.add p)
theorem part_zero {a : Option Addr} {cap : Nat} {w : World} {l : List Nat} (h : Byt w a l) : Byt w (part a cap 0) l := by
  rcases h with h | ⟨b, off, rfl, hlt, hc⟩
  · exact .inl h
  · refine .inr ⟨b, off, ?_, hlt, hc⟩
    unfold part; split
    · rfl
    · simp [addr_add]
theorem run_part_to {w : World} {a : Option Addr} (len cap q : Nat) (hq : q ≤ cap) :
    (Instr.slice 47 (.slice a len cap) none (some (.int .i64 (q : Int))) none).run Tryz.prog w = .ok (.slice (part a cap 0) q cap) w := by
  have hel : Tryz.prog.elem 47 = 5 := by kernel_rfl
  rw [run_slice_h (P := Tryz.prog) w 47 a len cap (by rw [hel]; exact Tryz.underlying47) .i64 q (by omega) (by omega), hel]
  simp [go_sem, sliced, part]

/-- Bytes as a text. -/
def strOf (l : List Nat) : ByteArray := ⟨(l.map fun c => UInt8.ofNat c).toArray⟩
theorem strOf_size (l : List Nat) : (strOf l).size = l.length := by
  show ((l.map fun c => UInt8.ofNat c).toArray).size = _
  simp
theorem strOf_inj {l m : List Nat} (hl : ∀ x ∈ l, x < 256) (hm : ∀ x ∈ m, x < 256) (h : strOf l = strOf m) : l = m := by
  have h1 : l.map (fun c => UInt8.ofNat c) = m.map (fun c => UInt8.ofNat c) := by
    have := congrArg ByteArray.data h
    exact List.toArray_inj this
  have h2 := congrArg (List.map UInt8.toNat) h1
  rw [List.map_map, List.map_map] at h2
  have key : ∀ l : List Nat, (∀ x ∈ l, x < 256) → l.map (UInt8.toNat ∘ fun c => UInt8.ofNat c) = l := by
    intro l hl
    conv => rhs; rw [← List.map_id l]
    apply List.map_congr_left
    intro x hx; simp; exact hl x hx
  rwa [key l hl, key m hm] at h2
theorem loop_eq (bs : ByteArray) (i : Nat) (r : List UInt8) : ByteArray.toList.loop bs i r = r.reverse ++ bs.data.toList.drop i := by
  unfold ByteArray.toList.loop
  split
  · rename_i h
    rw [loop_eq bs (i + 1)]
    have h2 : i < bs.data.toList.length := by simpa using h
    rw [List.drop_eq_getElem_cons h2]
    simp
    show bs.data[i]! = bs.data[i]
    have h3 : i < bs.data.size := h
    rw [getElem!_pos bs.data i h3]
  · rename_i h
    have : bs.data.toList.length ≤ i := by simpa using h
    rw [List.drop_eq_nil_of_le this]; simp
termination_by bs.size - i
theorem toList_eq (bs : ByteArray) : bs.toList = bs.data.toList := by
  unfold ByteArray.toList; rw [loop_eq]; simp
/-- Texts are the same just if their bytes are. -/
theorem strEq {l m : List Nat} (hl : ∀ x ∈ l, x < 256) (hm : ∀ x ∈ m, x < 256) : ((strOf l).toList == (strOf m).toList) = decide (l = m) := by
  by_cases h : l = m
  · subst h; simp
  · rw [decide_eq_false h, beq_eq_false_iff_ne]
    intro e
    apply h
    apply strOf_inj hl hm
    rw [toList_eq, toList_eq] at e
    have : (strOf l).data = (strOf m).data := Array.toList_inj.1 e
    cases hx : strOf l; cases hy : strOf m; rw [hx, hy] at this; simp at this; rw [this]
theorem conv_bytes {w : World} {a : Option Addr} {l : List Nat} (h : Byt w a l) (hb : ∀ x ∈ l, x < 256) (ha : a = none → l = []) (cap n : Nat) (hn : l.length = n) :
    (convert 47 9 (.slice a n cap)).run Tryz.prog w = .ok (.string (strOf l)) w := by
  subst hn
  cases a with
  | none =>
    have := ha rfl
    subst this
    exact Lib.run_convert_nil_bytes w 47 9 5 cap Tryz.underlying47 Tryz.underlying5 Tryz.underlying9
  | some x =>
    have h2 := run_convert_bytes_back (P := Tryz.prog) w 47 9 5 x cap (l.map fun c => UInt8.ofNat c) Tryz.underlying47 Tryz.underlying5 Tryz.underlying9 (fun j hj => by
      rcases h with rfl | ⟨b, off, hx, _, hc⟩
      · simp at hj
      · simp at hj
        rw [Option.some.inj hx, addr_add, hc j hj]; simp
        exact (Int.emod_eq_of_lt (by omega) (by have := hb l[j] (List.getElem_mem _); omega)).symm)
    rw [List.length_map] at h2
    exact h2
/-- A text's bytes. -/
def natsOf (t : ByteArray) : List Nat := t.data.toList.map UInt8.toNat
theorem natsOf_length (t : ByteArray) : (natsOf t).length = t.size := by simp [natsOf]
theorem natsOf_byte (t : ByteArray) : ∀ x ∈ natsOf t, x < 256 := by
  intro x hx; simp only [natsOf, List.mem_map] at hx; obtain ⟨c, _, rfl⟩ := hx; exact c.toNat_lt
theorem natsOf_get (t : ByteArray) (k : Nat) (hk : k < t.size) : (natsOf t)[k]'(by rw [natsOf_length]; exact hk) = (t[k]).toNat := by simp [natsOf]; rfl
theorem natsOf_strOf {l : List Nat} (h : ∀ x ∈ l, x < 256) : natsOf (strOf l) = l := by
  unfold natsOf strOf
  simp only [List.map_map]
  conv => rhs; rw [← List.map_id l]
  apply List.map_congr_left
  intro x hx; simp; exact h x hx
/-- What is told of a slice of integers that came in (as the shell of the proof has it). -/
def IsRow (k : IntKind) (w : World) (a : Option Addr) (len cap : Nat) (zs : List Int) : Prop :=
  (a = none ∧ len = 0 ∧ cap = 0 ∧ zs = []) ∨
  ∃ x, a = some x ∧ len ≤ cap ∧ cap ≤ maxLen ∧ zs.length = cap ∧ (∀ i, i < zs.length → w.cell? (x.add i) = some (.int k (zs.getD i 0))) ∧ ∀ n ∈ zs, (Lit.int k n).wf = true
theorem wf_u8 {a : Int} (h : (Lit.int .u8 a).wf = true) : 0 ≤ a ∧ a < 256 := by
  simp [Lit.wf, IntKind.min, IntKind.max, IntKind.signed, IntKind.bits] at h; omega
/-- Bytes that came in are bytes. -/
theorem IsRow.byt {w : World} {a : Option Addr} {len cap : Nat} {zs : List Int} (h : IsRow .u8 w a len cap zs) :
    ∃ l : List Nat, l.length = len ∧ Byt w a l ∧ (∀ x ∈ l, x < 256) ∧ len ≤ cap ∧ cap ≤ maxLen ∧ (a = none → l = []) := by
  rcases h with ⟨_, rfl, rfl, _⟩ | ⟨x, rfl, h1, h2, h3, h4, h5⟩
  · exact ⟨[], rfl, .inl rfl, by simp, Nat.le_refl _, by unfold maxLen; omega, fun _ => rfl⟩
  · refine ⟨(zs.take len).map Int.toNat, by simp; omega, ?_, ?_, h1, h2, fun h => by cases h⟩
    · by_cases h0 : len = 0
      · left; simp [h0]
      · right
        have hc0 := h4 0 (by omega)
        have hx : x.add 0 = x := by simp [Addr.add]
        rw [hx] at hc0
        obtain ⟨b, off, spot⟩ := x
        have hsp : spot = none := by
          cases spot with
          | none => rfl
          | some s => simp [World.cell?] at hc0; split at hc0 <;> simp at hc0
        subst hsp
        refine ⟨b, off, rfl, World.block_lt_of_cell? w _ hc0, fun i hi => ?_⟩
        simp at hi
        have := h4 i (by omega)
        rw [addr_add] at this
        rw [this]
        have hg : zs.getD i 0 = zs[i]'(by omega) := by rw [List.getD_eq_getElem?_getD, List.getElem?_eq_getElem (by omega)]; rfl
        have hw := wf_u8 (h5 (zs[i]'(by omega)) (List.getElem_mem _))
        rw [hg]; simp only [List.getElem_map, List.getElem_take]
        rw [Int.toNat_of_nonneg hw.1]
    · intro y hy
      simp only [List.mem_map] at hy
      obtain ⟨z, hz, rfl⟩ := hy
      have := wf_u8 (h5 z (List.mem_of_mem_take hz))
      omega

theorem Byt.part {w : World} {a : Option Addr} {l : List Nat} (h : Byt w a l) (cap p q : Nat) (hc : l.length ≤ cap) (hpq : p ≤ q) (hq : q ≤ l.length) : Byt w (part a cap p) ((l.take q).drop p) := by
  by_cases h0 : p = q
  · left; subst h0; simp
  · right
    rcases h with h | ⟨b, off, rfl, hlt, hcl⟩
    · subst h; simp at hq; omega
    · refine ⟨b, off + p, ?_, hlt, fun i hi => ?_⟩
      · unfold YtadnecgcoceklaaGreatDoor.part; rw [if_neg (by omega)]; simp [addr_add]
      · simp at hi
        have := hcl (p + i) (by omega)
        rw [Nat.add_assoc, this]; simp
theorem part_none {a : Option Addr} {cap p : Nat} (h : part a cap p = none) : a = none := by
  unfold part at h; split at h
  · exact h
  · simpa using h
theorem run_part {w : World} {a : Option Addr} (len cap p q : Nat) (z : Int) (hz : z = q) (hpq : p ≤ q) (hq : q ≤ cap) :
    (Instr.slice 47 (.slice a len cap) (some (.int .i64 (p : Int))) (some (.int .i64 z)) none).run Tryz.prog w = .ok (.slice (part a cap p) (q - p) (cap - p)) w := by
  subst hz
  have hel : Tryz.prog.elem 47 = 5 := by kernel_rfl
  rw [run_slice_lh (P := Tryz.prog) w 47 a len cap (by rw [hel]; exact Tryz.underlying47) .i64 .i64 p q (by omega) (by omega) (by omega), hel]
  simp [go_sem, sliced, part]
theorem extract_str (t : ByteArray) (a b : Nat) (_hb : b ≤ t.size) : t.extract a b = strOf (((natsOf t).take b).drop a) := by
  have h1 : (t.extract a b).data.toList = (t.data.toList.take b).drop a := by
    rw [ByteArray.data_extract, Array.toList_extract, List.extract_eq_take_drop, List.drop_take]
  have h2 : (strOf (((natsOf t).take b).drop a)).data.toList = (t.data.toList.take b).drop a := by
    show (((natsOf t).take b).drop a).map (fun c => UInt8.ofNat c) = _
    unfold natsOf
    rw [← List.map_take, ← List.map_drop, List.map_map]
    conv => rhs; rw [← List.map_id ((t.data.toList.take b).drop a)]
    apply List.map_congr_left
    intro c _; simp
  have h3 : (t.extract a b).data = (strOf (((natsOf t).take b).drop a)).data := Array.toList_inj.1 (h1.trans h2.symm)
  cases hx : t.extract a b; cases hy : strOf (((natsOf t).take b).drop a)
  rw [hx, hy] at h3; simp at h3; rw [h3]
theorem conv_nil (w : World) : (convert 47 9 (.slice none 0 0)).run Tryz.prog w = .ok (.string ⟨#[]⟩) w :=
  conv_bytes (l := []) (.inl rfl) (by simp) (fun _ => rfl) 0 0 rfl

theorem strOf_cons (x : Nat) (l : List Nat) : strOf [x] ++ strOf l = strOf (x :: l) := by
  apply ByteArray.ext
  rw [ByteArray.data_append]
  simp [strOf]
theorem conv_one (W : World) (b x cap : Nat) (hx : x < 256) (hb : b < W.heap.size) (hc : W.cell? ⟨b, 0, none⟩ = some (.int .u8 (x : Int))) :
    (convert 47 9 (.slice (some ⟨b, 0, none⟩) 1 cap)).run Tryz.prog W = .ok (.string (strOf [x])) W :=
  conv_bytes (l := [x]) (.inr ⟨b, 0, rfl, hb, fun i hi => by
    have : i = 0 := by simp at hi; exact hi
    subst this; simpa using hc⟩) (by simpa using hx) (fun h => by cases h) cap 1 rfl

theorem strOf_natsOf (s : ByteArray) : strOf (natsOf s) = s := by
  apply ByteArray.ext
  have h : ((fun c => UInt8.ofNat c) ∘ UInt8.toNat) = id := by funext x; simp
  simp [strOf, natsOf, h]
theorem strOf_app (l m : List Nat) : strOf l ++ strOf m = strOf (l ++ m) := by
  apply ByteArray.ext
  rw [ByteArray.data_append]
  simp [strOf]
theorem strCells_u8s (s : ByteArray) : Go.Lib.strCells s = u8s (natsOf s) := by
  simp [Go.Lib.strCells, u8s, natsOf]
theorem wf_i64 {a : Int} (h : (Lit.int .i64 a).wf = true) : -9223372036854775808 ≤ a ∧ a ≤ 9223372036854775807 := by
  simp [Lit.wf, IntKind.min, IntKind.max, IntKind.signed, IntKind.bits] at h; omega
/-- An append whose run is known: at the operation, in a plain region, in one that draws its order. -/
theorem wp_app_run {P : Program} {w : World} {o : Oper} {a : Act} {K : Act → World → Prop} {Q : Exit → Act → World → Prop} {s x : Operand} {t u : TypeId}
    (ho : o.op = .call { callee := .builtin .append, args := #[s, x], argTypes := #[t, u] }) {v1 v2 v' : Value} {w' : World}
    (hr : (Builtin.append_ #[t, u] o.type #[v1, v2]).run P w = .ok v' w') (hs : a.eval s = v1) (hx : a.eval x = v2) (h : K (a.put o.dst v') w') : o.wp P a w K Q := by
  unfold Oper.wp execOp
  simp only [ho, resolve, invoke, builtin, Sem.run_bind, Sem.run_pure, Result.andThen_ok, List.map_toArray, List.map_cons, List.map_nil, hs, hx, hr]
  exact h
theorem wpList_app_run {P : Program} {w : World} {ops : Array Oper} {rest : List Oper} {o : Oper} {a : Act} {Q : Exit → Act → World → Prop} (hgd : o.guard = none) {s x : Operand} {t u : TypeId}
    (ho : o.op = .call { callee := .builtin .append, args := #[s, x], argTypes := #[t, u] }) {v1 v2 v' : Value} {w' : World}
    (hr : (Builtin.append_ #[t, u] o.type #[v1, v2]).run P w = .ok v' w') (hs : a.eval s = v1) (hx : a.eval x = v2) (h : wpList P ops Q rest (a.put o.dst v') w') : wpList P ops Q (o :: rest) a w :=
  wpList_plain hgd fun _ hK => wp_app_run ho hr hs hx (hK _ _ h)
theorem step_app_run {P : Program} {w : World} {ops : Array Oper} {o : Oper} {a : Act} {K : Act → World → Prop} {Q : Exit → Act → World → Prop} {E : Prop} (hgd : o.guard = none) {s x : Operand} {t u : TypeId}
    (ho : o.op = .call { callee := .builtin .append, args := #[s, x], argTypes := #[t, u] }) {v1 v2 v' : Value} {w' : World}
    (hr : (Builtin.append_ #[t, u] o.type #[v1, v2]).run P w = .ok v' w') (hs : a.eval s = v1) (hx : a.eval x = v2) (h : K (a.put o.dst v') w') :
    if Region.wanted o (yielded ops a.tmps) = true then Oper.wp P o a w K Q else E := by
  have hw : Region.wanted o (yielded ops a.tmps) = true := by simp [Region.wanted, hgd]
  rw [if_pos hw]
  exact wp_app_run ho hr hs hx h

theorem own_keep {w w' : World} {B n : Nat} {e : TypeId} {v : Value} {xs : List Value} (h : w.ownsRow B e 1 v n xs) (hb : Below w.heap.size w w') : w'.ownsRow B e 1 v n xs := by
  refine ⟨h.1, ?_⟩
  rcases h.2 with h2 | ⟨g, cap, cur, h1, h2, h3, h4⟩
  · exact .inl h2
  · refine .inr ⟨g, cap, cur, h1, h2, ?_, h4⟩
    have hlt : g < w.heap.size := by
      rcases Nat.lt_or_ge g w.heap.size with h | h
      · exact h
      · rw [Array.getElem?_eq_none h] at h3; cases h3
    rw [hb.block g hlt]; exact h3
theorem u8s_one (l : List Nat) : ∀ u ∈ u8s l, u.oneCell' = true := by
  intro u hu; simp only [u8s, List.mem_map] at hu; obtain ⟨n, _, rfl⟩ := hu; rfl
theorem u8s_app (l m : List Nat) : u8s (l ++ m) = u8s l ++ u8s m := by simp [u8s]
theorem u8s_length (l : List Nat) : (u8s l).length = l.length := by simp [u8s]
/-- A text's bytes, laid anew. -/
theorem conv_new (wr : World) (s : ByteArray) (p : Nat) (hp : wr.heap.size = p) :
    ∃ cap w2, (convert 9 47 (.string s)).run Tryz.prog wr = .ok (.slice (some ⟨p, 0, none⟩) s.size cap) w2 ∧ s.size ≤ cap ∧ Byt w2 (some ⟨p, 0, none⟩) (natsOf s) ∧ Below wr.heap.size wr w2 := by
  subst hp
  have h := run_bytes_of_string (P := Tryz.prog) wr 9 47 5 s Tryz.underlying9 Tryz.underlying47 Tryz.underlying5
  refine ⟨_, _, h, grownCap_ge _ _ _ _, .inr ⟨wr.heap.size, 0, rfl, by simp, fun i hi => ?_⟩, ((Below.refl _ wr).drew).alloc (by simp) _⟩
  rw [natsOf_length] at hi
  have e : (wr.drew.alloc (.cells (bytesRow s (grownCap wr s.size 0 5)) 5 ((bytesRow s (grownCap wr s.size 0 5)).size, (bytesRow s (grownCap wr s.size 0 5)).size + 1))).heap[wr.heap.size]? = some (.cells (bytesRow s (grownCap wr s.size 0 5)) 5 ((bytesRow s (grownCap wr s.size 0 5)).size, (bytesRow s (grownCap wr s.size 0 5)).size + 1)) := by
    show (wr.heap.push _)[wr.heap.size]? = _
    simp
  rw [Nat.zero_add, cell_of_row _ _ _ _ _ _ e]
  unfold bytesRow
  have hd : i < s.data.size := hi
  rw [Array.getElem?_append_left (by simpa using hd)]
  simp [natsOf]
  exact ⟨s.data[i], Array.getElem?_eq_getElem hd, rfl⟩
/-- From w to w': blocks outside F are as they were; the new footprint F' has old footprint blocks and new blocks alone. -/
structure Moves (F : Nat → Prop) (w : World) (F' : Nat → Prop) (w' : World) : Prop where
  os : w'.os = w.os
  tape : w'.tape = w.tape
  output : w'.output = w.output
  size : w.heap.size ≤ w'.heap.size
  block : ∀ k, k < w.heap.size → ¬ F k → w'.heap[k]? = w.heap[k]?
  foot : ∀ k, F' k → F k ∨ w.heap.size ≤ k

theorem Moves.refl (F : Nat → Prop) (w : World) : Moves F w F w := ⟨rfl, rfl, rfl, Nat.le_refl _, fun _ _ _ => rfl, fun _ h => .inl h⟩
theorem Moves.trans {F F1 F2 : Nat → Prop} {w w1 w2 : World} (h : Moves F w F1 w1) (k : Moves F1 w1 F2 w2) : Moves F w F2 w2 :=
  ⟨k.os.trans h.os, k.tape.trans h.tape, k.output.trans h.output, Nat.le_trans h.size k.size,
   fun b hb hf => (k.block b (Nat.lt_of_lt_of_le hb h.size) (fun hf1 => (h.foot b hf1).elim hf (fun h1 => by omega))).trans (h.block b hb hf),
   fun b hb => by
     rcases k.foot b hb with h1 | h1
     · exact h.foot b h1
     · exact .inr (Nat.le_trans h.size h1)⟩
theorem Moves.alloc (F : Nat → Prop) (w : World) (o : Obj) : Moves F w F (w.alloc o) :=
  ⟨rfl, rfl, rfl, by simp, fun k hk _ => Below.heap_alloc _ _ _ hk, fun _ h => .inl h⟩
theorem Moves.drewN (F : Nat → Prop) (w : World) (n : Nat) : Moves F w F (w.drewN n) := ⟨rfl, rfl, rfl, Nat.le_refl _, fun _ _ _ => rfl, fun _ h => .inl h⟩
theorem Moves.drew (F : Nat → Prop) (w : World) : Moves F w F w.drew := ⟨rfl, rfl, rfl, Nat.le_refl _, fun _ _ _ => rfl, fun _ h => .inl h⟩
/-- A store into a block of the footprint. -/
theorem Moves.setCell {F : Nat → Prop} (w : World) {a : Addr} (ha : F a.block) (v : Value) : Moves F w F (w.setCell a v) :=
  ⟨rfl, rfl, rfl, by simp [World.setCell], fun k _ hf => Below.heap_setCell _ _ _ _ (fun e => hf (by rw [e]; exact ha)), fun _ h => .inl h⟩
/-- A larger footprint, of what is written. -/
theorem Moves.widen {F G F' : Nat → Prop} {w w' : World} (h : Moves F w F' w') (hG : ∀ k, F k → G k) : Moves G w F' w' :=
  ⟨h.os, h.tape, h.output, h.size, fun k hk hf => h.block k hk (fun hF => hf (hG k hF)), fun k hk => (h.foot k hk).imp (hG k) id⟩
theorem Moves.below {F F' : Nat → Prop} {w w' : World} (h : Moves F w F' w') {B : Nat} (hB : B ≤ w.heap.size) (hF : ∀ k, F k → B ≤ k) : Below B w w' :=
  ⟨h.os, h.tape, h.output, h.size, fun k hk => h.block k (by omega) (fun hf => by have := hF k hf; omega)⟩

/-- Only block b may have turned. -/
structure Touch (b : Nat) (w w' : World) : Prop where
  os : w'.os = w.os
  tape : w'.tape = w.tape
  output : w'.output = w.output
  size : w'.heap.size = w.heap.size
  block : ∀ k, k ≠ b → w'.heap[k]? = w.heap[k]?
theorem Touch.refl (b : Nat) (w : World) : Touch b w w := ⟨rfl, rfl, rfl, rfl, fun _ _ => rfl⟩
theorem Touch.trans {b : Nat} {w w1 w2 : World} (h : Touch b w w1) (k : Touch b w1 w2) : Touch b w w2 :=
  ⟨k.os.trans h.os, k.tape.trans h.tape, k.output.trans h.output, k.size.trans h.size, fun i hi => (k.block i hi).trans (h.block i hi)⟩
theorem Touch.setCell {w : World} {a : Addr} (v : Value) : Touch a.block w (w.setCell a v) :=
  ⟨rfl, rfl, rfl, by simp [World.setCell], fun k hk => Below.heap_setCell _ _ _ _ hk⟩
theorem Touch.drewN (b : Nat) (w : World) (n : Nat) : Touch b w (w.drewN n) := ⟨rfl, rfl, rfl, rfl, fun _ _ => rfl⟩
theorem Touch.moves {b : Nat} {F : Nat → Prop} {w w' : World} (h : Touch b w w') (hF : F b) : Moves F w F w' :=
  ⟨h.os, h.tape, h.output, by rw [h.size]; exact Nat.le_refl _, fun k _ hf => h.block k (fun e => hf (by rw [e]; exact hF)), fun _ h => .inl h⟩

theorem Moves.setNew {F F' : Nat → Prop} {w w' : World} (h : Moves F w F' w') {a : Addr} (ha : w.heap.size ≤ a.block) (v : Value) : Moves F w F' (w'.setCell a v) :=
  ⟨h.os, h.tape, h.output, by simpa [World.setCell] using h.size, fun k hk hf => (Below.heap_setCell _ _ _ _ (by omega)).trans (h.block k hk hf), h.foot⟩
end Go.Proofs.YtadnecgcoceklaaGreatDoor

/-
  Files, as the document tells them: names, files by their numbers, changes that wait; each call as a function.
-/
namespace Go.Proofs.YtadnecgcoceklaaGreatDoor
open Go.RowKit

abbrev Bs := List UInt8
abbrev Dir := List (Bs × Nat)
def Dir.ins (x : Bs × Nat) : Dir → Dir
  | [] => [x]
  | y :: r => if bytesBefore x.1 y.1 then x :: y :: r else y :: Dir.ins x r
def Dir.del (d : Dir) (k : Bs) : Dir := d.filter fun p => !(p.1 == k)
def Dir.put (d : Dir) (k : Bs) (i : Nat) : Dir := Dir.ins (k, i) (Dir.del d k)
def Dir.look (d : Dir) (k : Bs) : Option Nat := (d.find? fun p => p.1 == k).map (·.2)

inductive Ch where
  | create (n : Bs) (i : Nat)
  | remove (n : Bs)
def Ch.on : Ch → Dir → Dir
  | .create n i, d => Dir.put d n i
  | .remove n, d => Dir.del d n

abbrev Fil := List Nat × Nat
structure A where
  room : Nat
  now : Dir
  last : Dir
  wait : List Ch
  off : Bool
  armed : Bool
  left : Nat
  files : List Fil

def A.new (room : Nat) : A := ⟨room, [], [], [], false, false, 0, []⟩
def inNm (c : Nat) : Bool := (decide (97 ≤ c) && decide (c ≤ 122)) || (decide (48 ≤ c) && decide (c ≤ 57)) || c == 46 || c == 45
def isNm (s : Bs) : Bool := decide (1 ≤ s.length) && decide (s.length ≤ 24) && s.all fun c => inNm c.toNat
def A.file (a : A) (i : Nat) : Fil := a.files.getD i ([], 0)
def A.setFile (a : A) (i : Nat) (f : Fil) : A := { a with files := a.files.set i f }
/-- The error of finding a name; 0 where its file is there. -/
def A.findE (a : A) (s : Bs) : Int := if isNm s = false then 6 else match Dir.look a.now s with | none => 7 | some _ => 0
def A.idx (a : A) (s : Bs) : Nat := (Dir.look a.now s).getD 0
def A.spendE (a : A) : Int := if a.off then 4 else if a.armed = false then 0 else if a.left = 0 then 4 else 0
def A.spent (a : A) : A := if a.off then a else if a.armed = false then a else if a.left = 0 then { a with off := true } else { a with left := a.left - 1 }
def A.do (a : A) (c : Ch) : A := { a with now := c.on a.now, wait := a.wait ++ [c] }
def A.used (a : A) : Nat := (a.now.map fun p => (a.file p.2).1.length).sum
/-- A call that has looked for all other errors: the power is asked, then it is done. -/
def A.try (a : A) (k : A → A) : Int × A := if a.spendE = 0 then (0, k a.spent) else (a.spendE, a.spent)

def A.create (a : A) (s : Bs) : Int × A :=
  if isNm s = false then (6, a) else
  match Dir.look a.now s with
  | some _ => (8, a)
  | none => if 400 ≤ a.now.length then (14, a) else a.try fun a => ({ a with files := a.files ++ [([], 0)] }).do (.create s a.files.length)
def A.append (a : A) (s : Bs) (b : List Nat) : Int × A :=
  if a.findE s = 0 then
    if 1048576 < (a.file (a.idx s)).1.length + b.length then (14, a)
    else if a.room < a.used + b.length then (5, a)
    else a.try fun a => a.setFile (a.idx s) ((a.file (a.idx s)).1 ++ b, (a.file (a.idx s)).2)
  else (a.findE s, a)
def A.readE (a : A) (s : Bs) (off n : Int) : Int :=
  if a.findE s = 0 then if off < 0 ∨ n < 0 ∨ ((a.file (a.idx s)).1.length : Int) < off then 1 else if a.off then 4 else 0
  else a.findE s
def A.read (a : A) (s : Bs) (off n : Int) : List Nat := if a.readE s off n = 0 then (((a.file (a.idx s)).1.drop off.toNat).take n.toNat) else []
def A.sizeE (a : A) (s : Bs) : Int := if a.findE s = 0 then if a.off then 4 else 0 else a.findE s
def A.size (a : A) (s : Bs) : Nat := if a.sizeE s = 0 then (a.file (a.idx s)).1.length else 0
def A.sync (a : A) (s : Bs) : Int × A :=
  if a.findE s = 0 then a.try fun a => a.setFile (a.idx s) ((a.file (a.idx s)).1, (a.file (a.idx s)).1.length) else (a.findE s, a)
def A.remove (a : A) (s : Bs) : Int × A :=
  if a.findE s = 0 then a.try fun a => a.do (.remove s) else (a.findE s, a)
def A.syncDir (a : A) : Int × A := a.try fun a => { a with last := a.now, wait := [] }
def A.arm (a : A) (n : Int) : A := { a with armed := decide (0 ≤ n), left := n.toNat }

/-- A pick, as the number of 64 bits. -/
def pk (ps : List Int) : Nat := (ps.headD 0 % 18446744073709551616).toNat
def cutF (f : Fil) (p : Nat) : Fil :=
  let m := p % (f.1.length - f.2 + 1)
  let b := f.1.take (f.2 + m)
  (if p % 2 = 1 ∧ 0 < m then b.set (f.2 + m - 1) (b.getD (f.2 + m - 1) 0 ^^^ 85) else b, f.2 + m)
def cutAll : Dir → List Fil → List Int → List Fil
  | [], fs, _ => fs
  | p :: d, fs, ps =>
    if (fs.getD p.2 ([], 0)).2 < (fs.getD p.2 ([], 0)).1.length then cutAll d (fs.set p.2 (cutF (fs.getD p.2 ([], 0)) (pk ps))) ps.tail
    else cutAll d fs ps
def A.cutN (a : A) (p : Nat) : A :=
  let l := (a.wait.take (p % (a.wait.length + 1))).foldl (fun d c => c.on d) a.last
  { a with now := l, last := l, wait := [] }
def A.crash (a : A) (ps : List Int) : A :=
  let b := a.cutN (pk ps)
  { b with files := cutAll b.now b.files ps.tail, off := false, armed := false, left := 0 }
end Go.Proofs.YtadnecgcoceklaaGreatDoor

/-
  Names in a map that lies in memory: looked up, put, taken away, counted.
-/
namespace Go.Proofs.YtadnecgcoceklaaGreatDoor
open Go.RowKit Go.Maps Go.ChangeShapes Go.WideShapes Go.MapKept Go.ChangeMaps

def rdP : Value → Option (DataW Nat × List MemPlace)
  | .pointer (some a) => if a.off = 0 ∧ a.spot = none then some (.held a.block, []) else none
  | .pointer none => some (.nil, [])
  | _ => none
theorem rdP_some (b : Nat) : rdP (.pointer (some ⟨b, 0, none⟩)) = some (.held b, []) := by simp [rdP]
theorem rdP_held {v : Value} {b : Nat} {ps : List MemPlace} (h : rdP v = some (.held b, ps)) : v = .pointer (some ⟨b, 0, none⟩) := by
  unfold rdP at h
  split at h
  · split at h
    · rename_i a hc
      obtain ⟨b', o, s⟩ := a
      simp only [Option.some.injEq, Prod.mk.injEq, DataW.held.injEq] at h
      simp only at hc
      rw [hc.1, hc.2, h.1]
    · cases h
  · simp at h
  · cases h
theorem rdP_nil {v : Value} {ps : List MemPlace} (h : rdP v = some (.nil, ps)) : v = .pointer none := by
  unfold rdP at h
  split at h
  · split at h
    · simp at h
    · cases h
  · rfl
  · cases h

def Dir.dat (blk : Nat → Nat) (d : Dir) : DataW Nat := .map (d.map fun p => (.string p.1, .held (blk p.2)))
def ptrOf (blk : Nat → Nat) : Option Nat → Value
  | some i => .pointer (some ⟨blk i, 0, none⟩)
  | none => .pointer none
theorem dat_del (blk : Nat → Nat) (d : Dir) (k : Bs) : (Dir.del d k).dat blk = (d.dat blk).del (.string k) := by
  unfold Dir.dat Dir.del DataW.del
  simp only [List.filter_map]
  congr 1
theorem dat_ins (blk : Nat → Nat) (k : Bs) (i : Nat) (d : Dir) : (Dir.ins (k, i) d).map (fun p => ((Lit.string p.1, DataW.held (blk p.2)) : Lit × DataW Nat)) = DataW.insert (.string k, .held (blk i)) (d.map fun p => (.string p.1, .held (blk p.2))) := by
  induction d with
  | nil => rfl
  | cons y r ih =>
    by_cases h : bytesBefore k y.1 = true
    · have h1 : Dir.ins (k, i) (y :: r) = (k, i) :: y :: r := if_pos h
      rw [h1]
      exact (if_pos (c := (Lit.string k).before (Lit.string y.1) = true) h).symm
    · have h1 : Dir.ins (k, i) (y :: r) = y :: Dir.ins (k, i) r := if_neg h
      rw [h1, List.map_cons, ih]
      exact (if_neg (c := (Lit.string k).before (Lit.string y.1) = true) h).symm
theorem dat_put (blk : Nat → Nat) (d : Dir) (k : Bs) (i : Nat) : (Dir.put d k i).dat blk = (d.dat blk).put (.string k) (.held (blk i)) := by
  have h := dat_del blk d k
  unfold Dir.put Dir.dat DataW.put
  rw [dat_ins]
  unfold Dir.dat DataW.del at h
  injection h with h
  rw [h]
theorem dat_has (blk : Nat → Nat) (d : Dir) (k : Bs) : Maps.has (d.dat blk) (.string k) = (Dir.look d k).isSome := by
  unfold Dir.dat Dir.look
  rw [Maps.has_eq, List.any_map, Option.isSome_map]
  induction d with
  | nil => rfl
  | cons y r ih =>
    simp only [List.any_cons, List.find?_cons, Function.comp, Lit.sameKey]
    by_cases h : (y.1 == k) = true
    · simp [h]
    · have : (y.1 == k) = false := by simpa using h
      rw [this]; simpa [Function.comp, Lit.sameKey] using ih
theorem dat_at (blk : Nat → Nat) (d : Dir) (k : Bs) : (d.dat blk).atKey (.string k) .nil = (match Dir.look d k with | some i => .held (blk i) | none => .nil) := by
  unfold Dir.dat Dir.look DataW.atKey
  simp only [List.find?_map]
  have : ((fun p : Lit × DataW Nat => p.1.sameKey (.string k)) ∘ fun p : Bs × Nat => (Lit.string p.1, DataW.held (blk p.2))) = fun p : Bs × Nat => p.1 == k := rfl
  rw [this]
  cases d.find? (fun p => p.1 == k) <;> rfl
theorem dat_size (blk : Nat → Nat) (d : Dir) : Maps.size (d.dat blk) = d.length := by unfold Dir.dat; rw [Maps.size_eq, List.length_map]

/-- The names d lie in the map of block b; file i lies in block blk i. -/
def DirAt (w : World) (b : Nat) (blk : Nat → Nat) (d : Dir) : Prop := w.ownsMap Tryz.prog 9 rdP b d.length (d.dat blk)
theorem K9 : Keyed Tryz.prog 9 := string_keyed Tryz.underlying9
theorem und65 : Tryz.prog.underlying 90 = some (.map 9 103) := Tryz.underlying90
theorem zeroP (w : World) : (zeroValue 103).run Tryz.prog w = .ok (.pointer none) w := by kernel_rfl
theorem key9 (s : ByteArray) (h : s.size ≤ maxLen) : keyOf Tryz.prog 9 (.string s) = some (.string s.data.toList) := by
  have hu := Tryz.underlying9
  unfold keyOf
  rw [hu]
  simp [mapKey, hu, h]

theorem ownsMap_tight {w : World} {b n : Nat} {D : DataW Nat} (h : w.ownsMap Tryz.prog 9 rdP b n D) : w.ownsMap Tryz.prog 9 rdP b (Maps.size D) D := by
  obtain ⟨es, clock, hb, F, hs, rfl⟩ := h
  exact ⟨es, clock, hb, F, by rw [Maps.size_eq, length_sorted]; simp, rfl⟩
section
variable {w : World} {b : Nat} {blk : Nat → Nat} {d : Dir}
theorem DirAt.lt (h : DirAt w b blk d) : b < w.heap.size := World.ownsMap.lt h
theorem DirAt.of {n : Nat} (h : w.ownsMap Tryz.prog 9 rdP b n (d.dat blk)) : DirAt w b blk d := by
  have := ownsMap_tight h
  rw [dat_size] at this; exact this
theorem DirAt.keep (h : DirAt w b blk d) {w' : World} (hb : w'.heap[b]? = w.heap[b]?) : DirAt w' b blk d := by
  obtain ⟨es, clock, h1, h2⟩ := h
  exact ⟨es, clock, hb.trans h1, h2⟩
theorem DirAt.congr (h : DirAt w b blk d) {blk' : Nat → Nat} (e : ∀ p ∈ d, blk' p.2 = blk p.2) : DirAt w b blk' d := by
  have : d.dat blk' = d.dat blk := by
    unfold Dir.dat
    congr 1
    exact List.map_congr_left (fun p hp => by rw [e p hp])
  unfold DirAt; rw [this]; exact h
theorem DirAt.look (h : DirAt w b blk d) (s : ByteArray) (hs : s.size ≤ maxLen) :
    (Instr.lookup 90 (.map (some b)) (.string s) true).run Tryz.prog w = .ok (.tuple #[ptrOf blk (Dir.look d s.data.toList), .bool (Dir.look d s.data.toList).isSome]) w := by
  obtain ⟨v, ps, hr, hv⟩ := World.ownsMap.look_ok h K9 und65 (zeroP w) (zd := .nil) (zp := []) rfl (key9 s hs)
  rw [dat_has] at hr
  rw [dat_at] at hv
  rw [hr]
  cases he : Dir.look d s.data.toList with
  | none => rw [he] at hv; rw [rdP_nil hv]; rfl
  | some i => rw [he] at hv; rw [rdP_held hv]; rfl
theorem DirAt.look1 (h : DirAt w b blk d) (s : ByteArray) (hs : s.size ≤ maxLen) :
    (Instr.lookup 90 (.map (some b)) (.string s) false).run Tryz.prog w = .ok (ptrOf blk (Dir.look d s.data.toList)) w := by
  obtain ⟨v, ps, hr, hv⟩ := World.ownsMap.lookup h K9 und65 (zeroP w) (zd := .nil) (zp := []) rfl (key9 s hs)
  rw [dat_at] at hv
  rw [hr]
  cases he : Dir.look d s.data.toList with
  | none => rw [he] at hv; rw [rdP_nil hv]; rfl
  | some i => rw [he] at hv; rw [rdP_held hv]; rfl
theorem DirAt.len (h : DirAt w b blk d) (ty : TypeId) : (Builtin.len_ #[90] ty #[.map (some b)]).run Tryz.prog w = .ok (.int .i64 d.length) w := by
  have := World.ownsMap.len h und65 ty
  rw [dat_size] at this; exact this
theorem DirAt.put (h : DirAt w b blk d) (hn : d.length < maxLen) (s : ByteArray) (hs : s.size ≤ maxLen) (i : Nat) :
    ∃ w', (Instr.mapUpdate 90 (.map (some b)) (.string s) (.pointer (some ⟨blk i, 0, none⟩))).run Tryz.prog w = .ok () w' ∧ DirAt w' b blk (Dir.put d s.data.toList i) ∧ Touch b w w' := by
  obtain ⟨w', h1, h2, h3⟩ := World.ownsMap.store h K9 und65 hn (key9 s hs) (rdP_some (blk i))
  refine ⟨w', h1, ?_, ?_⟩
  · rw [← dat_put] at h2; exact DirAt.of h2
  · obtain ⟨es, clock, es', clock', hb, rfl⟩ := h3
    exact ⟨rfl, rfl, rfl, by simp [setBlock], fun k hk => heap_setBlock_other hb _ hk⟩
theorem DirAt.del (h : DirAt w b blk d) (s : ByteArray) (hs : s.size ≤ maxLen) (ty : TypeId) :
    ∃ w', (Builtin.delete_ #[90, 9] ty #[.map (some b), .string s]).run Tryz.prog w = .ok (.tuple #[]) w' ∧ DirAt w' b blk (Dir.del d s.data.toList) ∧ Touch b w w' := by
  obtain ⟨w', h1, h2, h3⟩ := World.ownsMap.drop h K9 und65 (key9 s hs) ty
  refine ⟨w', h1, ?_, ?_⟩
  · rw [← dat_del] at h2; exact DirAt.of h2
  · obtain ⟨es, clock, es', clock', hb, rfl⟩ := h3
    exact ⟨rfl, rfl, rfl, by simp [setBlock], fun k hk => heap_setBlock_other hb _ hk⟩
theorem DirAt.new (w : World) (blk : Nat → Nat) : DirAt (w.alloc (.map #[] 0)) w.heap.size blk [] := World.ownsMap_made w Tryz.prog 9 rdP
/-- The names rise. -/
theorem DirAt.rises (h : DirAt w b blk d) : d.Pairwise fun p q => bytesBefore p.1 q.1 = true := by
  obtain ⟨es, e, hp, _⟩ := World.ownsMap.canon h K9
  unfold Dir.dat at e
  injection e with e
  rw [← e, List.pairwise_map] at hp
  exact hp
end
end Go.Proofs.YtadnecgcoceklaaGreatDoor

/-
  A directory of files as it lies in memory, within a footprint F; what keeps its parts there.
-/
namespace Go.Proofs.YtadnecgcoceklaaGreatDoor
open Go.RowKit Go.Maps

def strB (s : Bs) : ByteArray := ⟨s.toArray⟩
theorem strB_data (s : ByteArray) : strB s.data.toList = s := by unfold strB; simp
theorem strB_list (s : Bs) : (strB s).data.toList = s := by unfold strB; simp
theorem strB_size (s : Bs) : (strB s).size = s.length := by show (s.toArray).size = _; simp
abbrev bp (b : Nat) : Value := .pointer (some ⟨b, 0, none⟩)
def cval (c : Ch) (x : Nat × Nat × Nat) : Value :=
  match c with
  | .create _ _ => .func (.func 72) #[] #[bp x.1, bp x.2.1]
  | .remove _ => .func (.func 89) #[] #[bp x.1]
def BoxAt (w : World) (F : Nat → Prop) (b : Nat) (v : Value) (t : TypeId) : Prop := w.heap[b]? = some (.cells #[v] t (0, 0)) ∧ F b
def ChAt (w : World) (F : Nat → Prop) (blk : Nat → Nat) (c : Ch) (x : Nat × Nat × Nat) : Prop :=
  match c with
  | .create n i => BoxAt w F x.1 (bp (blk i)) 103 ∧ BoxAt w F x.2.1 (.string (strB n)) 9
  | .remove n => BoxAt w F x.1 (.string (strB n)) 9

def kDir : Obj → Bool
  | .map _ _ => true
  | _ => false
def kWait : Obj → Bool
  | .cells _ t _ => t == 135 || t == 103 || t == 9
  | _ => false
def kBox : Obj → Bool
  | .cells _ t _ => t == 103 || t == 9
  | _ => false
def kFile : Obj → Bool
  | .cells _ t _ => t == 105 || t == 5
  | _ => false
/-- Blocks of some kind within F are as they were. -/
def Keeps (k : Obj → Bool) (F : Nat → Prop) (w w' : World) : Prop := ∀ b o, F b → w.heap[b]? = some o → k o = true → w'.heap[b]? = some o
theorem Keeps.refl (k : Obj → Bool) (F : Nat → Prop) (w : World) : Keeps k F w w := fun _ _ _ h _ => h
theorem Keeps.trans {k : Obj → Bool} {F : Nat → Prop} {w w1 w2 : World} (h : Keeps k F w w1) (h' : Keeps k F w1 w2) : Keeps k F w w2 := fun b o hb ho hk => h' b o hb (h b o hb ho hk) hk
theorem Keeps.touch {k : Obj → Bool} {F : Nat → Prop} {w w' : World} {b : Nat} {o : Obj} (h : Touch b w w') (ho : w.heap[b]? = some o) (hk : k o = false) : Keeps k F w w' := fun c x _ hc hx => by
  by_cases e : c = b
  · subst e; rw [ho] at hc; cases hc; rw [hk] at hx; cases hx
  · rw [h.block c e]; exact hc
theorem Keeps.sub {k k' : Obj → Bool} {F : Nat → Prop} {w w' : World} (h : Keeps k' F w w') (hs : ∀ o, k o = true → k' o = true) : Keeps k F w w' := fun b o hb ho hk => h b o hb ho (hs o hk)
theorem kBox_wait (o : Obj) (h : kBox o = true) : kWait o = true := by
  cases o <;> simp [kBox, kWait] at h ⊢
  rcases h with h | h <;> simp [h]
theorem Keeps.grown {k : Obj → Bool} {F : Nat → Prop} {w w' : World} {row : Option Nat} (h : w.grownBy w' row) (hr : ∀ c, row = some c → ∃ o, w.heap[c]? = some o ∧ k o = false) : Keeps k F w w' := fun b o _ ho hk => by
  have hlt : b < w.heap.size := (Array.getElem?_eq_some_iff.1 ho).1
  rw [h.block b hlt (fun e => by
    obtain ⟨o', h1, h2⟩ := hr b e.symm
    rw [ho] at h1; cases h1; rw [hk] at h2; cases h2)]
  exact ho
theorem Keeps.below {k : Obj → Bool} {F : Nat → Prop} {w w' : World} (h : Below w.heap.size w w') : Keeps k F w w' := fun b o _ ho _ => by
  have hlt : b < w.heap.size := (Array.getElem?_eq_some_iff.1 ho).1
  rw [h.block b hlt]; exact ho
theorem Keeps.moves {k : Obj → Bool} {F G G' : Nat → Prop} {w w' : World} (h : Moves G w G' w') (hd : ∀ b, F b → ¬ G b) : Keeps k F w w' := fun b o hb ho _ => by
  have hlt : b < w.heap.size := (Array.getElem?_eq_some_iff.1 ho).1
  rw [h.block b hlt (hd b hb)]; exact ho
theorem Keeps.alloc {k : Obj → Bool} {F : Nat → Prop} {w w' : World} (h : Keeps k F w w') (x : Obj) : Keeps k F w (w'.alloc x) := fun b o hb ho hk => by
  have h1 := h b o hb ho hk
  rw [Below.heap_alloc _ _ _ (Array.getElem?_eq_some_iff.1 h1).1]; exact h1

structure DirsAt (w : World) (F : Nat → Prop) (blk : Nat → Nat) (nm lm : Option Nat) (now last : Dir) : Prop where
  non : nm = none ↔ lm = none
  none_ : nm = none → now = [] ∧ last = []
  n : ∀ b, nm = some b → DirAt w b blk now ∧ F b
  l : ∀ b, lm = some b → DirAt w b blk last ∧ F b
  ne : ∀ b, nm = some b → lm ≠ some b
theorem DirAt.keeps {w w' : World} {F : Nat → Prop} {b : Nat} {blk : Nat → Nat} {d : Dir} (h : DirAt w b blk d) (hF : F b) (hk : Keeps kDir F w w') : DirAt w' b blk d := by
  obtain ⟨es, clock, h1, h2⟩ := h
  exact ⟨es, clock, hk b _ hF h1 rfl, h2⟩
theorem DirsAt.keeps {w w' : World} {F : Nat → Prop} {blk : Nat → Nat} {nm lm : Option Nat} {now last : Dir} (h : DirsAt w F blk nm lm now last) (hk : Keeps kDir F w w') : DirsAt w' F blk nm lm now last :=
  ⟨h.non, h.none_, fun b hb => ⟨(h.n b hb).1.keeps (h.n b hb).2 hk, (h.n b hb).2⟩, fun b hb => ⟨(h.l b hb).1.keeps (h.l b hb).2 hk, (h.l b hb).2⟩, h.ne⟩
theorem DirsAt.mono {w : World} {F F' : Nat → Prop} {blk : Nat → Nat} {nm lm : Option Nat} {now last : Dir} (h : DirsAt w F blk nm lm now last) (hF : ∀ k, F k → F' k) : DirsAt w F' blk nm lm now last :=
  ⟨h.non, h.none_, fun b hb => ⟨(h.n b hb).1, hF _ (h.n b hb).2⟩, fun b hb => ⟨(h.l b hb).1, hF _ (h.l b hb).2⟩, h.ne⟩

structure WaitAt (w : World) (F : Nat → Prop) (blk : Nat → Nat) (wv : Value) (wl : List (Ch × (Nat × Nat × Nat))) : Prop where
  row : w.ownsRow 0 135 1 wv wl.length (wl.map fun p => cval p.1 p.2)
  fr : ∀ k, wv.ownBlock = some k → F k
  ch : ∀ p ∈ wl, ChAt w F blk p.1 p.2
theorem row_keep {w w' : World} {e : TypeId} {v : Value} {n : Nat} {xs : List Value} (h : w.ownsRow 0 e 1 v n xs) (hk : ∀ k o, v.ownBlock = some k → w.heap[k]? = some o → (∃ cur, o = .cells cur e (0, 0)) → w'.heap[k]? = some o) : w'.ownsRow 0 e 1 v n xs := by
  refine ⟨h.1, ?_⟩
  rcases h.2 with h2 | ⟨g, cap, cur, h1, h2, h3, h4⟩
  · exact .inl h2
  · exact .inr ⟨g, cap, cur, h1, h2, hk g _ (by rw [h1]; rfl) h3 ⟨cur, rfl⟩, h4⟩
theorem BoxAt.keeps {w w' : World} {F : Nat → Prop} {b : Nat} {v : Value} {t : TypeId} (h : BoxAt w F b v t) (ht : (t == 103 || t == 9) = true) (hk : Keeps kBox F w w') : BoxAt w' F b v t := ⟨hk b _ h.2 h.1 ht, h.2⟩
theorem ChAt.keeps {w w' : World} {F : Nat → Prop} {blk : Nat → Nat} {c : Ch} {x : Nat × Nat × Nat} (h : ChAt w F blk c x) (hk : Keeps kBox F w w') : ChAt w' F blk c x := by
  cases c with
  | create n i => exact ⟨h.1.keeps rfl hk, h.2.keeps rfl hk⟩
  | remove n => exact BoxAt.keeps h rfl hk
theorem WaitAt.keeps {w w' : World} {F : Nat → Prop} {blk : Nat → Nat} {wv : Value} {wl : List (Ch × (Nat × Nat × Nat))} (h : WaitAt w F blk wv wl) (hk : Keeps kWait F w w') : WaitAt w' F blk wv wl :=
  ⟨row_keep h.row (fun k o hv ho hc => hk k o (h.fr k hv) ho (by obtain ⟨cur, rfl⟩ := hc; rfl)), h.fr, fun p hp => (h.ch p hp).keeps (hk.sub kBox_wait)⟩
theorem ChAt.mono {w : World} {F F' : Nat → Prop} {blk : Nat → Nat} {c : Ch} {x : Nat × Nat × Nat} (h : ChAt w F blk c x) (hF : ∀ k, F k → F' k) : ChAt w F' blk c x := by
  cases c with
  | create n i => exact ⟨⟨h.1.1, hF _ h.1.2⟩, ⟨h.2.1, hF _ h.2.2⟩⟩
  | remove n => exact ⟨h.1, hF _ h.2⟩
theorem WaitAt.mono {w : World} {F F' : Nat → Prop} {blk : Nat → Nat} {wv : Value} {wl : List (Ch × (Nat × Nat × Nat))} (h : WaitAt w F blk wv wl) (hF : ∀ k, F k → F' k) : WaitAt w F' blk wv wl :=
  ⟨h.row, fun k hk => hF k (h.fr k hk), fun p hp => (h.ch p hp).mono hF⟩

structure FilesAt (w : World) (F : Nat → Prop) (blk : Nat → Nat) (bv : Nat → Value) (fs : List Fil) : Prop where
  f : ∀ i, i < fs.length → w.heap[blk i]? = some (.cells #[bv i, .int .i64 ((fs.getD i ([], 0)).2 : Int)] 105 (0, 0)) ∧ F (blk i)
  r : ∀ i, i < fs.length → w.ownsRow 0 5 1 (bv i) (fs.getD i ([], 0)).1.length (u8s (fs.getD i ([], 0)).1) ∧ ∀ k, (bv i).ownBlock = some k → F k
  inj : ∀ i j, i < fs.length → j < fs.length → i ≠ j → blk i ≠ blk j
  sep : ∀ i j, i < fs.length → j < fs.length → i ≠ j → ∀ k, (bv i).ownBlock = some k → (bv j).ownBlock ≠ some k
theorem FilesAt.keeps {w w' : World} {F : Nat → Prop} {blk : Nat → Nat} {bv : Nat → Value} {fs : List Fil} (h : FilesAt w F blk bv fs) (hk : Keeps kFile F w w') : FilesAt w' F blk bv fs :=
  ⟨fun i hi => ⟨hk _ _ (h.f i hi).2 (h.f i hi).1 rfl, (h.f i hi).2⟩, fun i hi => ⟨row_keep (h.r i hi).1 (fun k o hv ho hc => hk k o ((h.r i hi).2 k hv) ho (by obtain ⟨cur, rfl⟩ := hc; rfl)), (h.r i hi).2⟩, h.inj, h.sep⟩
theorem FilesAt.mono {w : World} {F F' : Nat → Prop} {blk : Nat → Nat} {bv : Nat → Value} {fs : List Fil} (h : FilesAt w F blk bv fs) (hF : ∀ k, F k → F' k) : FilesAt w F' blk bv fs :=
  ⟨fun i hi => ⟨(h.f i hi).1, hF _ (h.f i hi).2⟩, fun i hi => ⟨(h.r i hi).1, fun k hk => hF _ ((h.r i hi).2 k hk)⟩, h.inj, h.sep⟩

structure Gh where
  nm : Option Nat
  lm : Option Nat
  wv : Value
  wl : List (Ch × (Nat × Nat × Nat))
  blk : Nat → Nat
  bv : Nat → Value

def pCells (a : A) (g : Gh) : Array Value := #[.int .i64 (a.room : Int), .map g.nm, .map g.lm, g.wv, .bool a.off, .bool a.armed, .int .i64 (a.left : Int)]
structure FsG (w : World) (g : Gh) (pb : Nat) (a : A) (F : Nat → Prop) : Prop where
  hP : w.heap[pb]? = some (.cells (pCells a g) 93 (0, 0))
  hD : DirsAt w F g.blk g.nm g.lm a.now a.last
  hW : WaitAt w F g.blk g.wv g.wl
  hw : g.wl.map (·.1) = a.wait
  hwn : g.nm = none → a.wait = []
  hF : FilesAt w F g.blk g.bv a.files
  fp : F pb
  fl : ∀ k, F k → k < w.heap.size

def Ch.ok (n : Nat) : Ch → Prop
  | .create s i => s.length ≤ 24 ∧ i < n
  | .remove s => s.length ≤ 24
structure A.Ok (a : A) : Prop where
  room : a.room ≤ 1073741824
  left : a.left ≤ 9223372036854775807
  fil : ∀ f ∈ a.files, f.1.length ≤ 1048576 ∧ f.2 ≤ f.1.length ∧ ∀ x ∈ f.1, x < 256
  now : ∀ p ∈ a.now, p.1.length ≤ 24 ∧ p.2 < a.files.length
  last : ∀ p ∈ a.last, p.1.length ≤ 24 ∧ p.2 < a.files.length
  wait : ∀ c ∈ a.wait, c.ok a.files.length
def A.top (a : A) : Nat := max a.now.length (a.last.length + a.wait.length)

/-- The directory a lies at block pb, within F. -/
def FsAt (w : World) (pb : Nat) (a : A) (F : Nat → Prop) : Prop := a.Ok ∧ ∃ g, FsG w g pb a F

section
variable {w w' : World} {g : Gh} {pb : Nat} {a : A} {F F' : Nat → Prop}
theorem FsG.lt (h : FsG w g pb a F) : pb < w.heap.size := h.fl _ h.fp
theorem FsG.cell (h : FsG w g pb a F) (i : Nat) (v : Value) (hi : (pCells a g)[i]? = some v) : w.cell? ⟨pb, i, none⟩ = some v := by
  rw [cell_of_row w pb i _ _ _ h.hP]; exact hi
theorem FsG.c0 (h : FsG w g pb a F) : w.cell? ⟨pb, 0, none⟩ = some (.int .i64 (a.room : Int)) := h.cell 0 _ rfl
theorem FsG.c1 (h : FsG w g pb a F) : w.cell? ⟨pb, 1, none⟩ = some (.map g.nm) := h.cell 1 _ rfl
theorem FsG.c2 (h : FsG w g pb a F) : w.cell? ⟨pb, 2, none⟩ = some (.map g.lm) := h.cell 2 _ rfl
theorem FsG.c3 (h : FsG w g pb a F) : w.cell? ⟨pb, 3, none⟩ = some g.wv := h.cell 3 _ rfl
theorem FsG.c4 (h : FsG w g pb a F) : w.cell? ⟨pb, 4, none⟩ = some (.bool a.off) := h.cell 4 _ rfl
theorem FsG.c5 (h : FsG w g pb a F) : w.cell? ⟨pb, 5, none⟩ = some (.bool a.armed) := h.cell 5 _ rfl
theorem FsG.c6 (h : FsG w g pb a F) : w.cell? ⟨pb, 6, none⟩ = some (.int .i64 (a.left : Int)) := h.cell 6 _ rfl
theorem FsG.fz (h : FsG w g pb a F) (i : Nat) : w.frozen? ⟨pb, i, none⟩ = false := by
  simp [World.frozen?, h.hP]
theorem FsG.keep (h : FsG w g pb a F) (hk : ∀ k, F k → w'.heap[k]? = w.heap[k]?) (hs : w.heap.size ≤ w'.heap.size) : FsG w' g pb a F := by
  have hK : ∀ k, Keeps k F w w' := fun _ b o hb ho _ => (hk b hb).trans ho
  exact ⟨(hk _ h.fp).trans h.hP, h.hD.keeps (hK _), h.hW.keeps (hK _), h.hw, h.hwn, h.hF.keeps (hK _), h.fp, fun k hF => Nat.lt_of_lt_of_le (h.fl k hF) hs⟩
theorem FsG.below (h : FsG w g pb a F) (hb : Below w.heap.size w w') : FsG w' g pb a F := h.keep (fun k hk => hb.block k (h.fl k hk)) hb.size
/-- The struct's own cells alone are turned. -/
theorem FsG.turnP (h : FsG w g pb a F) (ht : Touch pb w w') {a' : A} (hP : w'.heap[pb]? = some (.cells (pCells a' g) 93 (0, 0)))
    (e1 : a'.now = a.now) (e2 : a'.last = a.last) (e3 : a'.wait = a.wait) (e4 : a'.files = a.files) : FsG w' g pb a' F :=
  ⟨hP, by rw [e1, e2]; exact h.hD.keeps (Keeps.touch ht h.hP rfl), h.hW.keeps (Keeps.touch ht h.hP rfl), by rw [e3]; exact h.hw, by rw [e3]; exact h.hwn, by rw [e4]; exact h.hF.keeps (Keeps.touch ht h.hP rfl), h.fp, fun k hk => by rw [ht.size]; exact h.fl k hk⟩
theorem FsG.mono (h : FsG w g pb a F) (hF : ∀ k, F k → F' k) (hl : ∀ k, F' k → k < w.heap.size) : FsG w g pb a F' :=
  ⟨h.hP, h.hD.mono hF, h.hW.mono hF, h.hw, h.hwn, h.hF.mono hF, hF _ h.fp, hl⟩
theorem DirAt.blk {b : Nat} {blk : Nat → Nat} {d : Dir} (h : DirAt w b blk d) : ∃ es clock, w.heap[b]? = some (.map es clock) := by
  obtain ⟨es, clock, h1, _⟩ := h; exact ⟨es, clock, h1⟩
theorem FsG.ne_n (h : FsG w g pb a F) {b : Nat} (hb : g.nm = some b) : pb ≠ b := fun e => by
  obtain ⟨es, c, h1⟩ := (h.hD.n b hb).1.blk
  rw [← e, h.hP] at h1; cases h1
theorem FsG.ne_l (h : FsG w g pb a F) {b : Nat} (hb : g.lm = some b) : pb ≠ b := fun e => by
  obtain ⟨es, c, h1⟩ := (h.hD.l b hb).1.blk
  rw [← e, h.hP] at h1; cases h1
/-- The names are turned. -/
theorem FsG.didNow (h : FsG w g pb a F) {b : Nat} (hb : g.nm = some b) (ht : Touch b w w') {d : Dir} (hd : DirAt w' b g.blk d) : FsG w' g pb { a with now := d } F := by
  obtain ⟨es, c, h1⟩ := (h.hD.n b hb).1.blk
  have hne := h.hD.ne b hb
  refine ⟨(ht.block _ (h.ne_n hb)).trans h.hP, ⟨h.hD.non, fun e => (by rw [hb] at e; cases e), fun b' hb' => ?_, fun b' hb' => ?_, h.hD.ne⟩, h.hW.keeps (Keeps.touch ht h1 rfl), h.hw, h.hwn, h.hF.keeps (Keeps.touch ht h1 rfl), h.fp, fun k hk => by rw [ht.size]; exact h.fl k hk⟩
  · have : b = b' := by rw [hb] at hb'; exact Option.some.inj hb'
    subst this; exact ⟨hd, (h.hD.n b hb).2⟩
  · exact ⟨(h.hD.l b' hb').1.keep (ht.block b' (fun e => hne (by rw [hb', e]))), (h.hD.l b' hb').2⟩
/-- The names that last are turned. -/
theorem FsG.didLast (h : FsG w g pb a F) {b : Nat} (hb : g.lm = some b) (ht : Touch b w w') {d : Dir} (hd : DirAt w' b g.blk d) : FsG w' g pb { a with last := d } F := by
  obtain ⟨es, c, h1⟩ := (h.hD.l b hb).1.blk
  refine ⟨(ht.block _ (h.ne_l hb)).trans h.hP, ⟨h.hD.non, fun e => (by rw [h.hD.non, hb] at e; cases e), fun b' hb' => ?_, fun b' hb' => ?_, h.hD.ne⟩, h.hW.keeps (Keeps.touch ht h1 rfl), h.hw, h.hwn, h.hF.keeps (Keeps.touch ht h1 rfl), h.fp, fun k hk => by rw [ht.size]; exact h.fl k hk⟩
  · exact ⟨(h.hD.n b' hb').1.keep (ht.block b' (fun e => h.hD.ne b' hb' (by rw [hb, e]))), (h.hD.n b' hb').2⟩
  · have : b = b' := by rw [hb] at hb'; exact Option.some.inj hb'
    subst this; exact ⟨hd, (h.hD.l b hb).2⟩
theorem row_block {w : World} {e : TypeId} {v : Value} {n : Nat} {xs : List Value} (h : w.ownsRow 0 e 1 v n xs) {k : Nat} (hk : v.ownBlock = some k) : ∃ cur, w.heap[k]? = some (.cells cur e (0, 0)) := by
  rcases h.2 with ⟨rfl, _⟩ | ⟨g, cap, cur, rfl, _, h3, _⟩
  · cases hk
  · cases hk; exact ⟨cur, h3⟩
/-- One more change waits. -/
theorem FsG.waited (h : FsG w g pb a F) (hnm : g.nm ≠ none) {c : Ch} {x : Nat × Nat × Nat} (hc : ChAt w F g.blk c x) {v : Value} {w2 : World} (hg : w.grownBy w2 g.wv.ownBlock)
    (hr : w2.ownsRow 0 135 1 v (g.wl.length + 1) ((g.wl.map fun p => cval p.1 p.2) ++ [cval c x])) :
    FsG (w2.setCell ⟨pb, 3, none⟩ v) { g with wv := v, wl := g.wl ++ [(c, x)] } pb { a with wait := a.wait ++ [c] } (fun k => F k ∨ v.ownBlock = some k) := by
  have hK : ∀ kk, (∀ cur, kk (.cells cur 135 (0, 0)) = false) → Keeps kk F w w2 := fun kk hkk => Keeps.grown hg (fun k hk => by
    obtain ⟨cur, h1⟩ := row_block h.hW.row hk
    exact ⟨_, h1, hkk cur⟩)
  have hP2 : w2.heap[pb]? = some (.cells (pCells a g) 93 (0, 0)) := (hg.block pb h.lt (fun e => by
    obtain ⟨cur, h1⟩ := row_block h.hW.row e.symm
    rw [h.hP] at h1; cases h1)).trans h.hP
  have ht : Touch pb w2 (w2.setCell ⟨pb, 3, none⟩ v) := Touch.setCell (a := ⟨pb, 3, none⟩) v
  have hKt : ∀ kk, kk (.cells (pCells a g) 93 (0, 0)) = false → ∀ G, Keeps kk G w2 (w2.setCell ⟨pb, 3, none⟩ v) := fun kk h1 G => Keeps.touch ht hP2 h1
  refine ⟨by rw [Go.Joins.block_setCell hP2 v]; rfl, ((h.hD.keeps (hK kDir (fun _ => rfl))).keeps (hKt kDir rfl _)).mono (fun k hk => .inl hk), ⟨?_, fun k hk => .inr hk, fun p hp => ?_⟩, by simp [h.hw], fun e => absurd e hnm, ((h.hF.keeps (hK kFile (fun _ => rfl))).keeps (hKt kFile rfl _)).mono (fun k hk => .inl hk), .inl h.fp, fun k hk => ?_⟩
  · have := row_keep hr (w' := w2.setCell ⟨pb, 3, none⟩ v) (fun k o hv ho hcur => by
      rw [ht.block k (fun e => by
        obtain ⟨cur, rfl⟩ := hcur
        rw [e, hP2] at ho; cases ho)]; exact ho)
    simpa using this
  · rcases List.mem_append.1 hp with hp | hp
    · exact (((h.hW.ch p hp).keeps (hK kBox (fun _ => rfl))).keeps (hKt kBox rfl _)).mono (fun k hk => .inl hk)
    · simp at hp; subst hp
      exact ((hc.keeps (hK kBox (fun _ => rfl))).keeps (hKt kBox rfl _)).mono (fun k hk => .inl hk)
  · rw [ht.size]
    rcases hk with hk | hk
    · exact Nat.lt_of_lt_of_le (h.fl k hk) hg.size
    · obtain ⟨cur, h1⟩ := row_block hr hk
      exact (Array.getElem?_eq_some_iff.1 h1).1
theorem FsAt.keep (h : FsAt w pb a F) (hk : ∀ k, F k → w'.heap[k]? = w.heap[k]?) (hs : w.heap.size ≤ w'.heap.size) : FsAt w' pb a F := by
  obtain ⟨ho, g, hg⟩ := h; exact ⟨ho, g, hg.keep hk hs⟩
theorem FsAt.below (h : FsAt w pb a F) (hb : Below w.heap.size w w') : FsAt w' pb a F := by
  obtain ⟨ho, g, hg⟩ := h; exact ⟨ho, g, hg.below hb⟩
theorem FsAt.fl (h : FsAt w pb a F) : ∀ k, F k → k < w.heap.size := h.2.choose_spec.fl
theorem FsAt.fp (h : FsAt w pb a F) : F pb := h.2.choose_spec.fp
theorem FsAt.lt (h : FsAt w pb a F) : pb < w.heap.size := h.fl _ h.fp
theorem FsAt.moves (h : FsAt w pb a F) {G G' : Nat → Prop} (hM : Moves G w G' w') (hd : ∀ k, F k → ¬ G k) : FsAt w' pb a F := h.keep (fun k hk => hM.block k (h.fl k hk) (hd k hk)) hM.size
end
end Go.Proofs.YtadnecgcoceklaaGreatDoor

