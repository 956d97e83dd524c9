/-
  A piece that is laid behind bytes of one's own; a piece that is read.
-/
import Derived.Test.YtadnecgcoceklaaGreatDoorFrFrW1
import Derived.Laws.OwnMore
import Derived.Laws.AppendOwnNone
namespace Go.Proofs.YtadnecgcoceklaaGreatDoor.FR
open Go.RowKit

/-- Bytes that lie in memory, in a block below B. -/
def BytB (B : Nat) (w : World) (a : Option Addr) (l : List Nat) : Prop :=
  l = [] ∨ ∃ b off, a = some ⟨b, off, none⟩ ∧ b < B ∧ b < w.heap.size ∧ ∀ i (_ : i < l.length), w.cell? ⟨b, off + i, none⟩ = some (.int .u8 (l[i] : Int))
theorem BytB.byt {B : Nat} {w : World} {a : Option Addr} {l : List Nat} (h : BytB B w a l) : Byt w a l := by
  rcases h with h | ⟨b, off, h1, _, h2, h3⟩
  · exact .inl h
  · exact .inr ⟨b, off, h1, h2, h3⟩
theorem _root_.Go.Proofs.YtadnecgcoceklaaGreatDoor.Byt.low {w : World} {a : Option Addr} {l : List Nat} (h : Byt w a l) : BytB w.heap.size w a l := by
  rcases h with h | ⟨b, off, h1, h2, h3⟩
  · exact .inl h
  · exact .inr ⟨b, off, h1, h2, h2, h3⟩
theorem BytB.keep {B : Nat} {w w' : World} {a : Option Addr} {l : List Nat} (h : BytB B w a l) (hb : Below B w w') : BytB B w' a l := by
  rcases h with h | ⟨b, off, rfl, h1, h2, h3⟩
  · exact .inl h
  · exact .inr ⟨b, off, rfl, h1, Nat.lt_of_lt_of_le h2 hb.size, fun i hi => (hb.cell (p := ⟨b, off + i, none⟩) h1).trans (h3 i hi)⟩
theorem BytB.part {B : Nat} {w : World} {a : Option Addr} {l : List Nat} (h : BytB B w a l) (cap p q : Nat) (hc : l.length ≤ cap) (hpq : p ≤ q) (hq : q ≤ l.length) : BytB B w (part a cap p) ((l.take q).drop p) := by
  by_cases h0 : p = q
  · left; subst h0; simp
  · right
    rcases h with h | ⟨b, off, rfl, h1, hlt, hcl⟩
    · subst h; simp at hq; omega
    · refine ⟨b, off + p, ?_, h1, hlt, fun i hi => ?_⟩
      · unfold YtadnecgcoceklaaGreatDoor.part; rw [if_neg (by omega)]; simp [addr_add]
      · simp at hi
        have := hcl (p + i) (by omega)
        rw [Nat.add_assoc, this]; simp
theorem BytB.mono {B B' : Nat} {w : World} {a : Option Addr} {l : List Nat} (h : BytB B w a l) (hB : B ≤ B') : BytB B' w a l := by
  rcases h with h | ⟨b, off, h1, h2, h3⟩
  · exact .inl h
  · exact .inr ⟨b, off, h1, by omega, h3⟩
theorem BytB.sub {B : Nat} {w : World} {a : Option Addr} {l l' : List Nat} (h : BytB B w a l) (e : l = l') : BytB B w a l' := e ▸ h
/-- Bytes (maybe none) appended to a row of one's own; all blocks but the row's stay. -/
theorem appU (B : Nat) (w : World) (v : Value) (ys zs : List Nat) (n : Nat) (a : Option Addr) (cap : Nat) (hown : w.ownsRow B 5 1 v n (u8s ys)) (hy : Byt w a zs) (hnil : a = none → zs = [] ∧ cap = 0) (hB : B ≤ w.heap.size) (hl : n + zs.length ≤ 1000000000) :
    ∃ v' w2, (Builtin.append_ #[47, 47] 47 #[v, .slice a zs.length cap]).run Tryz.prog w = .ok v' w2 ∧ w2.ownsRow B 5 1 v' (n + zs.length) (u8s (ys ++ zs)) ∧ Below B w w2 ∧ ∀ q, q < w.heap.size → v.ownBlock ≠ some q → v'.ownBlock ≠ some q ∧ w2.heap[q]? = w.heap[q]? := by
  obtain ⟨i0, hi0, hz0, hz1, hz2⟩ := info_parts Tryz.info5
  cases a with
  | none =>
    obtain ⟨rfl, rfl⟩ := hnil rfl
    have hrun := run_append_owned_none (P := Tryz.prog) (w := w) B 47 47 5 i0 1 Tryz.underlying47 hi0 v n (u8s ys) hown
    exact ⟨v, w, hrun, by rw [List.append_nil]; exact hown, Below.refl _ _, fun q _ h => ⟨h, rfl⟩⟩
  | some x =>
    have hc : ∀ j u, (u8s zs)[j]? = some u → w.cell? (x.add j) = some u := by
      intro j u hu
      simp only [u8s, List.getElem?_map, Option.map_eq_some_iff] at hu
      obtain ⟨y, hx, rfl⟩ := hu
      obtain ⟨hj, rfl⟩ := List.getElem?_eq_some_iff.1 hx
      rcases hy with h | ⟨b, off, e, _, hcl⟩
      · subst h; simp at hj
      · rw [Option.some.inj e, addr_add, hcl j hj]
    obtain ⟨v', w2, h1, h2, h3, _, h5⟩ := run_append_own_at (P := Tryz.prog) w B 47 47 5 i0 (.int .u8 0) 1 1 Tryz.underlying47 hi0 hz0 hz1 hz2 rfl (by decide) v n (u8s ys) hown x zs.length cap (u8s zs) (by simp [u8s]) hc (u8s_one zs) (by unfold maxLen; omega) (by omega) (by omega)
    refine ⟨v', w2, h1, by rw [u8s_app]; exact h2, (Below.refl B w).grown h3 (by omega) (fun g hg => (hown.lt g hg).1), fun q hq hv => ⟨fun e => ?_, h3.block q hq (fun e => hv e.symm)⟩⟩
    rcases h5 with h5 | h5
    · exact hv (by rw [← h5]; exact e)
    · rw [h5] at e; have := Option.some.inj e; omega
theorem _root_.Go.Proofs.YtadnecgcoceklaaGreatDoor.Byt.blk {w w' : World} {b off : Nat} {l : List Nat} (h : Byt w (some ⟨b, off, none⟩) l) (hb : w'.heap[b]? = w.heap[b]?) (hlt : b < w'.heap.size) : Byt w' (some ⟨b, off, none⟩) l := by
  rcases h with h | ⟨b', off', e, h1, h2⟩
  · exact .inl h
  · cases e
    exact .inr ⟨_, _, rfl, hlt, fun i hi => (World.cell?_of_block (w := w) (a := ⟨_, _ + i, none⟩) hb).trans (h2 i hi)⟩
theorem own_lt {w : World} {B n q : Nat} {v : Value} {xs : List Value} (h : w.ownsRow B 5 1 v n xs) (hq : w.heap.size ≤ q) : v.ownBlock ≠ some q := fun e => by
  have := (h.lt q e).2; omega
set_option maxRecDepth 100000 in
set_option maxHeartbeats 1000000 in
theorem addPiece_any (B : Nat) (w : World) (hB : B ≤ w.heap.size) (v : Value) (n : Nat) (ys : List Nat) (hown : w.ownsRow B 5 1 v n (u8s ys)) (k : Nat) (hk : k < 256) (a : Option Addr) (cap : Nat) (p : List Nat) (hp : BytB B w a p) (hnil : a = none → p = [] ∧ cap = 0) (hb : ∀ x ∈ p, x < 256) (hpl : p.length < 65536) (hn : n + p.length ≤ 900000000) :
    Calls Tryz.prog 84 #[v, .int .u8 (k : Int), .slice a p.length cap] w fun e w' => ∃ v', e = .returned v' ∧ w'.ownsRow B 5 1 v' (n + (7 + p.length)) (u8s (ys ++ Frm.pieceL k p)) ∧ Below B w w' := by
  have HS := Lib.hid (sum_piece k hk w a cap p hp.byt hb (by unfold maxLen; omega))
  have HPL : Hid (Frm.pieceL k p = fixL (Frm.sumN k p) 4 ++ (fixL p.length 2 ++ ([k] ++ p))) := Lib.hid rfl
  obtain ⟨x, hx⟩ : ∃ x, Frm.sumN k p = x := ⟨_, rfl⟩
  have hx4 : x < 4294967296 := by rw [← hx]; exact Frm.sumN_lt k p
  rw [hx] at HS HPL
  have HP := Lib.hid hp
  have HOW := Lib.hid hown
  have HB := Lib.hid hb
  clear hp hown hb hx
  go_enter Tryz.func84, Tryz.ntmps84
  go_wp2_with fail
  refine HS.out.mono ?_
  rintro e W1 ⟨rfl, b1⟩
  have HF1 := Lib.hid (fixed_any x 4 (by omega) hx4 W1)
  have s1 := b1.size
  have HB1 := Lib.hid b1
  clear b1 HS
  go_wp2_with fail
  refine HF1.out.mono ?_
  rintro e W2 ⟨cap1, rfl, hy1, hc1, b2⟩
  have HF2 := Lib.hid (fixed_any p.length 2 (by omega) (by omega) W2)
  have HY1 := Lib.hid hy1
  have HB2 := Lib.hid (HB1.out.trans (b2.mono s1))
  have s2 := b2.size
  clear hy1 b2 HF1
  have hl4 : (fixL x 4).length = 4 := fixL_length _ _
  go_wp2_with fail
  refine HF2.out.mono ?_
  rintro e W3 ⟨cap2, rfl, hy2, hc2, b3⟩
  have s3 := b3.size
  have hl2 : (fixL p.length 2).length = 2 := fixL_length _ _
  have hlt2 : W2.heap.size < W3.heap.size := by
    rcases hy2 with h | ⟨b, off, e, h, _⟩
    · rw [h] at hl2; cases hl2
    · cases e; exact h
  have HB3 := Lib.hid (show Below w.heap.size w W3 from HB2.out.trans (b3.mono (by omega)))
  obtain ⟨v1, W4, r1, o1, c1, q1⟩ := appU B W3 v ys (fixL x 4) n (some ⟨W1.heap.size, 0, none⟩) cap1 (own_keep HOW.out HB3.out) (HY1.out.keep b3) (fun h => by cases h) (by omega) (by rw [hl4]; omega)
  obtain ⟨q1a, q1b⟩ := q1 W2.heap.size hlt2 (own_lt HOW.out (by omega))
  have s4 := c1.size
  obtain ⟨v2, W5, r2, o2, c2, -⟩ := appU B W4 v1 (ys ++ fixL x 4) (fixL p.length 2) (n + (fixL x 4).length) (some ⟨W2.heap.size, 0, none⟩) cap2 o1 (hy2.blk q1b (by have := c1.size; omega)) (fun h => by cases h) (by omega) (by rw [hl4, hl2]; omega)
  have s5 := c2.size
  have hbk : Byt (W5.alloc (.cells #[.int .u8 (k : Int)] 5)) (some ⟨W5.heap.size, 0, none⟩) [k] := .inr ⟨_, 0, rfl, by simp, fun i hi => by
      have : i = 0 := by simp at hi; exact hi
      subst this
      rw [cell_of_row _ _ _ _ _ _ (heap_alloc_new W5 _)]; rfl⟩
  obtain ⟨v3, W6, r3, o3, c3, -⟩ := appU B (W5.alloc (.cells #[.int .u8 (k : Int)] 5)) v2 (ys ++ fixL x 4 ++ fixL p.length 2) [k] (n + (fixL x 4).length + (fixL p.length 2).length) (some ⟨W5.heap.size, 0, none⟩) 1 (own_keep o2 ((Below.refl _ _).alloc (Nat.le_refl _) _)) hbk (fun h => by cases h) (by simp; omega) (by rw [hl4, hl2]; simp; omega)
  have HC6 : Hid (Below B w W6) := Lib.hid ((HB3.out.mono hB).trans (c1.trans (c2.trans (((Below.refl _ W5).alloc (by omega) _).trans c3))))
  have s6 : W5.heap.size + 1 ≤ W6.heap.size := by have := c3.size; simpa using this
  obtain ⟨v4, W7, r4, o4, c4, -⟩ := appU B W6 v3 (ys ++ fixL x 4 ++ fixL p.length 2 ++ [k]) p (n + (fixL x 4).length + (fixL p.length 2).length + [k].length) a cap o3 (HP.out.keep HC6.out).byt hnil (by omega) (by rw [hl4, hl2]; simp; omega)
  have HE : Hid (W7.ownsRow B 5 1 v4 (n + (7 + p.length)) (u8s (ys ++ Frm.pieceL k p)) ∧ Below B w W7) := Lib.hid ⟨by
    rw [HPL.out]
    have e1 : n + (fixL x 4).length + (fixL p.length 2).length + [k].length + p.length = n + (7 + p.length) := by rw [hl4, hl2]; simp; omega
    rw [e1] at o4
    simpa [List.append_assoc] using o4, HC6.out.trans c4⟩
  rw [hl4] at r1
  rw [hl2] at r2
  clear hy2 b3 HF2 o1 o2 o3 o4 c1 c2 c3 c4 hbk q1 q1a q1b HY1 HB2 HB1 HB3 HOW HP HPL hnil
  go_wp2_with (at_builtin; first | refine wpList_app_run rfl rfl r1 rfl rfl ?_ | refine wpList_app_run rfl rfl r2 rfl rfl ?_ | refine wpList_app_run rfl rfl r3 rfl rfl ?_ | refine wpList_app_run rfl rfl r4 rfl rfl ?_)
  go_ret
  exact ⟨v4, rfl, HE.out.1, HE.out.2⟩
end Go.Proofs.YtadnecgcoceklaaGreatDoor.FR
