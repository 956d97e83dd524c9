/-
  What the law RegionApart keeps true: pieces don't overlap, and each holds what was stored in it last.
-/
import Derived.Test.YtaaalfimlpeddaaRegMark
import Derived.Test.YtaaalfimlpeddaaRegStaleB
import Derived.Test.YtaaalfimlpeddaaRegPoisA
namespace Go.Proofs.Ytaaalfimlpeddaa.regionApart
open Go.RowKit regionStale regionPoison

structure PieceOk (S : Ps) (h : Hd) : Prop where
  r : h.r < 3
  g : S.gen h.r = h.g
  l1 : 1 ≤ h.l
  l2 : h.l ≤ 128
  f : h.o + h.l ≤ S.fill h.r
  m : h.o % S.size + h.l ≤ S.size

abbrev hd0 : Hd := ⟨0, 0, 0, 0⟩
structure AInv (S : Ps) (D : List Hd) : Prop where
  sz : S.size = 128
  n : S.n = 40
  lv : ∀ i, i < 256 → S.live i = decide (i < 3)
  d : ∀ i, i < D.length → PieceOk S (D.getD i hd0)
  p : ∀ i j, i < j → j < D.length → (D.getD i hd0).r = (D.getD j hd0).r → (D.getD i hd0).o + (D.getD i hd0).l ≤ (D.getD j hd0).o

theorem getD_snoc_lt {D : List Hd} {h : Hd} {i : Nat} (hi : i < D.length) : (D ++ [h]).getD i hd0 = D.getD i hd0 := by
  rw [List.getD_eq_getElem?_getD, List.getD_eq_getElem?_getD, List.getElem?_append_left hi]
theorem getD_snoc_eq {D : List Hd} {h : Hd} : (D ++ [h]).getD D.length hd0 = h := by
  rw [List.getD_eq_getElem?_getD, List.getElem?_append_right (Nat.le_refl _)]; simp

/-- One piece more, which begins at the fill or behind it. -/
theorem AInv.add {S S' : Ps} {D : List Hd} (h : AInv S D) {r g o l : Nat} (e1 : S'.size = S.size) (e2 : S'.n = S.n) (e3 : S'.live = S.live) (e4 : S'.gen = S.gen) (e5 : ∀ i, i ≠ r → S'.fill i = S.fill i)
    (hr : r < 3) (hg : S.gen r = g) (h1 : 1 ≤ l) (h2 : l ≤ 128) (ho : S.fill r ≤ o) (hf : S'.fill r = o + l) (hm : o % S.size + l ≤ S.size) : AInv S' (D ++ [⟨r, g, o, l⟩]) := by
  have hok : ∀ x, PieceOk S x → PieceOk S' x := fun x hx => ⟨hx.r, by rw [e4]; exact hx.g, hx.l1, hx.l2, by
    by_cases e : x.r = r
    · have := hx.f; rw [e] at this; rw [e, hf]; omega
    · rw [e5 _ e]; exact hx.f, by rw [e1]; exact hx.m⟩
  refine ⟨e1.trans h.sz, e2.trans h.n, fun i hi => by rw [e3]; exact h.lv i hi, fun i hi => ?_, fun i j hij hj hrr => ?_⟩
  · by_cases e : i < D.length
    · rw [getD_snoc_lt e]; exact hok _ (h.d i e)
    · have : i = D.length := by simp at hi; omega
      subst this; rw [getD_snoc_eq]
      exact ⟨hr, by rw [e4]; exact hg, h1, h2, by show o + l ≤ S'.fill r; rw [hf]; omega, by rw [e1]; exact hm⟩
  · by_cases e : j < D.length
    · rw [getD_snoc_lt (by omega), getD_snoc_lt e] at hrr ⊢; exact h.p i j hij e hrr
    · have : j = D.length := by simp at hj; omega
      subst this
      rw [getD_snoc_lt hij, getD_snoc_eq] at hrr ⊢
      have := (h.d i hij).f
      rw [hrr] at this
      exact Nat.le_trans this ho

/-- Two pieces have no byte in common. -/
theorem AInv.apart {S : Ps} {D : List Hd} (hO : S.Ok) (h : AInv S D) {i j x y : Nat} (hi : i < D.length) (hj : j < D.length) (hij : i ≠ j) (hx : x < (D.getD i hd0).l) (hy : y < (D.getD j hd0).l) :
    S.addr (D.getD i hd0).r (D.getD i hd0).o + x ≠ S.addr (D.getD j hd0).r (D.getD j hd0).o + y := by
  have di := h.d i hi
  have dj := h.d j hj
  have ri := di.r
  have rj := dj.r
  have mi := di.m
  have mj := dj.m
  rw [← addr_add hO (by omega), ← addr_add hO (by omega)]
  intro e
  have fi := di.f
  have fj := dj.f
  have vi := hO.v2 (D.getD i hd0).r (by omega)
  have vj := hO.v2 (D.getD j hd0).r (by omega)
  obtain ⟨e1, e2⟩ := addr_inj hO (by omega) (by omega) (by omega) (by omega) e
  rcases Nat.lt_or_gt_of_ne hij with hl | hl
  · have := h.p i j hl hj e1; omega
  · have := h.p j i hl hi e1.symm; omega

theorem AInv.stored {S : Ps} {D : List Hd} (h : AInv S D) (a : Nat) (bs : List Nat) : AInv (S.stored a bs) D := ⟨h.sz, h.n, h.lv, fun i hi => ⟨(h.d i hi).r, (h.d i hi).g, (h.d i hi).l1, (h.d i hi).l2, (h.d i hi).f, (h.d i hi).m⟩, h.p⟩

theorem bytes_stored_same (S : Ps) (a : Nat) (bs : List Nat) : (S.stored a bs).bytesAt a bs.length = bs := by
  refine List.ext_getElem? (fun i => ?_)
  unfold Ps.bytesAt
  rw [List.getElem?_map]
  by_cases hi : i < bs.length
  · rw [List.getElem?_range hi, List.getElem?_eq_getElem hi]
    simp [Ps.stored, putBt, hi]
  · rw [List.getElem?_eq_none (by simpa using hi), List.getElem?_eq_none (by simpa using hi)]; rfl
theorem bytes_stored_other (S : Ps) (a b l : Nat) (bs : List Nat) (h : ∀ x y, x < l → y < bs.length → b + x ≠ a + y) : (S.stored a bs).bytesAt b l = S.bytesAt b l := by
  unfold Ps.bytesAt
  refine List.map_congr_left (fun k hk => ?_)
  have hk' := List.mem_range.1 hk
  show putBt S.bt a bs (b + k) = _
  unfold putBt
  rw [if_neg]
  intro ⟨h1, h2⟩
  exact h k (b + k - a) hk' (by omega) (by omega)

/-- The first q pieces hold their marks of a round. -/
def Holds (S : Ps) (D : List Hd) (ms : List Int) (len round q : Nat) : Prop :=
  ∀ j, j < q → S.bytesAt (S.addr (D.getD j hd0).r (D.getD j hd0).o) (D.getD j hd0).l = markL ms len j round (D.getD j hd0).l
theorem Holds.store {S : Ps} {D : List Hd} {ms : List Int} {len round q : Nat} (hO : S.Ok) (hA : AInv S D) (h : Holds S D ms len round q) (hq : q < D.length) :
    Holds (S.stored (S.addr (D.getD q hd0).r (D.getD q hd0).o + 0) (markL ms len q round (D.getD q hd0).l)) D ms len round (q + 1) := by
  intro j hj
  have hlen : ∀ n i, (markL ms len i round n).length = n := fun n i => by simp [markL]
  show (S.stored _ _).bytesAt (S.addr (D.getD j hd0).r (D.getD j hd0).o) _ = _
  by_cases e : j = q
  · subst e
    have := bytes_stored_same S (S.addr (D.getD j hd0).r (D.getD j hd0).o + 0) (markL ms len j round (D.getD j hd0).l)
    rw [hlen] at this; exact this
  · rw [bytes_stored_other _ _ _ _ _ (fun x y hx hy => by
      rw [hlen] at hy
      rw [Nat.add_zero]
      exact hA.apart hO (by omega) hq e hx hy)]
    exact h j (by omega)
end Go.Proofs.Ytaaalfimlpeddaa.regionApart
