/-
  What a crash leaves of a log's files.
-/
import Derived.Test.YtadnecgcoceklaaGreatDoorWalDir
namespace Go.Proofs.YtadnecgcoceklaaGreatDoor
open Go.RowKit FR.Frm

def cutQ (f : Fil) (q : Nat) : Fil := if f.2 < f.1.length then cutF f q else f
theorem getD_set_eq' {α : Type} {l : List α} {i : Nat} {x d : α} (h : i < l.length) : (l.set i x).getD i d = x := by
  rw [List.getD_eq_getElem?_getD, List.getElem?_set_self h]; rfl
theorem getD_set_ne' {α : Type} {l : List α} {i j : Nat} {x d : α} (h : i ≠ j) : (l.set i x).getD j d = l.getD j d := by
  rw [List.getD_eq_getElem?_getD, List.getElem?_set_ne h, ← List.getD_eq_getElem?_getD]
theorem cutAll_len : ∀ (d : Dir) (fs : List Fil) (zs : List Int), (cutAll d fs zs).length = fs.length
  | [], _, _ => rfl
  | p :: d, fs, zs => by
    unfold cutAll
    split
    · rw [cutAll_len d, List.length_set]
    · exact cutAll_len d fs zs
theorem cutAll_out : ∀ (d : Dir) (fs : List Fil) (zs : List Int) (i : Nat), (∀ x ∈ d, x.2 ≠ i) → (cutAll d fs zs).getD i ([], 0) = fs.getD i ([], 0)
  | [], _, _, _, _ => rfl
  | p :: d, fs, zs, i, h => by
    unfold cutAll
    split
    · rw [cutAll_out d _ _ i (fun x hx => h x (by simp [hx])), getD_set_ne' (h p (by simp))]
    · exact cutAll_out d fs zs i (fun x hx => h x (by simp [hx]))
/-- Each file is cut by a pick of its own, or isn't. -/
theorem cutAll_in : ∀ (d : Dir) (fs : List Fil) (zs : List Int), (d.map (·.2)).Nodup → (∀ x ∈ d, x.2 < fs.length) → ∀ x ∈ d, ∃ q, (cutAll d fs zs).getD x.2 ([], 0) = cutQ (fs.getD x.2 ([], 0)) q
  | [], _, _, _, _, x, hx => by cases hx
  | p :: d, fs, zs, hn, hl, x, hx => by
    rw [List.map_cons, List.nodup_cons] at hn
    have hp : ∀ y ∈ d, y.2 ≠ p.2 := fun y hy e => hn.1 (by rw [← e]; exact List.mem_map.2 ⟨y, hy, rfl⟩)
    rcases List.mem_cons.1 hx with rfl | hx'
    · unfold cutAll
      split
      · rename_i h
        rw [cutAll_out d _ _ _ hp, getD_set_eq' (hl x (by simp))]
        exact ⟨_, by unfold cutQ; rw [if_pos h]⟩
      · rename_i h
        rw [cutAll_out d _ _ _ hp]
        exact ⟨0, by unfold cutQ; rw [if_neg h]⟩
    · unfold cutAll
      split
      · obtain ⟨q, hq⟩ := cutAll_in d (fs.set p.2 (cutF (fs.getD p.2 ([], 0)) (pk zs))) zs.tail hn.2 (fun y hy => by rw [List.length_set]; exact hl y (by simp [hy])) x hx'
        exact ⟨q, by rw [hq, getD_set_ne' (fun e => hp x hx' e.symm)]⟩
      · exact cutAll_in d fs zs hn.2 (fun y hy => hl y (by simp [hy])) x hx'
theorem cutQ_done {f : Fil} (h : f.2 = f.1.length) (q : Nat) : cutQ f q = f := by unfold cutQ; rw [if_neg (by omega)]
theorem wh_ge {n : Nat} {hs : List Rec} {c k : Nat} (hk : k ≤ hs.length) (h : endN n hs k ≤ c) : k ≤ whN n hs c := by
  obtain ⟨g0, g1, g2⟩ := wh_spec n hs c
  rcases Nat.lt_or_ge (whN n hs c) k with h1 | h1
  · have := g2 (by omega)
    have := endN_mono n hs (j := whN n hs c + 1) (k := k) h1 hk
    omega
  · exact h1
/-- A file that is written: its records, of which the first k last. -/
structure Opn (f : Fil) (cur : List Rec) (k : Nat) : Prop where
  by_ : f.1 = layL 0 cur
  k1 : endN 0 cur k ≤ f.2
  k2 : f.2 ≤ f.1.length
  k3 : k ≤ cur.length
theorem recs_lay (cur : List Rec) : recsOf (layL 0 cur) = cur := by
  have h := scan_take 0 cur (layL 0 cur).length
  rw [List.take_length] at h
  unfold recsOf
  rw [h]
  have := wh_ge (n := 0) (hs := cur) (c := (layL 0 cur).length) (Nat.le_refl _) (by rw [endN_all]; exact Nat.le_refl _)
  exact List.take_of_length_le this
theorem set_last (l : List Nat) (y : Nat) (h : l ≠ []) : l.set (l.length - 1) y = spoil l y := by
  unfold spoil
  rw [← List.concat_eq_append]
  obtain ⟨x, z, rfl⟩ : ∃ x z, l = x ++ [z] := ⟨l.dropLast, l.getLast h, (List.dropLast_concat_getLast h).symm⟩
  rw [List.dropLast_concat, List.length_append, List.length_singleton, Nat.add_sub_cancel, List.set_append_right _ _ (Nat.le_refl _), Nat.sub_self]
  simp
theorem xor85 (x : Nat) (h : x < 256) : x ^^^ 85 < 256 ∧ x ^^^ 85 ≠ x := by
  have key : ∀ y : Fin 256, y.val ^^^ 85 < 256 ∧ y.val ^^^ 85 ≠ y.val := by decide +kernel
  exact key ⟨x, h⟩
theorem Opn.cut {f : Fil} {cur : List Rec} {k : Nat} (h : Opn f cur k) (hb : ∀ r ∈ cur, ∀ x ∈ r, x < 256) (q : Nat) :
    (cutQ f q).2 = (cutQ f q).1.length ∧ (cutQ f q).1.length ≤ f.1.length ∧ ∃ j, k ≤ j ∧ j ≤ cur.length ∧ recsOf (cutQ f q).1 = cur.take j := by
  obtain ⟨h1, h2, h3, h4⟩ := h
  have hby := layL_byte 0 cur hb
  unfold cutQ
  by_cases hlt : f.2 < f.1.length
  · rw [if_pos hlt]
    unfold cutF
    obtain ⟨m, hm⟩ : ∃ m, q % (f.1.length - f.2 + 1) = m := ⟨_, rfl⟩
    have hml : m ≤ f.1.length - f.2 := by have := Nat.mod_lt q (show 0 < f.1.length - f.2 + 1 by omega); omega
    simp only [hm]
    have htl : (f.1.take (f.2 + m)).length = f.2 + m := by rw [List.length_take]; omega
    have hw := (wh_spec 0 cur (f.2 + m)).1
    have hw1 := (wh_spec 0 cur (f.2 + m - 1)).1
    split
    · rename_i hc
      refine ⟨by show f.2 + m = (List.set _ _ _).length; rw [List.length_set, htl], by show (List.set _ _ _).length ≤ _; rw [List.length_set, htl]; omega, ?_⟩
      refine ⟨whN 0 cur (f.2 + m - 1), wh_ge h4 (by omega), hw1, ?_⟩
      have hne : f.1.take (f.2 + m) ≠ [] := by rw [← List.length_pos_iff]; omega
      have hs : (f.1.take (f.2 + m)).set (f.2 + m - 1) ((f.1.take (f.2 + m)).getD (f.2 + m - 1) 0 ^^^ 85) = spoil (f.1.take (f.2 + m)) ((f.1.take (f.2 + m)).getD (f.2 + m - 1) 0 ^^^ 85) := by
        rw [← set_last _ _ hne, htl]
      show recsOf ((f.1.take (f.2 + m)).set (f.2 + m - 1) _) = _
      rw [hs]
      have hx : (f.1.take (f.2 + m)).getD (f.2 + m - 1) 0 = (f.1.take (f.2 + m)).getLast hne := by
        rw [List.getLast_eq_getElem, List.getD_eq_getElem?_getD, List.getElem?_eq_getElem (by omega)]
        simp [htl]
      have hx2 : (f.1.take (f.2 + m)).getLast hne < 256 := hby _ (by rw [← h1]; exact List.mem_of_mem_take (List.getLast_mem hne))
      have hl? : (f.1.take (f.2 + m)).getLast? = some ((f.1.take (f.2 + m)).getLast hne) := List.getLast?_eq_some_getLast hne
      rw [hx]
      obtain ⟨z, hz⟩ : ∃ z, (f.1.take (f.2 + m)).getLast hne = z := ⟨_, rfl⟩
      rw [hz] at hx2 hl? ⊢
      obtain ⟨y1, y2⟩ := xor85 z hx2
      rw [h1] at hl? ⊢
      unfold recsOf
      refine scan_spoil_lay 0 cur (f.2 + m) _ hb (by omega) (by rw [← h1]; omega) y1 ?_
      rw [hl?]
      intro e
      exact y2 (Option.some.inj e).symm
    · refine ⟨by show f.2 + m = (List.take _ _).length; rw [htl], by show (List.take _ _).length ≤ _; rw [htl]; omega, whN 0 cur (f.2 + m), wh_ge h4 (by omega), hw, ?_⟩
      show recsOf (f.1.take (f.2 + m)) = _
      rw [h1]
      unfold recsOf
      rw [scan_take]
  · rw [if_neg hlt]
    exact ⟨by omega, Nat.le_refl _, cur.length, h4, Nat.le_refl _, by rw [h1, recs_lay, List.take_length]⟩
theorem WD.nodup {a : A} {lo n : Nat} {ix : Nat → Nat} {fl : Nat → Fil} (h : WD a lo n ix fl) : ((wDir lo n ix).map (·.2)).Nodup := by
  unfold wDir
  rw [List.map_map]
  have key : ∀ n, (∀ p q, p < n → q < n → ix p = ix q → p = q) → ((List.range n).map ix).Nodup := by
    intro n
    induction n with
    | zero => intro _; exact List.nodup_nil
    | succ n ih =>
      intro hi
      rw [List.range_succ, List.map_append, List.nodup_append]
      refine ⟨ih fun p q hp hq => hi p q (by omega) (by omega), by simp, ?_⟩
      intro x hx y hy e
      obtain ⟨p, hp, rfl⟩ := List.mem_map.1 hx
      simp at hy
      subst hy
      have h1 := List.mem_range.1 hp
      have := hi p n (by omega) (by omega) e
      omega
  exact key n h.inj
/-- Behind a crash that leaves just these names. -/
theorem WD.crash {a : A} {lo n : Nat} {ix : Nat → Nat} {fl : Nat → Fil} (h : WD a lo n ix fl) {n' : Nat} (hn : n' ≤ n) {zs : List Int} (hnow : (a.crash zs).now = wDir lo n' ix) (hfs : (a.crash zs).files = cutAll (wDir lo n' ix) a.files zs.tail) :
    ∃ gl, WD (a.crash zs) lo n' ix gl ∧ ∀ p, p < n' → ∃ q, gl p = cutQ (fl p) q := by
  have hnd : ((wDir lo n' ix).map (·.2)).Nodup := WD.nodup (a := { a with now := wDir lo n' ix }) (lo := lo) (fl := fl) ⟨h.lo1, by have := h.hi; omega, rfl, fun p q hp hq => h.inj p q (by omega) (by omega), fun p hp => h.lt p (by omega), fun p hp => h.file p (by omega)⟩
  refine ⟨fun p => (a.crash zs).file (ix p), ⟨h.lo1, by have := h.hi; omega, hnow, fun p q hp hq => h.inj p q (by omega) (by omega), fun p hp => by rw [hfs, cutAll_len]; exact h.lt p (by omega), fun _ _ => rfl⟩, fun p hp => ?_⟩
  have hm : (wnm (lo + p), ix p) ∈ wDir lo n' ix := List.mem_map.2 ⟨p, List.mem_range.2 hp, rfl⟩
  obtain ⟨q, hq⟩ := cutAll_in (wDir lo n' ix) a.files zs.tail hnd (fun x hx => by
    obtain ⟨r, hr, rfl⟩ := List.mem_map.1 hx
    exact h.lt r (by have := List.mem_range.1 hr; omega)) _ hm
  refine ⟨q, ?_⟩
  show (a.crash zs).file (ix p) = _
  unfold A.file
  rw [hfs, hq]
  have := h.file p (by omega)
  unfold A.file at this
  rw [this]
end Go.Proofs.YtadnecgcoceklaaGreatDoor
