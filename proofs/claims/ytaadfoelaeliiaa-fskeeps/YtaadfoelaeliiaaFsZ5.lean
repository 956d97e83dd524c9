/-
  A file that is renamed again and again (the law FsChains): which names are there.
-/
import Derived.Test.YtaadfoelaeliiaaFsZ3
namespace Go.Proofs.Ytaadfoelaeliiaa
open Go.RowKit Go.Maps

def cn (k : Nat) : Bs := [UInt8.ofNat (97 + k)]
abbrev bIt : Bs := [105, 116]
/-- The name that the file has now: 4 is 'it'. -/
def nmC (c : Nat) : Bs := if c = 4 then bIt else cn c
def dirC (c : Nat) (t0 t1 t2 t3 : Bool) : Dir :=
  (if t0 then [(cn 0, if c = 0 then 4 else 0)] else []) ++ (if t1 then [(cn 1, if c = 1 then 4 else 1)] else []) ++ (if t2 then [(cn 2, if c = 2 then 4 else 2)] else []) ++ (if t3 then [(cn 3, if c = 3 then 4 else 3)] else []) ++ (if c = 4 then [(bIt, 4)] else [])
def thOf (t0 t1 t2 t3 : Bool) (k : Nat) : Bool := if k = 0 then t0 else if k = 1 then t1 else if k = 2 then t2 else if k = 3 then t3 else true
def dirT (c : Nat) (th : Nat → Bool) : Dir := dirC c (th 0) (th 1) (th 2) (th 3)
/-- Who is there behind a rename. -/
def thN (th : Nat → Bool) (c k : Nat) : Nat → Bool := upd (if c < 4 ∧ c ≠ k then upd th c false else th) k true
theorem ren_all : ∀ (c : Fin 5) (k : Fin 4) (t0 t1 t2 t3 : Bool), (c.val < 4 → thOf t0 t1 t2 t3 c.val = true) →
    Dir.look (dirC c.val t0 t1 t2 t3) (nmC c.val) = some 4 ∧
    (nmC c.val ≠ cn k.val → (Ch.rename (nmC c.val) (cn k.val) 4).on (dirC c.val t0 t1 t2 t3) = dirT k.val (thN (thOf t0 t1 t2 t3) c.val k.val)) ∧
    (nmC c.val = cn k.val → dirC c.val t0 t1 t2 t3 = dirT k.val (thN (thOf t0 t1 t2 t3) c.val k.val)) := by decide +kernel
theorem look_all : ∀ (c : Fin 5) (k : Fin 4) (t0 t1 t2 t3 : Bool), Dir.look (dirC c.val t0 t1 t2 t3) (cn k.val) = (if thOf t0 t1 t2 t3 k.val then some (if c.val = k.val then 4 else k.val) else none) := by decide +kernel
theorem look_it : ∀ (c : Fin 5) (t0 t1 t2 t3 : Bool), Dir.look (dirC c.val t0 t1 t2 t3) bIt = (if c.val = 4 then some 4 else none) := by decide +kernel
theorem name_all : ∀ (k : Fin 4), isNm (cn k.val) = true := by decide +kernel
theorem name_all5 : ∀ (k : Fin 5), isNm (nmC k.val) = true := by decide +kernel
theorem thOf_eq (th : Nat → Bool) {k : Nat} (hk : k < 4) : thOf (th 0) (th 1) (th 2) (th 3) k = th k := by
  rcases (show k = 0 ∨ k = 1 ∨ k = 2 ∨ k = 3 by omega) with rfl | rfl | rfl | rfl <;> rfl
theorem dirT_congr {c : Nat} {th th' : Nat → Bool} (h : ∀ k, k < 4 → th k = th' k) : dirT c th = dirT c th' := by
  unfold dirT; rw [h 0 (by omega), h 1 (by omega), h 2 (by omega), h 3 (by omega)]
theorem thN_congr {c k : Nat} {th th' : Nat → Bool} (h : ∀ j, j < 4 → th j = th' j) : ∀ j, j < 4 → thN th c k j = thN th' c k j := by
  intro j hj
  unfold thN upd
  split
  · rfl
  · split
    · dsimp only
      split
      · rfl
      · exact h j hj
    · exact h j hj
structure Chn (a : A) (data : List Nat) (c : Nat) (th : Nat → Bool) : Prop where
  off : a.off = false
  armed : a.armed = false
  now : a.now = dirT c th
  files : a.files = [([97], 1), ([98], 1), ([99], 1), ([100], 1), (data, data.length)]
  le : c ≤ 4
  there : c < 4 → th c = true
section
variable {a : A} {data : List Nat} {c : Nat} {th : Nat → Bool}
theorem Chn.ren (h : Chn a data c th) {k : Nat} (hk : k < 4) : ∃ a', a.rename (nmC c) (cn k) = (0, a') ∧ Chn a' data k (thN th c k) ∧ a'.top ≤ a.top + 1 := by
  have hc : c < 5 := by have := h.le; omega
  obtain ⟨h1, h2, h3⟩ := ren_all ⟨c, hc⟩ ⟨k, hk⟩ (th 0) (th 1) (th 2) (th 3) (fun hlt => by rw [thOf_eq th hlt]; exact h.there hlt)
  dsimp only at h1 h2 h3
  have hcg : ∀ j, j < 4 → thN (thOf (th 0) (th 1) (th 2) (th 3)) c k j = thN th c k j := thN_congr (fun j hj => thOf_eq th hj)
  rw [dirT_congr hcg] at h2 h3
  have hl : Dir.look a.now (nmC c) = some 4 := by rw [h.now]; exact h1
  have hf : a.findE (nmC c) = 0 := findE_ok (name_all5 ⟨c, hc⟩) hl
  have hi : a.idx (nmC c) = 4 := by unfold A.idx; rw [hl]; rfl
  have hth : k < 4 → thN th c k k = true := fun _ => by unfold thN upd; simp
  have htp := rename_top a (nmC c) (cn k)
  have e : a.rename (nmC c) (cn k) = (0, if nmC c = cn k then a else a.do (.rename (nmC c) (cn k) 4)) := by
    rw [rename_try (name_all ⟨k, hk⟩) hf, on_try h.off h.armed, hi]
  rw [e] at htp
  refine ⟨_, e, ?_, htp⟩
  by_cases hn : nmC c = cn k
  · rw [if_pos hn]
    exact ⟨h.off, h.armed, h.now.trans (h3 hn), h.files, by omega, hth⟩
  · rw [if_neg hn]
    refine ⟨h.off, h.armed, ?_, h.files, by omega, hth⟩
    show (Ch.rename (nmC c) (cn k) 4).on a.now = _
    rw [h.now]; exact h2 hn
theorem cutAll_same : ∀ (d : Dir) (fs : List Fil) (zs : List Int), (∀ f ∈ fs, f.2 = f.1.length) → cutAll d fs zs = fs
  | [], fs, _, _ => rfl
  | p :: d, fs, zs, h => by
    unfold cutAll
    have : ¬ (fs.getD p.2 ([], 0)).2 < (fs.getD p.2 ([], 0)).1.length := by
      rw [List.getD_eq_getElem?_getD]
      cases e : fs[p.2]? with
      | none => simp
      | some f => have := h f (List.mem_of_getElem? e); simp; omega
    rw [if_neg this]
    exact cutAll_same d fs zs h
theorem Chn.end_ (h : Chn a data c th) (zs : List Int) : ∃ a1, a.syncDir = (0, a1) ∧ Chn (a1.crash zs) data c th ∧ a1.top ≤ a.top := by
  refine ⟨{ a with last := a.now, wait := [] }, on_try h.off h.armed _, ?_, ?_⟩
  · obtain ⟨K, hK, e1, e2, e3⟩ := crash_eq ({ a with last := a.now, wait := [] } : A) zs
    have hl : lastK ({ a with last := a.now, wait := [] } : A) K = a.now := by unfold lastK; simp
    rw [hl] at e1 e2
    refine ⟨e3, rfl, e1.trans h.now, e2.trans ?_, h.le, h.there⟩
    show cutAll a.now a.files zs.tail = _
    rw [cutAll_same, h.files]
    rw [h.files]
    intro f hf
    simp at hf
    rcases hf with rfl | rfl | rfl | rfl | rfl <;> rfl
  · unfold A.top
    show max a.now.length (a.now.length + 0) ≤ _
    omega
/-- What is read of name i. -/
theorem Chn.read (h : Chn a data c th) (hd : data.length ≤ 1000) {i : Nat} (hi : i < 4) :
    (th i = true → a.readE (cn i) 0 1000 = 0 ∧ a.read (cn i) 0 1000 = if c = i then data else [97 + i]) ∧ (th i = false → a.readE (cn i) 0 1000 = 7 ∧ a.read (cn i) 0 1000 = []) := by
  have hc : c < 5 := by have := h.le; omega
  have hl := look_all ⟨c, hc⟩ ⟨i, hi⟩ (th 0) (th 1) (th 2) (th 3)
  dsimp only at hl
  rw [thOf_eq th hi] at hl
  change Dir.look (dirT c th) (cn i) = _ at hl
  rw [← h.now] at hl
  constructor
  · intro ht
    rw [if_pos ht] at hl
    have hf : a.findE (cn i) = 0 := findE_ok (name_all ⟨i, hi⟩) hl
    have hx : a.idx (cn i) = if c = i then 4 else i := by unfold A.idx; rw [hl]; rfl
    have hfi : (a.file (a.idx (cn i))).1 = if c = i then data else [97 + i] := by
      rw [hx]
      unfold A.file
      rw [h.files]
      split
      · rfl
      · rcases (show i = 0 ∨ i = 1 ∨ i = 2 ∨ i = 3 by omega) with rfl | rfl | rfl | rfl <;> rfl
    have hlen : ((a.file (a.idx (cn i))).1).length ≤ 1000 := by
      rw [hfi]; split
      · exact hd
      · simp
    have hr := readE_ok (a := a) (s := cn i) (x := 0) (n := 1000) hf (by omega) h.off
    refine ⟨hr.1, ?_⟩
    rw [hr.2]
    show ((a.file (a.idx (cn i))).1.drop 0).take 1000 = _
    rw [List.drop_zero, List.take_of_length_le hlen, hfi]
  · intro ht
    rw [if_neg (by rw [ht]; simp)] at hl
    have hf : a.findE (cn i) = 7 := findE_miss (name_all ⟨i, hi⟩) hl
    have := readE_err (a := a) (s := cn i) (x := 0) (n := 1000) (by rw [hf]; decide)
    rw [hf] at this; exact this
theorem Chn.it (h : Chn a data c th) : a.sizeE bIt = if c = 4 then 0 else 7 := by
  have hc : c < 5 := by have := h.le; omega
  have hl := look_it ⟨c, hc⟩ (th 0) (th 1) (th 2) (th 3)
  dsimp only at hl
  change Dir.look (dirT c th) bIt = _ at hl
  rw [← h.now] at hl
  unfold A.sizeE
  by_cases e : c = 4
  · rw [if_pos e] at hl
    have hf : a.findE bIt = 0 := findE_ok (by decide) hl
    rw [if_pos hf, h.off, if_pos e]; rfl
  · rw [if_neg e] at hl
    have hf : a.findE bIt = 7 := findE_miss (by decide) hl
    rw [hf, if_neg e]; rfl
end
/-- The first i names, each with a file. -/
def ini (i : Nat) : A := ⟨1048576, (List.range i).map fun k => (cn k, k), [], (List.range i).map fun k => .create (cn k) k, false, false, 0, (List.range i).map fun k => ([97 + k], 1)⟩
theorem ini_step {i : Nat} (hi : i < 4) : ∃ s1 s2, (ini i).create (cn i) = (0, s1) ∧ s1.append (cn i) [97 + i] = (0, s2) ∧ s2.sync (cn i) = (0, ini (i + 1)) ∧ (ini i).top ≤ 4 ∧ s1.top ≤ 5 ∧ s2.top ≤ 5 := by
  rcases (show i = 0 ∨ i = 1 ∨ i = 2 ∨ i = 3 by omega) with rfl | rfl | rfl | rfl
  all_goals exact ⟨_, _, rfl, rfl, rfl, by decide +kernel, by decide +kernel, by decide +kernel⟩
theorem ini_it (data : List Nat) (hd : data.length ≤ 1000) : ∃ s1 s2 s3, (ini 4).create bIt = (0, s1) ∧ s1.append bIt data = (0, s2) ∧ s2.sync bIt = (0, s3) ∧ Chn s3 data 4 (fun _ => true) ∧ (ini 4).top ≤ 5 ∧ s1.top ≤ 6 ∧ s2.top ≤ 6 ∧ s3.top ≤ 6 := by
  have e1 : (ini 4).create bIt = (0, ⟨1048576, dirC 4 true true true true, [], [.create (cn 0) 0, .create (cn 1) 1, .create (cn 2) 2, .create (cn 3) 3, .create bIt 4], false, false, 0, [([97], 1), ([98], 1), ([99], 1), ([100], 1), ([], 0)]⟩) := rfl
  refine ⟨_, _, _, e1, append_ok rfl (by show 0 + data.length ≤ _; omega) (by show 1 + (1 + (1 + (1 + (0 + 0)))) + data.length ≤ 1048576; omega) rfl rfl, rfl, ⟨rfl, rfl, rfl, rfl, by omega, fun h => absurd h (by omega)⟩, by decide +kernel, ?_, ?_, ?_⟩
  · show 5 ≤ 6; omega
  · show 5 ≤ 6; omega
  · show 5 ≤ 6; omega
end Go.Proofs.Ytaadfoelaeliiaa
