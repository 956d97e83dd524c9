/-
  What the law RegionCounts keeps true: idle slabs and those of the three regions are all.
-/
import Derived.Test.YtkmnclcppalbbaaRegTil
namespace Go.Proofs.Ytkmnclcppalbbaa.regionCounts
open Go.RowKit

theorem nodup_sub_le : ∀ (l m : List Nat), l.Nodup → (∀ x, x ∈ l → x ∈ m) → l.length ≤ m.length
  | [], _, _, _ => Nat.zero_le _
  | a :: l, m, hd, h => by
    have hd' := List.nodup_cons.1 hd
    have h1 := nodup_sub_le l (m.erase a) hd'.2 (fun x hx => by
      refine (List.mem_erase_of_ne ?_).2 (h x (List.mem_cons_of_mem _ hx))
      exact fun e => hd'.1 (e ▸ hx))
    have h2 := List.length_erase_of_mem (h a (List.mem_cons_self ..))
    have h3 : 0 < m.length := List.length_pos_of_mem (h a (List.mem_cons_self ..))
    rw [h2] at h1
    simp; omega

/-- Three regions, and no other. -/
structure CInv (S : Ps) (m : Nat) : Prop where
  sz : S.size = 96
  n : S.n = 7
  lv : ∀ i, i < 256 → S.live i = decide (i < 3)
  g : ∀ i, i < 256 → S.gen i ≤ m

def Ps.all3 (S : Ps) : List Nat := S.sl 0 ++ S.sl 1 ++ S.sl 2
theorem all3_nodup {S : Ps} (hO : S.Ok) : (Ps.all3 S).Nodup := by
  unfold Ps.all3
  rw [List.nodup_append, List.nodup_append]
  refine ⟨⟨hO.v3 0 (by omega), hO.v3 1 (by omega), fun a ha b hb e => ?_⟩, hO.v3 2 (by omega), fun a ha b hb e => ?_⟩
  · subst e; exact hO.v4 0 1 (by omega) (by omega) (by omega) a ha hb
  · subst e
    rcases List.mem_append.1 ha with h | h
    · exact hO.v4 0 2 (by omega) (by omega) (by omega) a h hb
    · exact hO.v4 1 2 (by omega) (by omega) (by omega) a h hb
theorem idle_all {S : Ps} {m : Nat} (hO : S.Ok) (h : CInv S m) : idleCnt S.tk 7 + (S.sl 0).length + (S.sl 1).length + (S.sl 2).length = 7 := by
  have hmem : ∀ x, x ∈ Ps.all3 S ↔ x ∈ (List.range 7).filter (fun j => S.tk j) := fun x => by
    rw [List.mem_filter, List.mem_range]
    constructor
    · intro hx
      unfold Ps.all3 at hx
      rcases List.mem_append.1 hx with hx | hx
      · rcases List.mem_append.1 hx with hx | hx
        · exact ⟨by have := hO.v1 0 (by omega) x hx; rw [h.n] at this; exact this, hO.v5 0 (by omega) x hx⟩
        · exact ⟨by have := hO.v1 1 (by omega) x hx; rw [h.n] at this; exact this, hO.v5 1 (by omega) x hx⟩
      · exact ⟨by have := hO.v1 2 (by omega) x hx; rw [h.n] at this; exact this, hO.v5 2 (by omega) x hx⟩
    · intro ⟨h1, h2⟩
      obtain ⟨i, hi, hl, hm⟩ := hO.v6 x (by rw [h.n]; exact h1) h2
      rw [h.lv i hi] at hl
      have hi3 : i < 3 := by simpa using hl
      unfold Ps.all3
      match i, hi3 with
      | 0, _ => simp [hm]
      | 1, _ => simp [hm]
      | 2, _ => simp [hm]
  have e1 := nodup_sub_le _ _ (all3_nodup hO) (fun x hx => (hmem x).1 hx)
  have e2 := nodup_sub_le _ _ (List.Pairwise.filter _ List.nodup_range) (fun x hx => (hmem x).2 hx)
  have e3 : (Ps.all3 S).length = (S.sl 0).length + (S.sl 1).length + (S.sl 2).length := by simp [Ps.all3]; omega
  have e4 : ((List.range 7).filter (fun j => S.tk j)).length + idleCnt S.tk 7 = 7 := by
    unfold idleCnt
    rw [← List.countP_eq_length_filter]
    have := List.length_eq_countP_add_countP (fun j => S.tk j) (l := List.range 7)
    simp at this
    simpa using this.symm
  omega

theorem idle_none {S : Ps} {m : Nat} (h : CInv S m) (hn : S.idle = none) : idleCnt S.tk 7 = 0 := by
  have := idleFrom_none _ _ rfl hn
  rw [h.n] at this
  unfold idleCnt
  rw [List.countP_eq_zero]
  intro a ha
  simp [this a (Nat.zero_le _) (List.mem_range.1 ha)]
theorem idle_handed {S : Ps} {m i j : Nat} {v : Value} (hO : S.Ok) (h : CInv S m) (hi : i < 3) (hj : S.idle = some j) (hO' : (S.handed i j v).Ok) (h' : CInv (S.handed i j v) m) : idleCnt S.tk 7 = idleCnt (S.handed i j v).tk 7 + 1 := by
  have a1 := idle_all hO h
  have a2 := idle_all hO' h'
  match i, hi with
  | 0, _ => simp [Ps.handed] at a2 ⊢; omega
  | 1, _ => simp [Ps.handed] at a2 ⊢; omega
  | 2, _ => simp [Ps.handed] at a2 ⊢; omega

theorem from_mod {S : Ps} {i n al : Nat} (hO : S.Ok) (hn : 1 ≤ n) (hf : S.fits i n al = true) : S.from i al % S.size = upTo (S.fill i % S.size) al ∧ upTo (S.fill i % S.size) al + n ≤ S.size := by
  simp only [Ps.fits, Bool.and_eq_true, decide_eq_true_eq] at hf
  have hd := Nat.div_add_mod (S.fill i) S.size
  have e : S.from i al = S.size * (S.fill i / S.size) + upTo (S.fill i % S.size) al := by unfold Ps.from; omega
  rw [e]
  have := hO.s1
  exact ⟨by rw [Nat.mul_add_mod]; exact Nat.mod_eq_of_lt (by omega), hf.2⟩
theorem upTo_mod (r al : Nat) : upTo r al % al = 0 := by unfold upTo; exact Nat.mul_mod_left _ _

/-- What Alloc answers one of the three, and that all goes on. -/
theorem alloc_three {w0 w : World} {S : Ps} {F : Nat → Prop} {m i n al : Nat} (h : St w0 w S F) (hq : CInv S m) (hi : i < 3) (h1 : 1 ≤ n) (hal : alB al = true) :
    (96 < n ∧ Calls Try.prog 20 #[.pointer (some ⟨S.pb, 0, none⟩), .int .i64 i, .int .i64 n, .int .i64 al] w fun e w' => e = .returned (.tuple #[zeroH, .int .i64 1]) ∧ Grew w w') ∨
    (idleCnt S.tk 7 = 0 ∧ Calls Try.prog 20 #[.pointer (some ⟨S.pb, 0, none⟩), .int .i64 i, .int .i64 n, .int .i64 al] w fun e w' => e = .returned (.tuple #[zeroH, .int .i64 5]) ∧ Grew w w') ∨
    ∃ g o : Nat, o % 96 % al = 0 ∧ o % 96 + n ≤ 96 ∧ Calls Try.prog 20 #[.pointer (some ⟨S.pb, 0, none⟩), .int .i64 i, .int .i64 n, .int .i64 al] w fun e w' => e = .returned (.tuple #[Hv i g o n, .int .i64 0]) ∧ ∃ S' F', St w0 w' S' F' ∧ S'.pb = S.pb ∧ CInv S' m ∧ (idleCnt S'.tk 7 = idleCnt S.tk 7 ∨ idleCnt S.tk 7 = idleCnt S'.tk 7 + 1) := by
  have hlv : S.live i = true := by rw [hq.lv i (by omega)]; simpa using hi
  by_cases hn : 96 < n
  · exact .inl ⟨hn, alloc_arg h.at_ i n al (by omega) hlv (.inr (.inl (by rw [hq.sz]; omega)))⟩
  · have hsz : n ≤ S.size := by rw [hq.sz]; omega
    right
    cases hf : S.fits i n al
    · cases hid : S.idle with
      | none => exact .inl ⟨idle_none hq hid, alloc_full h.at_ h.ok (by omega) hlv h1 hsz hal hf hid⟩
      | some j =>
        refine .inr ⟨S.gen i, (S.sl i).length * S.size, by rw [hq.sz, Nat.mul_mod_left, Nat.zero_mod], by rw [hq.sz, Nat.mul_mod_left]; omega, (h.allocNew (by omega) hlv h1 hsz hal hf hid).mono ?_⟩
        rintro e w' ⟨rfl, v, F', h3, _⟩
        obtain ⟨hj1, hj2⟩ := S.idle_some hid
        exact ⟨rfl, _, F', h3, rfl, ⟨hq.sz, hq.n, hq.lv, hq.g⟩, .inr (idle_handed (v := v) h.ok hq hi hid (h.ok.handed (by omega) hlv hj1 hj2) ⟨hq.sz, hq.n, hq.lv, hq.g⟩)⟩
    · have hm := from_mod h.ok h1 hf
      rw [hq.sz] at hm
      refine .inr ⟨S.gen i, S.from i al, by rw [hm.1]; exact upTo_mod _ _, by rw [hm.1]; exact hm.2, (h.allocFit (by omega) hlv h1 hsz hal hf).mono ?_⟩
      rintro e w' ⟨rfl, h3, _⟩
      exact ⟨rfl, _, F, h3, rfl, ⟨hq.sz, hq.n, hq.lv, hq.g⟩, .inl rfl⟩
end Go.Proofs.Ytkmnclcppalbbaa.regionCounts
