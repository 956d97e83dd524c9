/-
  What the law RegionPoison keeps true from round to round: bytes behind the fill are noughts.
-/
import Derived.Test.YtaaalfimlpeddaaRegRow
namespace Go.Proofs.Ytaaalfimlpeddaa.regionPoison
open Go.RowKit

theorem div_add_lt {o s k : Nat} (hs : 0 < s) (h : o % s + k < s) : (o + k) / s = o / s ∧ (o + k) % s = o % s + k := by
  have h1 := Nat.div_add_mod o s
  have e : o + k = s * (o / s) + (o % s + k) := by omega
  rw [e]
  exact ⟨by rw [Nat.mul_add_div hs, Nat.div_eq_of_lt h]; omega, by rw [Nat.mul_add_mod, Nat.mod_eq_of_lt h]⟩
theorem addr_add {S : Ps} (hO : S.Ok) {i o k : Nat} (h : o % S.size + k < S.size) : S.addr i (o + k) = S.addr i o + k := by
  obtain ⟨h1, h2⟩ := div_add_lt (by have := hO.s1; omega) h
  unfold Ps.addr; rw [h1, h2]; omega
theorem addr_mem {S : Ps} (hO : S.Ok) {i o : Nat} (h : o < (S.sl i).length * S.size) : (S.sl i).getD (o / S.size) 0 ∈ S.sl i ∧ o / S.size < (S.sl i).length := by
  have hq : o / S.size < (S.sl i).length := (Nat.div_lt_iff_lt_mul (by have := hO.s1; omega)).2 h
  exact ⟨by rw [List.getD_eq_getElem?_getD, List.getElem?_eq_getElem hq]; simp, hq⟩
theorem addr_div {S : Ps} (hO : S.Ok) {i o : Nat} : S.addr i o / S.size = (S.sl i).getD (o / S.size) 0 ∧ S.addr i o % S.size = o % S.size := by
  have hs : 0 < S.size := by have := hO.s1; omega
  have hm := Nat.mod_lt o hs
  unfold Ps.addr
  exact ⟨by rw [Nat.mul_comm, Nat.mul_add_div hs, Nat.div_eq_of_lt hm]; omega, by rw [Nat.mul_comm, Nat.mul_add_mod, Nat.mod_eq_of_lt hm]⟩
theorem addr_inj {S : Ps} (hO : S.Ok) {i i' o o' : Nat} (hi : i < 256) (hi' : i' < 256) (h : o < (S.sl i).length * S.size) (h' : o' < (S.sl i').length * S.size) (e : S.addr i o = S.addr i' o') : i = i' ∧ o = o' := by
  have d1 := addr_div hO (i := i) (o := o)
  have d2 := addr_div hO (i := i') (o := o')
  rw [e] at d1
  have m1 := addr_mem hO h
  have m2 := addr_mem hO h'
  have ej : (S.sl i).getD (o / S.size) 0 = (S.sl i').getD (o' / S.size) 0 := d1.1.symm.trans d2.1
  have ei : i = i' := by
    by_cases e : i = i'
    · exact e
    · exact absurd (by rw [ej]; exact m2.1) (hO.v4 i i' hi hi' e _ m1.1)
  subst ei
  refine ⟨rfl, ?_⟩
  have hq : o / S.size = o' / S.size := by
    rw [List.getD_eq_getElem?_getD, List.getD_eq_getElem?_getD, List.getElem?_eq_getElem m1.2, List.getElem?_eq_getElem m2.2] at ej
    have hne := List.pairwise_iff_getElem.1 (hO.v3 i hi)
    rcases Nat.lt_trichotomy (o / S.size) (o' / S.size) with hl | hl | hl
    · exact absurd (by simpa using ej) (hne _ _ m1.2 m2.2 hl)
    · exact hl
    · exact absurd (by simpa using ej.symm) (hne _ _ m2.2 m1.2 hl)
  have hr : o % S.size = o' % S.size := d1.2.symm.trans d2.2
  have e1 := Nat.div_add_mod o S.size
  have e2 := Nat.div_add_mod o' S.size
  rw [hq, hr] at e1; omega

/-- Behind the fill all is nought. -/
def Zero (S : Ps) (i : Nat) : Prop := ∀ o, S.fill i ≤ o → o < (S.sl i).length * S.size → S.bt (S.addr i o) = 0

structure QInv (S : Ps) (sz m : Nat) : Prop where
  sz : S.size = sz
  n : S.n = 12
  lv : ∀ i, i < 256 → S.live i = decide (i < 2)
  g : ∀ i, i < 256 → S.gen i ≤ m
  z : ∀ i, i < 2 → Zero S i

theorem from_one (S : Ps) (i : Nat) : S.from i 1 = S.fill i := by
  unfold Ps.from upTo
  have := Nat.mod_le (S.fill i) S.size
  simp; omega

theorem QInv.fit {S : Ps} {sz m i n : Nat} (hO : S.Ok) (h : QInv S sz m) (hi : i < 2) (hf : S.fits i n 1 = true) :
    QInv (S.filled i (S.from i 1 + n)) sz m ∧ (S.filled i (S.from i 1 + n)).bytesAt ((S.filled i (S.from i 1 + n)).addr i (S.from i 1)) n = List.replicate n 0 := by
  have hle := fits_le hO hf
  rw [from_one] at hle ⊢
  simp only [Ps.fits, Bool.and_eq_true, decide_eq_true_eq, from_one] at hf
  have hu : upTo (S.fill i % S.size) 1 = S.fill i % S.size := by simp [upTo]
  rw [hu] at hf
  refine ⟨⟨h.sz, h.n, h.lv, h.g, fun k hk o h1 h2 => ?_⟩, ?_⟩
  · refine h.z k hk o (Nat.le_trans ?_ h1) h2
    show S.fill k ≤ if k = i then S.fill i + n else S.fill k
    split
    · rename_i e; rw [e]; omega
    · exact Nat.le_refl _
  · rw [List.eq_replicate_iff]
    refine ⟨by simp [Ps.bytesAt], fun b hb => ?_⟩
    simp only [Ps.bytesAt, List.mem_map, List.mem_range] at hb
    obtain ⟨k, hk, rfl⟩ := hb
    show S.bt (S.addr i (S.fill i) + k) = 0
    rw [← addr_add hO (by omega)]
    exact h.z i hi _ (by omega) (by omega)

theorem QInv.new {S : Ps} {sz m i n j : Nat} {v : Value} (hO : S.Ok) (h : QInv S sz m) (hi : i < 2) (hj : S.idle = some j) (hn : n ≤ S.size) :
    QInv ((S.handed i j v).filled i ((S.sl i).length * S.size + n)) sz m ∧ ((S.handed i j v).filled i ((S.sl i).length * S.size + n)).bytesAt (((S.handed i j v).filled i ((S.sl i).length * S.size + n)).addr i ((S.sl i).length * S.size)) n = List.replicate n 0 := by
  obtain ⟨hj1, hj2⟩ := S.idle_some hj
  have hs : 0 < S.size := by have := hO.s1; omega
  have hsl : ((S.handed i j v).filled i ((S.sl i).length * S.size + n)).sl i = S.sl i ++ [j] := by simp [Ps.filled, Ps.handed]
  have ha : ∀ o, (S.sl i).length * S.size ≤ o → o < ((S.sl i).length + 1) * S.size → ((S.handed i j v).filled i ((S.sl i).length * S.size + n)).addr i o = j * S.size + o % S.size := fun o h1 h2 => by
    unfold Ps.addr
    rw [hsl]
    have : o / S.size = (S.sl i).length := by
      rw [Nat.div_eq_iff hs]; rw [Nat.add_mul] at h2; omega
    show (S.sl i ++ [j]).getD (o / S.size) 0 * S.size + o % S.size = _
    rw [this]; simp
  have hz : ∀ o, (S.sl i).length * S.size ≤ o → o < ((S.sl i).length + 1) * S.size → ((S.handed i j v).filled i ((S.sl i).length * S.size + n)).bt (((S.handed i j v).filled i ((S.sl i).length * S.size + n)).addr i o) = 0 := fun o h1 h2 => by
    rw [ha o h1 h2]
    have := Nat.mod_lt o hs
    show (if j * S.size ≤ j * S.size + o % S.size ∧ j * S.size + o % S.size < j * S.size + S.size then 0 else _) = 0
    rw [if_pos ⟨by omega, by omega⟩]
  refine ⟨⟨h.sz, h.n, h.lv, h.g, fun k hk o h1 h2 => ?_⟩, ?_⟩
  · by_cases e : k = i
    · subst e
      have h1' : (S.sl k).length * S.size + n ≤ o := by simpa [Ps.filled] using h1
      rw [hsl] at h2
      have h2' : o < (S.sl k ++ [j]).length * S.size := h2
      exact hz o (by omega) (by simpa using h2')
    · have e1 : ((S.handed i j v).filled i ((S.sl i).length * S.size + n)).sl k = S.sl k := by simp [Ps.filled, Ps.handed, e]
      have e2 : S.fill k ≤ o := by simpa [Ps.filled, e, Ps.handed] using h1
      rw [e1] at h2
      have e3 : ((S.handed i j v).filled i ((S.sl i).length * S.size + n)).addr k o = S.addr k o := by unfold Ps.addr; rw [e1]; rfl
      rw [e3]
      have hm := addr_mem hO h2
      have hd := addr_div hO (i := k) (o := o)
      have hne : (S.sl k).getD (o / S.size) 0 ≠ j := fun e' => by have := hO.v5 k (by omega) _ hm.1; rw [e', hj2] at this; cases this
      show (if j * S.size ≤ S.addr k o ∧ S.addr k o < j * S.size + S.size then 0 else S.bt (S.addr k o)) = 0
      rw [if_neg]
      · exact h.z k hk o e2 h2
      · intro hh
        apply hne
        rw [← hd.1, Nat.div_eq_iff hs]; omega
  · rw [List.eq_replicate_iff]
    refine ⟨by simp [Ps.bytesAt], fun b hb => ?_⟩
    simp only [Ps.bytesAt, List.mem_map, List.mem_range] at hb
    obtain ⟨k, hk, rfl⟩ := hb
    have e := ha ((S.sl i).length * S.size) (Nat.le_refl _) (by rw [Nat.add_mul]; omega)
    rw [Nat.mul_mod_left] at e
    have e2 := ha ((S.sl i).length * S.size + k) (by omega) (by rw [Nat.add_mul]; omega)
    rw [Nat.mul_add_mod_self_right, Nat.mod_eq_of_lt (by omega)] at e2
    have := hz ((S.sl i).length * S.size + k) (by omega) (by rw [Nat.add_mul]; omega)
    rw [e2] at this
    rw [e]; exact this

theorem QInv.store {S : Ps} {sz m i o n : Nat} {bs : List Nat} (hO : S.Ok) (h : QInv S sz m) (hi : i < 2) (hb : bs.length = n) (hf : o + n ≤ S.fill i) (hr : o % S.size + n ≤ S.size) : QInv (S.stored (S.addr i o + 0) bs) sz m := by
  refine ⟨h.sz, h.n, h.lv, h.g, fun k hk q h1 h2 => ?_⟩
  show putBt S.bt (S.addr i o + 0) bs (S.addr k q) = 0
  unfold putBt
  rw [if_neg]
  · exact h.z k hk q h1 h2
  · intro ⟨ha, hb'⟩
    obtain ⟨d, hd⟩ : ∃ d, S.addr k q = S.addr i o + d := ⟨S.addr k q - S.addr i o, by omega⟩
    have hdn : d < n := by omega
    have e := addr_add hO (i := i) (o := o) (k := d) (by omega)
    have h3 : o + d < (S.sl i).length * S.size := by have := hO.v2 i (by omega); omega
    obtain ⟨e1, e2⟩ := addr_inj hO (by omega) (by omega) h2 h3 (hd.trans e.symm)
    subst e1
    have h1' : S.fill k ≤ q := h1
    omega
end Go.Proofs.Ytaaalfimlpeddaa.regionPoison
