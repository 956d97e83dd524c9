/-
  Used of package fs: all files that have a name, in whatever order.
-/
import Derived.Test.YtadnecgcoceklaaGreatDoorFsFsWA
import Derived.Sort.KeysCollected
namespace Go.Proofs.YtadnecgcoceklaaGreatDoor
open Go.RowKit Go.Maps

def sumL (sz : Nat → Nat) (left : Lit → Bool) : Dir → Nat
  | [] => 0
  | p :: d => (if left (.string p.1) then sz p.2 else 0) + sumL sz left d
theorem sumL_all {sz : Nat → Nat} {left : Lit → Bool} : ∀ {d : Dir}, (∀ p ∈ d, left (.string p.1) = true) → sumL sz left d = (d.map fun p => sz p.2).sum
  | [], _ => rfl
  | p :: d, h => by
    rw [sumL, if_pos (h p (by simp)), sumL_all (d := d) (fun q hq => h q (by simp [hq]))]; simp
theorem sumL_none {sz : Nat → Nat} {left : Lit → Bool} (h : ∀ k, left k = false) : ∀ (d : Dir), sumL sz left d = 0
  | [] => rfl
  | p :: d => by rw [sumL, h, sumL_none h d]; rfl
theorem sumL_congr {sz : Nat → Nat} {left left' : Lit → Bool} : ∀ {d : Dir}, (∀ p ∈ d, left' (.string p.1) = left (.string p.1)) → sumL sz left' d = sumL sz left d
  | [], _ => rfl
  | p :: d, h => by rw [sumL, sumL, h p (by simp), sumL_congr (d := d) (fun q hq => h q (by simp [hq]))]
theorem sumL_strike {sz : Nat → Nat} {left : Lit → Bool} {x : Bs} {i : Nat} (hl : left (.string x) = true) : ∀ {d : Dir}, d.Pairwise (fun p q => p.1 ≠ q.1) → (x, i) ∈ d →
    sumL sz (fun z => left z && !z.sameKey (.string x)) d + sz i = sumL sz left d
  | [], _, h => by cases h
  | p :: d, hp, h => by
    rw [List.pairwise_cons] at hp
    by_cases e : p.1 = x
    · have hi : p = (x, i) := by
        rcases List.mem_cons.1 h with h | h
        · exact h.symm
        · exact absurd e (hp.1 _ h)
      subst hi
      have h1 : sumL sz (fun z => left z && !z.sameKey (.string x)) d = sumL sz left d := sumL_congr (fun q hq => by
        have : (Lit.string q.1).sameKey (.string x) = false := by
          show (q.1 == x) = false
          rw [beq_eq_false_iff_ne]; exact fun e => hp.1 q hq e.symm
        rw [this]; simp)
      have h2 : (left (.string x) && !(Lit.string x).sameKey (.string x)) = false := by
        have : (Lit.string x).sameKey (.string x) = true := by show (x == x) = true; simp
        rw [this]; simp
      show (if (left (.string x) && !(Lit.string x).sameKey (.string x)) then sz i else 0) + _ + _ = (if left (.string x) then sz i else 0) + _
      rw [h1, h2, hl]; simp; omega
    · have h' : (x, i) ∈ d := by
        rcases List.mem_cons.1 h with h | h
        · exact absurd (congrArg Prod.fst h).symm e
        · exact h
      have := sumL_strike (sz := sz) hl hp.2 h'
      have h2 : (left (.string p.1) && !(Lit.string p.1).sameKey (.string x)) = left (.string p.1) := by
        have : (Lit.string p.1).sameKey (.string x) = false := by
          show (p.1 == x) = false
          rw [beq_eq_false_iff_ne]; exact e
        rw [this]; simp
      show (if (left (.string p.1) && !(Lit.string p.1).sameKey (.string x)) then sz p.2 else 0) + _ + _ = (if left (.string p.1) then sz p.2 else 0) + _
      rw [h2]; omega

theorem sum_le {sz : Nat → Nat} {M : Nat} (h : ∀ i, sz i ≤ M) (left : Lit → Bool) : ∀ (d : Dir), sumL sz left d ≤ d.length * M
  | [] => by simp [sumL]
  | p :: d => by
    have h1 := sum_le h left d
    have h2 := h p.2
    rw [sumL, List.length_cons, Nat.add_mul, Nat.one_mul]
    split <;> omega
theorem rise_ne {d : Dir} (h : d.Pairwise fun p q => bytesBefore p.1 q.1 = true) : d.Pairwise fun p q => p.1 ≠ q.1 :=
  h.imp (fun {p q} hb e => by rw [e, Go.WideAt.bytes_irrefl] at hb; cases hb)

theorem used_le {a : A} (ho : a.Ok) : a.used ≤ a.now.length * 1048576 := by
  have h := sum_le (sz := fun i => (a.file i).1.length) (M := 1048576) (fun i => (ho.file i).1) (fun _ => true) a.now
  rw [sumL_all (fun _ _ => rfl)] at h; exact h

set_option maxRecDepth 100000 in
set_option maxHeartbeats 400000 in
theorem used_none {w : World} {g : Gh} {pb : Nat} {a : A} {F : Nat → Prop} (h : FsG w g pb a F) (hnm : g.nm = none) :
    Calls Tryz.prog 35 #[bp pb] w fun e w' => e = .returned (.int .i64 (a.used : Int)) ∧ Below w.heap.size w w' := by
  have c1 := h.c1
  rw [hnm] at c1
  have HV := Lib.hid (show a.used = 0 by unfold A.used; rw [(h.hD.none_ hnm).1]; rfl)
  have hr := run_range_nilMap (P := Tryz.prog) w 90 9 103 und65
  have hn := run_next_nilMap (P := Tryz.prog) w 0 0 0 #[]
  clear h hnm
  go_enter Tryz.func35, Tryz.ntmps35
  go_wp2
  go_loopw [3, 5] (fun u _ wr => u = .int .i64 0 ∧ wr = w.alloc (.mapIter none 0 #[] 0)) (fun _ _ _ => 0)
  case atStart => exact ⟨rfl, rfl⟩
  case round =>
    obtain ⟨rfl, rfl⟩ := hrel
    go_wp2
    go_ret
    exact ⟨by rw [HV.out]; rfl, bel1 _ _⟩

set_option maxRecDepth 100000 in
set_option maxHeartbeats 400000 in
theorem used_some {w : World} {g : Gh} {pb b : Nat} {a : A} {F : Nat → Prop} (h : FsG w g pb a F) (ho : a.Ok) (hnm : g.nm = some b) (htop : a.now.length < 1073741824) :
    Calls Tryz.prog 35 #[bp pb] w fun e w' => e = .returned (.int .i64 (a.used : Int)) ∧ Below w.heap.size w w' := by
  have c1 := h.c1
  rw [hnm] at c1
  have hD := (h.hD.n b hnm).1
  obtain ⟨w1, hr, hrg, hgr, hsz⟩ := World.ownsMap.range hD K9 und65
  have HG := Lib.hid h
  have HO := Lib.hid ho
  have HRG := Lib.hid hrg
  have HB1 := Lib.hid (show Below w.heap.size w w1 from ⟨hgr.os, hgr.tape, hgr.output, hgr.size, fun k hk => hgr.block k hk (by simp)⟩)
  have hU : a.used ≤ a.now.length * 1048576 := used_le ho
  have HRI := Lib.hid (rise_ne hD.rises)
  have hall : sumL (fun i => (a.file i).1.length) (Maps.has (a.now.dat g.blk)) a.now = a.used := sumL_all (fun p hp => by
    rw [dat_has]
    unfold Dir.look
    rw [Option.isSome_map, List.find?_isSome]
    exact ⟨p, hp, by simp⟩)
  have HALL := Lib.hid hall
  clear h hnm hD hrg hgr ho hall
  go_enter Tryz.func35, Tryz.ntmps35
  go_wp2
  go_loopw [3, 5] (fun u _ wr => ∃ (n cnt : Nat) (left : Lit → Bool), u = .int .i64 n ∧ wr.ranges Tryz.prog 9 rdP b w.heap.size a.now.length (a.now.dat g.blk) left cnt ∧ Below w.heap.size w wr ∧ n + sumL (fun i => (a.file i).1.length) left a.now = a.used) (fun _ _ wr => wr.rangeLeft b w.heap.size)
  case atStart => exact ⟨0, _, _, rfl, HRG.out, HB1.out, by rw [HALL.out]; omega⟩
  case round =>
    obtain ⟨n, cnt, left, rfl, hrg, hb, hsum⟩ := hrel
    have hle := hrg.left_eq
    rcases hrg.next K9 0 with ⟨h0, hno, hnx⟩ | ⟨key, v, kl, y, w2, cnt2, hkey, hleft, hRv, hat, hnx, hrg2, hcnt, hgr2, hsz2, hent⟩
    · have HE := Lib.hid (show n = a.used by rw [sumL_none hno] at hsum; omega)
      have HB := Lib.hid hb
      clear hrg hb hsum hno hle
      go_wp2
      go_ret
      exact ⟨by rw [HE.out]; rfl, HB.out⟩
    · obtain ⟨x, rfl, rfl, hxl⟩ := Go.Maps.keyOf_str Tryz.underlying9 hkey
      have hhas := Maps.has_true_of_atKey hat
      rw [dat_has] at hhas
      obtain ⟨i, hi⟩ := Option.isSome_iff_exists.1 hhas
      have hy := hat .nil
      rw [dat_at, hi] at hy
      have hv : v = bp (g.blk i) := by
        obtain ⟨y1, y2⟩ := y
        simp only at hy
        rw [← hy] at hRv
        exact rdP_held hRv
      subst hv
      have hmem := look_mem hi
      have hix := (HO.out.now _ hmem).2
      have hst := sumL_strike (sz := fun i => (a.file i).1.length) hleft HRI.out hmem
      have hb2 : Below w.heap.size w w2 := hb.grown hgr2 (by have := hb.size; omega) (fun k hk => by cases hk; exact Nat.le_refl _)
      have hG2 := HG.out.below hb2
      have f0 := hG2.f0 hix
      obtain ⟨ad, cap, hbv⟩ := row_form (hG2.hF.r i hix).1
      rw [hbv] at f0
      have hL : (a.files.getD i ([], 0)).1.length = (a.file i).1.length := rfl
      rw [hL] at f0
      have hlen := (HO.out.file i).1
      have HR2 := Lib.hid hrg2
      have HB2 := Lib.hid hb2
      have HS2 := Lib.hid (show n + (a.file i).1.length + sumL (fun i => (a.file i).1.length) (fun z => left z && !z.sameKey (.string x)) a.now = a.used by omega)
      have HC := Lib.hid (show w2.rangeLeft b w.heap.size < wr.rangeLeft b w.heap.size by rw [hle, hrg2.left_eq]; exact hcnt)
      have hn : n + (a.file i).1.length ≤ 1125899906842624 := by omega
      generalize (a.file i).1.length = L at *
      clear hrg hrg2 hb hb2 hsum hst hG2 hbv hL hat hy hRv hhas hi hmem hix hgr2 hsz2 hle hkey hleft
      go_wp2
      go_roundw
      case rel => exact ⟨n + L, _, _, by go_num, HR2.out, HB2.out, HS2.out⟩
      case measure => exact HC.out

theorem used_g {w : World} {g : Gh} {pb : Nat} {a : A} {F : Nat → Prop} (h : FsG w g pb a F) (ho : a.Ok) (htop : a.now.length < 1073741824) :
    Calls Tryz.prog 35 #[bp pb] w fun e w' => e = .returned (.int .i64 (a.used : Int)) ∧ Below w.heap.size w w' := by
  cases hnm : g.nm with
  | none => exact used_none h hnm
  | some b => exact used_some h ho hnm htop
theorem used_any {w : World} {pb : Nat} {a : A} {F : Nat → Prop} (h : FsAt w pb a F) (htop : a.top < 1073741824) :
    Calls Tryz.prog 35 #[bp pb] w fun e w' => e = .returned (.int .i64 (a.used : Int)) ∧ Below w.heap.size w w' := by
  obtain ⟨ho, g, h⟩ := h
  exact used_g h ho (by unfold A.top at htop; omega)
end Go.Proofs.YtadnecgcoceklaaGreatDoor

