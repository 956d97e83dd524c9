/-
  All names, rising (rising, List of package fs).
-/
import Derived.Test.YtadnecgcoceklaaGreatDoorFsFsWD
import Derived.Shelf.SlIter.Nil
import Derived.Shelf.SortM.Plain
import Derived.Shelf.SortM.SortNone
namespace Go.Proofs.YtadnecgcoceklaaGreatDoor
open Go.RowKit Go.Maps Go.Sort Go.Shelf

theorem sortsD (m : Nat) : AnyZ.SortsIn Tryz.prog Tryz.sortedD_ren Fence.wide m :=
  ⟨fun blk off cap ss W hH hblk hsz => callsIn_wide.2 (AnyM.slices_Sort_string Tryz.sortD blk off cap ss W hH hblk hsz),
   fun p cap W => callsIn_wide.2 (AnyM.slices_Sort_string_none Tryz.sortD p cap W)⟩
/-- maps.Keys of names: a function value over a block that holds the map. -/
theorem keys_any (mb : Option Nat) (w : World) : CallsIn Fence.wide 5 Tryz.prog 94 #[.map mb] w fun e w' => e = .returned (.func (.func 109) #[] #[bp w.heap.size]) ∧ w' = w.alloc (.cells #[.map mb] 90) :=
  AnyZ.keys_in Tryz.keysD Fence.wide 5 trivial rfl mb w

theorem rise_le {d : Dir} (h : d.Pairwise fun p q => bytesBefore p.1 q.1 = true) : (d.map (·.1)).Pairwise fun x y => decide (x ≤ y) = true := by
  rw [List.pairwise_map]
  refine h.imp (fun {p q} hb => ?_)
  have key : ∀ (x y : List UInt8), bytesBefore x y = true → x < y := by
    intro x
    induction x with
    | nil => intro y h; cases y with
      | nil => simp [bytesBefore] at h
      | cons b s => simp
    | cons a r ih => intro y h; cases y with
      | nil => simp [bytesBefore] at h
      | cons b s =>
        simp [bytesBefore] at h
        rw [List.cons_lt_cons_iff]
        rcases h with h | ⟨h1, h2⟩
        · exact .inl h
        · exact .inr ⟨h1, ih s h2⟩
  simp only [decide_eq_true_eq]
  exact Std.le_of_lt (key _ _ hb)
theorem sort_rise {d : Dir} (h : d.Pairwise fun p q => bytesBefore p.1 q.1 = true) {ss : List Bs} (hp : ss.Perm (d.map (·.1))) : ss.mergeSort (fun x y => decide (x ≤ y)) = d.map (·.1) := by
  have h1 : (ss.mergeSort (fun x y => decide (x ≤ y))).Perm (d.map (·.1)) := (List.mergeSort_perm ss _).trans hp
  have h2 : (ss.mergeSort (fun x y => decide (x ≤ y))).Pairwise (fun x y => decide (x ≤ y) = true) :=
    List.pairwise_mergeSort (fun a b c hab hbc => by simp only [decide_eq_true_eq] at *; exact Std.le_trans hab hbc) (fun a b => by
      simp only [Bool.or_eq_true, decide_eq_true_eq]; exact Std.le_total) ss
  exact List.Perm.eq_of_pairwise (fun a b _ _ hab hba => by simp only [decide_eq_true_eq] at *; exact Std.le_antisymm hab hba) h2 (rise_le h) h1
theorem sorted_some {w : World} {b : Nat} {blk : Nat → Nat} {d : Dir} (h : DirAt w b blk d) (hl : d.length ≤ 1073741824) :
    CallsIn Fence.wide 5 Tryz.prog 93 #[.func (.func 109) #[] #[bp w.heap.size]] (w.alloc (.cells #[.map (some b)] 90)) fun e w' => ∃ v, e = .returned v ∧
      w'.ownsRow (w.alloc (.cells #[.map (some b)] 90)).heap.size 9 1 v d.length (d.map fun p => .string (strB p.1)) ∧ Below (w.alloc (.cells #[.map (some b)] 90)).heap.size (w.alloc (.cells #[.map (some b)] 90)) w' := by
  have hbl := h.lt
  have hseq : SeqGives Fence.wide 2 Tryz.prog 109 #[bp w.heap.size] encStr (fun ss => ss.Perm (strKeys (d.dat blk))) (Maps.size (d.dat blk)) (w.alloc (.cells #[.map (some b)] 90)) :=
    AnyZ.keys_gives (ρ := Tryz.keysD_ren) { Tryz.keysD with } Fence.wide _ trivial rfl (by omega) w.heap.size b d.length (d.dat blk) _ (by simp) (by simp) (by
      obtain ⟨es, clock, hb, Ft, hs, hD⟩ := h
      exact ⟨es, clock, (Below.heap_alloc _ _ b hbl).trans hb, Ft, hs, hD⟩)
  have hs := AnyZ.sorted_in Tryz.sortedD Fence.wide 5 trivial trivial trivial trivial rfl (by omega) (sortsD _) (enters_of Tryz.func108 (by kernel_rfl) rfl) 109 #[bp w.heap.size] trivial (enters_of Tryz.func109 (by kernel_rfl) rfl) _ _ (by rw [dat_size]; unfold maxLen; omega) (by rw [dat_size]; omega) _ hseq
  refine hs.mono ?_
  rintro e w' ⟨v, ss, rfl, hS, hrow, _, hb⟩
  have hk : strKeys (d.dat blk) = d.map (·.1) := by
    show (d.map fun p => ((Lit.string p.1, DataW.held (blk p.2)) : Lit × DataW Nat)).map (fun p => Go.strOf p.1) = _
    rw [List.map_map]; rfl
  rw [hk] at hS
  have hlen : ss.length = d.length := by rw [hS.length_eq]; simp
  rw [sort_rise h.rises hS, hlen, List.map_map] at hrow
  exact ⟨v, rfl, hrow, hb⟩
theorem sorted_none (w : World) :
    CallsIn Fence.wide 5 Tryz.prog 93 #[.func (.func 109) #[] #[bp w.heap.size]] (w.alloc (.cells #[.map none] 90)) fun e w' => ∃ v, e = .returned v ∧
      w'.ownsRow (w.alloc (.cells #[.map none] 90)).heap.size 9 1 v 0 [] ∧ Below (w.alloc (.cells #[.map none] 90)).heap.size (w.alloc (.cells #[.map none] 90)) w' := by
  have hseq : SeqGives Fence.wide 2 Tryz.prog 109 #[bp w.heap.size] encStr (fun ss : List (List UInt8) => ss = []) 0 (w.alloc (.cells #[.map none] 90)) :=
    AnyZ.keys_gives_nil (ρ := Tryz.keysD_ren) { Tryz.keysD with } Fence.wide _ trivial rfl w.heap.size _ (by simp) (by simp)
  have hs := AnyZ.sorted_in Tryz.sortedD Fence.wide 5 trivial trivial trivial trivial rfl (by omega) (sortsD _) (enters_of Tryz.func108 (by kernel_rfl) rfl) 109 #[bp w.heap.size] trivial (enters_of Tryz.func109 (by kernel_rfl) rfl) _ 0 (Nat.zero_le _) (by omega) _ hseq
  refine hs.mono ?_
  rintro e w' ⟨v, ss, rfl, hS, hrow, _, hb⟩
  subst hS
  change w'.ownsRow _ 9 1 v _ _ at hrow
  exact ⟨v, rfl, by simpa using hrow, hb⟩

/-- A row of one's own lies behind a later place, too. -/
theorem own_base {w : World} {B B' : Nat} {e : TypeId} {v : Value} {n : Nat} {xs : List Value} (h : w.ownsRow B e 1 v n xs) (hB : B' ≤ B) : w.ownsRow B' e 1 v n xs := by
  refine ⟨h.1, ?_⟩
  rcases h.2 with h2 | ⟨g, cap, cur, h1, h2, h3⟩
  · exact .inl h2
  · exact .inr ⟨g, cap, cur, h1, Nat.le_trans hB h2, h3⟩
def StrsP (w : World) (l : List Bs) (v : Value) (w' : World) : Prop := w'.ownsRow w.heap.size 9 1 v l.length (l.map fun x => .string (strB x)) ∧ Below w.heap.size w w'

set_option maxRecDepth 100000 in
set_option maxHeartbeats 1000000 in
theorem rising_some {w : World} {b : Nat} {blk : Nat → Nat} {d : Dir} (h : DirAt w b blk d) (hl : d.length ≤ 1073741824) :
    Calls Tryz.prog 63 #[.map (some b)] w fun e w' => ∃ v, e = .returned v ∧ StrsP w (d.map (·.1)) v w' := by
  refine (callsIn_wide (n := 6)).1 ?_
  have hfK : Fence.wide.fn 94 := trivial
  have hfS : Fence.wide.fn 93 := trivial
  have HS := Lib.hid (sorted_some h hl)
  clear h
  refine callsIn_of_wp Tryz.func63 rfl trivial ?_ rfl
  simp only [Tryz.ntmps63, List.size_toArray, List.length_cons, List.length_nil, Nat.reduceAdd, Nat.reduceSub, Array.replicate_succ, Array.replicate_zero, List.push_toArray, List.append_toArray, List.nil_append, List.cons_append]
  gi_wp2_with (first
    | (gi_at_call 94; refine (keys_any _ _).mono ?_; rintro e w' ⟨rfl, rfl⟩)
    | (gi_at_call 93; refine HS.out.mono ?_; rintro e w' ⟨v, rfl, hrow, hb⟩))
  go_ret
  exact ⟨v, rfl, by rw [List.length_map, List.map_map]; exact own_base hrow (by simp), (bel1 w _).trans (hb.mono (by simp))⟩
set_option maxRecDepth 100000 in
set_option maxHeartbeats 1000000 in
theorem rising_none (w : World) :
    Calls Tryz.prog 63 #[.map none] w fun e w' => ∃ v, e = .returned v ∧ StrsP w [] v w' := by
  refine (callsIn_wide (n := 6)).1 ?_
  have hfK : Fence.wide.fn 94 := trivial
  have hfS : Fence.wide.fn 93 := trivial
  have HS := Lib.hid (sorted_none w)
  refine callsIn_of_wp Tryz.func63 rfl trivial ?_ rfl
  simp only [Tryz.ntmps63, List.size_toArray, List.length_cons, List.length_nil, Nat.reduceAdd, Nat.reduceSub, Array.replicate_succ, Array.replicate_zero, List.push_toArray, List.append_toArray, List.nil_append, List.cons_append]
  gi_wp2_with (first
    | (gi_at_call 94; refine (keys_any _ _).mono ?_; rintro e w' ⟨rfl, rfl⟩)
    | (gi_at_call 93; refine HS.out.mono ?_; rintro e w' ⟨v, rfl, hrow, hb⟩))
  go_ret
  exact ⟨v, rfl, own_base hrow (by simp), (bel1 w _).trans (hb.mono (by simp))⟩
theorem rising_g {w : World} {g : Gh} {pb : Nat} {a : A} {F : Nat → Prop} (h : FsG w g pb a F) (hl : a.now.length ≤ 1073741824) :
    Calls Tryz.prog 63 #[.map g.nm] w fun e w' => ∃ v, e = .returned v ∧ StrsP w (a.now.map (·.1)) v w' := by
  cases hnm : g.nm with
  | none => rw [(h.hD.none_ hnm).1]; exact rising_none w
  | some b => exact rising_some (h.hD.n b hnm).1 hl
end Go.Proofs.YtadnecgcoceklaaGreatDoor

