/-
  Numbers and Replay, walked.
-/
import Derived.Test.YtadnecgcoceklaaGreatDoorWalW5
import Derived.Test.YtadnecgcoceklaaGreatDoorFrFrW5
namespace Go.Proofs.YtadnecgcoceklaaGreatDoor
open Go.RowKit Go.Maps

def natI (l : List Nat) : List Int := l.map fun n : Nat => (n : Int)
theorem i64s_app (l m : List Int) : i64s (l ++ m) = i64s l ++ i64s m := by simp [i64s]
theorem app_int {w : World} {B n : Nat} {v : Value} {l : List Int} (h : w.ownsRow B 3 1 v n (i64s l)) (hB : B ≤ w.heap.size) (c : Int) (hn : n ≤ 2000000000) :
    ∃ v' w', (Builtin.append_ #[44, 44] 44 #[v, .slice (some ⟨w.heap.size, 0, none⟩) 1 1]).run Tryz.prog (w.alloc (.cells #[.int .i64 c] 3)) = .ok v' w' ∧ w'.ownsRow B 3 1 v' (n + 1) (i64s (l ++ [c])) ∧ Below B w w' := by
  obtain ⟨i0, hi0, hz0, hz1, hz2⟩ := info_parts Tryz.info3
  have hk := own_keep h (bel1 w (.cells #[.int .i64 c] 3))
  obtain ⟨v', w', r1, r2, r3, _, _⟩ := run_append_own_at (P := Tryz.prog) (w.alloc (.cells #[.int .i64 c] 3)) B 44 44 3 i0 (.int .i64 0) 1 8 Tryz.underlying44 hi0 hz0 hz1 hz2 rfl (by decide) v n (i64s l) hk ⟨w.heap.size, 0, none⟩ 1 1 (i64s [c]) rfl (fun j u hu => by
    have hj : j = 0 := by
      rcases Nat.lt_or_ge j 1 with h | h
      · omega
      · rw [List.getElem?_eq_none (by simpa [i64s] using h)] at hu; cases hu
    subst hj
    rw [addr_add, Nat.zero_add, cell_of_row _ _ _ _ _ _ (heap_alloc_new w _)]
    simpa [i64s] using hu) (i64s_one [c]) (by unfold maxLen; omega) (by omega) (by simp; omega)
  refine ⟨v', w', r1, by rw [i64s_app]; exact r2, ⟨r3.os, r3.tape, r3.output, ?_, fun k hk => ?_⟩⟩
  · have := r3.size; simp at this; omega
  · rw [r3.block k (by simp; omega) (fun e => ?_)]
    · exact (bel1 w _).block k (by omega)
    · rcases h.2 with ⟨rfl, _⟩ | ⟨g, cap, cur, rfl, hg, _⟩
      · cases e
      · have : k = g := by simpa [Value.ownBlock] using e
        omega
theorem slice_of_own {w : World} {B n : Nat} {t : TypeId} {v : Value} {xs : List Value} (h : w.ownsRow B t 1 v n xs) (hn : xs.length = n) : ∃ ad cap, v = .slice ad n cap ∧ (ad = none → n = 0 ∧ cap = 0) ∧ n ≤ cap ∧ (∀ b off, ad = some ⟨b, off, none⟩ → B ≤ b ∧ b < w.heap.size ∧ off = 0) ∧ ∀ i x, xs[i]? = some x → ∃ b, ad = some ⟨b, 0, none⟩ ∧ b < w.heap.size ∧ w.cell? ⟨b, i, none⟩ = some x := by
  have hc := fun g hg => World.ownsRow.cells h (g := g) hg
  rcases h.2 with ⟨rfl, h0⟩ | ⟨g, cap, cur, rfl, hB, hg, h1, _⟩
  · subst h0
    refine ⟨none, 0, rfl, fun _ => ⟨rfl, rfl⟩, Nat.le_refl _, (fun b off e => by cases e), fun i x hx => ?_⟩
    rw [List.getElem?_eq_none (by omega)] at hx; cases hx
  · have hl := (Array.getElem?_eq_some_iff.1 hg).1
    refine ⟨some ⟨g, 0, none⟩, cap, rfl, (fun e => by cases e), h1, (fun b off e => by cases e; exact ⟨hB, hl, rfl⟩), fun i x hx => ⟨g, rfl, hl, ?_⟩⟩
    have := hc g rfl i x hx
    rw [addr_add, Nat.zero_add] at this
    exact this
def NumsAns (w : World) (l : List Nat) (E : Int) (e : Ending) (w' : World) : Prop :=
  ∃ ad cap, e = .returned (.tuple #[.slice ad l.length cap, .int .i64 E]) ∧ w'.ownsRow w.heap.size 3 1 (.slice ad l.length cap) l.length (i64s (natI l)) ∧ Below w.heap.size w w'
theorem nums_take {L : List Bs} {i : Nat} {s : Bs} (h : L[i]? = some s) : wNums (L.take (i + 1)) = wNums (L.take i) ++ (match numOf s with | some n => [n] | none => []) := by
  unfold wNums
  rw [List.take_add_one, h, List.filterMap_append]
  congr 1
  show List.filterMap numOf [s] = _
  rw [List.filterMap_cons]
  cases numOf s <;> rfl
theorem list_names {a : A} (h : a.Ok) : ∀ s ∈ a.list, s.length ≤ 24 := by
  intro s hs
  unfold A.list at hs
  split at hs
  · cases hs
  · obtain ⟨p, hp, rfl⟩ := List.mem_map.1 hs
    exact (h.now p hp).1
set_option maxRecDepth 100000 in
set_option maxHeartbeats 2000000 in
theorem Numbers_any {G : Nat → Prop} {w : World} {pb : Nat} {a : A} (h : Fx G w pb a) (hv : VG G w) (ht : a.top < 1073741824) :
    Calls Tryz.prog 31 #[bp pb] w (NumsAns w (wNums a.list) a.listE) := by
  have HLS := Lib.hid (fx_list h ht)
  have HV := Lib.hid hv
  have HNM := Lib.hid (list_names h.ok)
  have hL30 : a.list.length < 1073741824 := by
    unfold A.list; split
    · exact Nat.zero_lt_succ _
    · rw [List.length_map]; have : a.now.length ≤ a.top := Nat.le_max_left _ _; omega
  have hoff : a.listE ≠ 0 → a.list = [] := fun hz => by
    unfold A.listE at hz; unfold A.list
    split at hz
    · rename_i h1; rw [if_pos h1]
    · exact absurd rfl hz
  obtain ⟨L, hL⟩ : ∃ L, a.list = L := ⟨_, rfl⟩
  obtain ⟨E, hE⟩ : ∃ E, a.listE = E := ⟨_, rfl⟩
  rw [hL, hE] at HLS hoff
  rw [hL] at HNM hL30
  rw [hL, hE]
  have HOFF := Lib.hid hoff
  obtain ⟨n, hn⟩ : ∃ n, L.length = n := ⟨_, rfl⟩
  rw [hn] at HLS hL30
  have HLN := Lib.hid hn
  clear h hv ht hL hE hoff hn
  go_enter Tryz.func31, Tryz.ntmps31
  go_wp2_with fail
  refine HLS.out.mono ?_
  rintro e W1 ⟨ad, cap, rfl, hst, hcap, hnew, hbel, _⟩
  have HST := Lib.hid hst
  have HB1 := Lib.hid hbel
  have HV1 := Lib.hid (HV.out.below hbel)
  clear hst hnew hbel HLS
  by_cases hz : E = 0
  · subst hz
    go_wp2_with fail
    go_loopw [6, 21] (fun u6 u21 wr => ∃ (i k : Nat) (ad2 : Option Addr) (cap2 : Nat), u6 = .slice ad2 k cap2 ∧ u21 = .int .i64 i ∧ i ≤ n ∧ k = (wNums (L.take i)).length ∧ wr.ownsRow W1.heap.size 3 1 (.slice ad2 k cap2) k (i64s (natI (wNums (L.take i)))) ∧ Below W1.heap.size W1 wr) (fun _ u21 _ => n - (intOf u21).toNat)
    case atStart => exact ⟨0, 0, none, 0, rfl, rfl, Nat.zero_le _, rfl, World.ownsRow_nil _ _ _ _, Below.refl _ _⟩
    case round =>
      obtain ⟨i, k, ad2, cap2, rfl, rfl, hin, hk, hrow, hb⟩ := hrel
      have HRW := Lib.hid hrow
      have HBR := Lib.hid hb
      have HK := Lib.hid hk
      have hws := hb.size
      clear hrow hb hk
      by_cases hlt : i < n
      · obtain ⟨s, hs⟩ : ∃ s, L[i]? = some s := ⟨_, List.getElem?_eq_getElem (by rw [HLN.out]; exact hlt)⟩
        obtain ⟨b, off, rfl, hc⟩ := HST.out.at (k := i) (by rw [List.length_map, HLN.out]; exact hlt)
        have hsi : (L.map strB)[i]'(by rw [List.length_map, HLN.out]; exact hlt) = strB s := by
          rw [List.getElem_map]; congr 1
          rw [List.getElem?_eq_getElem (by rw [HLN.out]; exact hlt)] at hs; exact Option.some.inj hs
        rw [hsi] at hc
        have hbl := World.block_lt_of_cell? W1 _ hc
        have hcr := (HBR.out.cell (p := ⟨b, off + i, none⟩) hbl).trans hc
        have hblr : b < wr.heap.size := Nat.lt_of_lt_of_le hbl hws
        have HNO := Lib.hid (numberOf_any s wr (HV1.out.below HBR.out).vars (by have := HNM.out s (List.mem_of_getElem? hs); omega))
        have HTK := Lib.hid (nums_take hs)
        have hk30 : k ≤ 2000000000 := by
          rw [HK.out]
          have : (wNums (L.take i)).length ≤ (L.take i).length := List.length_filterMap_le _ _
          rw [List.length_take, HLN.out] at this; omega
        clear hc hsi hbl hs
        go_wp2_with fail
        refine HNO.out.mono ?_
        rintro e W3 ⟨rfl, hb3⟩
        have HB3 := Lib.hid (HBR.out.trans (hb3.mono hws))
        have HR3 := Lib.hid (own_keep HRW.out hb3)
        have hw3 := HB3.out.size
        clear hb3 HNO
        cases hno : numOf s with
        | none =>
          rw [hno] at HTK
          have HT2 := Lib.hid (show wNums (L.take (i + 1)) = wNums (L.take i) by rw [HTK.out]; exact List.append_nil _)
          clear hno HTK
          go_wp2
          go_roundw
          case rel => exact ⟨i + 1, k, ad2, cap2, rfl, by go_num, by omega, by rw [HT2.out]; exact HK.out, by rw [HT2.out]; exact HR3.out, HB3.out⟩
          case measure => simp [intOf]; omega
        | some q =>
          rw [hno] at HTK
          have HT2 := Lib.hid (show wNums (L.take (i + 1)) = wNums (L.take i) ++ [q] from HTK.out)
          obtain ⟨v', w', hrun, hrow', hb'⟩ := app_int HR3.out hw3 (q : Int) hk30
          obtain ⟨ad3, cap3, hv, _⟩ := slice_of_own hrow' (by simp [i64s, natI, HK.out])
          subst hv
          have HRX := Lib.hid hrow'
          have HB4 := Lib.hid (HB3.out.trans hb')
          clear hno HTK hrow' hb'
          go_wp2_with (at_builtin; refine wpList_app_run rfl rfl hrun rfl rfl ?_)
          go_roundw
          case rel => exact ⟨i + 1, k + 1, ad3, cap3, rfl, by go_num, by omega, by rw [HT2.out, List.length_append, ← HK.out]; rfl, by rw [HT2.out]; simpa [natI] using HRX.out, HB4.out⟩
          case measure => simp [intOf]; omega
      · obtain rfl : i = n := by omega
        have HTA := Lib.hid (show L.take i = L by rw [← HLN.out, List.take_length])
        rw [HTA.out] at HRW HK
        go_wp2
        go_ret2
        have hk := HK.out
        subst hk
        exact ⟨ad2, cap2, rfl, own_base HRW.out HB1.out.size, HB1.out.trans (HBR.out.mono HB1.out.size)⟩
  · have hz1 : (E == 0) = false := by simpa using hz
    have HL0 := Lib.hid (HOFF.out hz)
    go_wp2
    go_ret2
    rw [HL0.out]
    exact ⟨none, 0, rfl, World.ownsRow_nil _ _ _ _, HB1.out⟩
end Go.Proofs.YtadnecgcoceklaaGreatDoor
