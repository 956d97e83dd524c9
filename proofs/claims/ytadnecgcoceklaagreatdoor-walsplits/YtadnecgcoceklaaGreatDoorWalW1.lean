/-
  Name, walked; the library's tables as they lie in memory.
-/
import Derived.Test.YtadnecgcoceklaaGreatDoorMB
import Derived.Test.YtadnecgcoceklaaGreatDoorFsFsShelf
namespace Go.Proofs.YtadnecgcoceklaaGreatDoor
open Go.RowKit Go.Maps

/-- What the library reads: its table of powers, its two errors. -/
structure Vars (w : World) : Prop where
  tab : Lib.TabIs Tryz.prog w "internal/strconv.uint64pow10" .u64 Lib.pow10Tab
  syn : ∃ t p, w.var? Tryz.prog "strconv.ErrSyntax" = some #[.iface t p]
  rng : ∃ t p, w.var? Tryz.prog "strconv.ErrRange" = some #[.iface t p]
theorem var_keep {w w' : World} {n : String} {cs : Array Value} (h : w.var? Tryz.prog n = some cs) (hb : ∀ k, k < w.heap.size → w'.heap[k]? = w.heap[k]?) : w'.var? Tryz.prog n = some cs := by
  unfold World.var? at h ⊢
  cases hg : Tryz.prog.globalNamed n with
  | none => rw [hg] at h; cases h
  | some g =>
    rw [hg] at h
    simp only [Option.bind_some] at h ⊢
    have hl : g < w.heap.size := by
      rcases Nat.lt_or_ge g w.heap.size with h1 | h1
      · exact h1
      · rw [Array.getElem?_eq_none h1] at h; cases h
    rw [hb g hl]; exact h
theorem Vars.keep {w w' : World} (h : Vars w) (hb : ∀ k, k < w.heap.size → w'.heap[k]? = w.heap[k]?) : Vars w' :=
  ⟨var_keep h.tab hb, by obtain ⟨t, p, h1⟩ := h.syn; exact ⟨t, p, var_keep h1 hb⟩, by obtain ⟨t, p, h1⟩ := h.rng; exact ⟨t, p, var_keep h1 hb⟩⟩
theorem Vars.below {w w' : World} (h : Vars w) (hb : Below w.heap.size w w') : Vars w' := h.keep fun k hk => hb.block k hk
theorem grow_below (w : World) (k : Nat) (os : Array Obj) : Below w.heap.size w (Sort.grow (w.drewN k) os) :=
  ⟨rfl, rfl, rfl, by show w.heap.size ≤ (w.heap ++ os).size; rw [Array.size_append]; omega, fun b hb => by show (w.heap ++ os)[b]? = _; rw [Array.getElem?_append_left hb]⟩
theorem itoa_any (n : Int) (h0 : -9223372036854775808 ≤ n) (h1 : n ≤ 9223372036854775807) (w : World) (hv : Vars w) :
    Calls Tryz.prog 78 #[.int .i64 n] w fun e w' => e = .returned (.string ⟨(Lib.itoa n).toArray⟩) ∧ Below w.heap.size w w' := by
  refine (Any.strconv_Itoa Tryz.itoaD n h0 h1 w hv.tab).mono ?_
  rintro e w' ⟨rfl, k, os, rfl⟩
  exact ⟨rfl, grow_below w k os⟩
theorem itoa_name {n : Nat} (h2 : n ≤ 999999) : Lib.itoa (1000000 + (n : Int)) = 49 :: (wnm n).take 6 := by
  unfold Lib.itoa
  rw [if_neg (by omega), show (1000000 + (n : Int)).toNat = 1000000 + n by omega, digits_seven (by omega)]
  rfl
theorem name_str (m : Nat) : (⟨(49 :: (wnm m).take 6).toArray⟩ : ByteArray).extract 1 (min 6 (wnm m).length + 1) ++ ⟨#[46, 108, 111, 103]⟩ = strB (wnm m) := by
  apply ByteArray.ext
  rw [ByteArray.data_append, ByteArray.data_extract]
  simp [strB, wnm]
set_option maxRecDepth 100000 in
set_option maxHeartbeats 1000000 in
theorem Name_any (n : Int) (hn : -9223372036854775808 ≤ n ∧ n ≤ 9223372036854775807) (w : World) (hv : Vars w) :
    Calls Tryz.prog 41 #[.int .i64 n] w fun e w' => e = .returned (.string (strB (wName n))) ∧ Below w.heap.size w w' := by
  obtain ⟨hn1, hn2⟩ := hn
  by_cases h1 : n < 1
  · have d1 : decide (n < 1) = true := by simpa using h1
    have hE := Lib.hid (show wName n = [] by unfold wName; rw [if_pos (.inl h1)])
    go_enter Tryz.func41, Tryz.ntmps41
    go_wp2
    go_ret
    exact ⟨by rw [hE.out]; rfl, Below.refl _ _⟩
  · have d1 : decide (n < 1) = false := by simpa using h1
    by_cases h2 : 999999 < n
    · have d2 : decide (999999 < n) = true := by simpa using h2
      have hE := Lib.hid (show wName n = [] by unfold wName; rw [if_pos (.inr h2)])
      go_enter Tryz.func41, Tryz.ntmps41
      go_wp2
      go_ret
      exact ⟨by rw [hE.out]; rfl, Below.refl _ _⟩
    · have d2 : decide (999999 < n) = false := by simpa using h2
      obtain ⟨m, rfl⟩ : ∃ m : Nat, n = m := ⟨n.toNat, by omega⟩
      have hm : m ≤ 999999 := by omega
      have hE := Lib.hid (wName_in (n := m) (by omega) hm)
      have hI := itoa_any (1000000 + (m : Int)) (by omega) (by omega) w hv
      rw [itoa_name hm] at hI
      have HI := Lib.hid hI
      clear hI
      go_enter Tryz.func41, Tryz.ntmps41
      go_wp2_with fail
      refine HI.out.mono ?_
      rintro e w' ⟨rfl, hb⟩
      have HB := Lib.hid hb
      clear hb HI
      go_wp2_with fail
      go_ret
      exact ⟨by rw [hE.out, name_str m]; rfl, HB.out⟩
end Go.Proofs.YtadnecgcoceklaaGreatDoor
