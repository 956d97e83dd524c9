/-
  cutOp for a row of one byte with no room behind it, and for any bytes.
-/
import Derived.Test.YthpcgdgahlcblaaBatD2
namespace Go.Proofs.Ythpcgdgahlcblaa
open Go.RowKit

theorem cutS_nil (most : Nat) : cutS [] most = (⟨#[]⟩, 0, false) := by
  unfold cutS
  rw [if_pos (.inl (by decide))]
set_option maxRecDepth 100000 in
set_option maxHeartbeats 800000 in
theorem cutOp_one (w : World) (b off : Nat) (k z : Nat) (hz : w.heap.size = z) (B : Nat) (hBz : B ≤ z) (hblt : b < z) (hc : w.cell? ⟨b, off, none⟩ = some (.int .u8 (k : Int))) (hkb : k < 256) :
    Calls Try.prog 58 #[.slice (some ⟨b, off, none⟩) 1 1] w fun e w' => ∃ v', e = .returned (.tuple #[(cutOpS [k]).1.v, v', .bool (cutOpS [k]).2.2]) ∧ Rw B w' v' (([k] : List Nat).drop (cutOpS [k]).2.1) ∧ Below z w w' := by
  have hcw : ∀ o, (w.alloc o).cell? ⟨b, off, none⟩ = some (.int .u8 (k : Int)) := fun o => ((below_alloc (Nat.le_refl _) o).cell (p := ⟨b, off, none⟩) (hz ▸ hblt)).trans hc
  have hV : cutOpS [k] = (⟨(k : Int), ⟨#[]⟩, ⟨#[]⟩⟩, 1, false) := by
    simp [cutOpS, cutS_nil]
  have HT := Lib.hid (fun wx => cutText_rw B wx (.slice (some ⟨b, off, none⟩) 0 0) [] ⟨_, 0, rfl, .inl rfl, Nat.le_refl _, fun h => by cases h⟩ (by simp) (by simp) 64 (by omega) 64 rfl)
  rw [cutS_nil] at HT
  rw [hV]
  clear hV hc
  go_enter Try.func58, Try.ntmps58
  go_wp2_with fail
  have HB0 : Below z w (w.alloc (.cells #[.int .i64 0, .string ⟨#[]⟩, .string ⟨#[]⟩] 48)) := hz ▸ below_alloc (Nat.le_refl _) _
  have HQ := HT.out (w.alloc (.cells #[.int .i64 0, .string ⟨#[]⟩, .string ⟨#[]⟩] 48))
  refine HQ.mono ?_
  rintro e W2 ⟨v1, rfl, hr1, q, hq⟩
  have hrow : W2.heap[z]? = some (.cells #[.int .i64 0, .string ⟨#[]⟩, .string ⟨#[]⟩] 48 (0, 0)) := by
    rw [hq, ← hz]; exact heap_alloc_new w _
  have hb1 : Below z w W2 := by rw [hq]; exact HB0.trans (below_drewN _ _ _)
  obtain ⟨A1, A2, W3, ha1, ha2, ha3, c0, f0, c1, f1, c2, f2, d0, d1, d2, hb3⟩ := set3 hrow (.int .i64 (k : Int)) (.string ⟨#[]⟩) (.string ⟨#[]⟩)
  have HF := Lib.hid (hr1.keep (hb3.mono hBz))
  have HB := Lib.hid (hb1.trans hb3)
  clear HT HQ hcw hrow hr1 hb1 hb3 HB0 hq
  go_wp2_with fail
  refine bodyPost_ret (v := .tuple #[(⟨(k : Int), ⟨#[]⟩, ⟨#[]⟩⟩ : OpV).v, v1, .bool false]) (by simp [results, Try.results58, go_sem, OpV.v, d0, d1, d2]) rfl ⟨v1, rfl, ?_, HB.out⟩
  exact HF.out
/-- What cutOp answers, for any bytes. -/
theorem cutOp_any (B z : Nat) (w : World) (v : Value) (l : List Nat) (hz : w.heap.size = z) (hBz : B ≤ z) (hr : Rw B w v l) (hb : ∀ x ∈ l, x < 256) (hm : l.length ≤ 9223372036854775807) :
    Calls Try.prog 58 #[v] w fun e w' => ∃ v', e = .returned (.tuple #[(cutOpS l).1.v, v', .bool (cutOpS l).2.2]) ∧ Rw B w' v' (l.drop (cutOpS l).2.1) ∧ Below z w w' := by
  obtain ⟨a, cap, rfl, h1, h2, h3⟩ := hr
  cases l with
  | nil =>
    refine (cutOp_nil w a cap).mono ?_
    rintro e w' ⟨rfl, hb'⟩
    exact ⟨_, rfl, rw_nil _ _, hz ▸ hb'⟩
  | cons k r =>
    by_cases hc1 : cap = 1
    · subst hc1
      have hr0 : r = [] := by
        cases r with
        | nil => rfl
        | cons x y => simp at h2
      subst hr0
      rcases h1 with h | ⟨b, off, rfl, hlt, _, hc⟩
      · cases h
      · exact cutOp_one w b off k z hz B hBz (by omega) (hc 0 (by simp)) (hb k (by simp))
    · exact cutOp_cons w a cap k r z hz B hBz h1 h2 h3 hb hm hc1
end Go.Proofs.Ythpcgdgahlcblaa
