/-
  What cutOp answers, for any bytes.
-/
import Derived.Test.YthpcgdgahlcblaaBatD1
namespace Go.Proofs.Ythpcgdgahlcblaa
open Go.RowKit

theorem infoT_op : (Try.prog.info? 48).map (·.size) = some 3 := by kernel_rfl
/-- A row of bytes in blocks below B. -/
def Rw (B : Nat) (w : World) (v : Value) (l : List Nat) : Prop := ∃ a cap, v = .slice a l.length cap ∧ BytB B w a l ∧ l.length ≤ cap ∧ (a = none → l = [])
theorem Rw.keep {B : Nat} {w w' : World} {v : Value} {l : List Nat} (h : Rw B w v l) (hb : Below B w w') : Rw B w' v l := by
  obtain ⟨a, cap, rfl, h1, h2, h3⟩ := h
  exact ⟨a, cap, rfl, h1.keep hb, h2, h3⟩
theorem rw_nil (B : Nat) (w : World) : Rw B w (.slice none 0 0) [] := ⟨none, 0, rfl, .inl rfl, Nat.le_refl _, fun _ => rfl⟩
theorem Rw.part {B : Nat} {w : World} {a : Option Addr} {cap : Nat} {l : List Nat} (h1 : BytB B w a l) (h2 : l.length ≤ cap) (h3 : a = none → l = []) (k : Nat) (hk : k ≤ l.length) : Rw B w (.slice (Ythpcgdgahlcblaa.part a cap k) (l.length - k) (cap - k)) (l.drop k) := by
  refine ⟨Ythpcgdgahlcblaa.part a cap k, cap - k, by rw [List.length_drop], ?_, by rw [List.length_drop]; omega, fun e => ?_⟩
  · have := h1.part cap k l.length h2 hk (Nat.le_refl _)
    rwa [List.take_length] at this
  · rw [h3 (part_none e)]; simp
theorem cutText_rw (B : Nat) (w : World) (v : Value) (l : List Nat) (hr : Rw B w v l) (hb : ∀ x ∈ l, x < 256) (hm : l.length ≤ 9223372036854775807) (most : Nat) (hmo : most ≤ 100000) (z : Int) (hz : z = most) :
    Calls Try.prog 71 #[v, .int .i64 z] w fun e w' => ∃ v', e = .returned (.tuple #[.string (cutS l most).1, v', .bool (cutS l most).2.2]) ∧ Rw B w' v' (l.drop (cutS l most).2.1) ∧ ∃ q, w' = w.drewN q := by
  subst hz
  obtain ⟨a, cap, rfl, h1, h2, h3⟩ := hr
  refine (cutText_any w a l.length cap l h1.byt rfl hb h3 h2 hm most hmo).mono ?_
  rintro e w' ⟨rfl, q, rfl⟩
  refine ⟨_, rfl, ?_, _, rfl⟩
  exact (Rw.part h1 h2 h3 _ (cutS_le hb).1).keep (below_drewN _ _ _)

set_option maxRecDepth 100000 in
set_option maxHeartbeats 800000 in
theorem cutOp_nil (w : World) (a : Option Addr) (cap : Nat) :
    Calls Try.prog 58 #[.slice a 0 cap] w fun e w' => e = .returned (.tuple #[(⟨0, ⟨#[]⟩, ⟨#[]⟩⟩ : OpV).v, .slice none 0 0, .bool false]) ∧ Below w.heap.size w w' := by
  go_enter Try.func58, Try.ntmps58
  go_wp2
  refine bodyPost_ret (v := .tuple #[(⟨0, ⟨#[]⟩, ⟨#[]⟩⟩ : OpV).v, .slice none 0 0, .bool false]) (by simp [results, Try.results58, go_sem, OpV.v]) rfl ⟨rfl, ?_⟩
  exact below_alloc (Nat.le_refl _) _
/-- The three cells of a change of one's own, stored one by one. -/
theorem set3 {W2 : World} {z : Nat} {x0 x1 x2 : Value} (hrow : W2.heap[z]? = some (.cells #[x0, x1, x2] 48 (0, 0))) (y0 y1 y2 : Value) :
    ∃ A1 A2 W3, W2.setCell ⟨z, 0, none⟩ y0 = A1 ∧ A1.setCell ⟨z, 1, none⟩ y1 = A2 ∧ A2.setCell ⟨z, 2, none⟩ y2 = W3 ∧ W2.cell? ⟨z, 0, none⟩ = some x0 ∧ W2.frozen? ⟨z, 0, none⟩ = false ∧ A1.cell? ⟨z, 1, none⟩ = some x1 ∧ A1.frozen? ⟨z, 1, none⟩ = false ∧ A2.cell? ⟨z, 2, none⟩ = some x2 ∧ A2.frozen? ⟨z, 2, none⟩ = false ∧
      W3.cell? ⟨z, 0, none⟩ = some y0 ∧ W3.cell? ⟨z, 1, none⟩ = some y1 ∧ W3.cell? ⟨z, 2, none⟩ = some y2 ∧ Below z W2 W3 := by
  refine ⟨_, _, _, rfl, rfl, rfl, ?_⟩
  have h1 := Go.Joins.block_setCell (i := 0) hrow y0
  have h2 := Go.Joins.block_setCell (i := 1) h1 y1
  have h3 := Go.Joins.block_setCell (i := 2) h2 y2
  exact ⟨by rw [cell_of_row _ _ _ _ _ _ hrow]; rfl, by simp [World.frozen?, hrow], by rw [cell_of_row _ _ _ _ _ _ h1]; rfl, by simp [World.frozen?, h1], by rw [cell_of_row _ _ _ _ _ _ h2]; rfl, by simp [World.frozen?, h2],
    by rw [cell_of_row _ _ _ _ _ _ h3]; rfl, by rw [cell_of_row _ _ _ _ _ _ h3]; rfl, by rw [cell_of_row _ _ _ _ _ _ h3]; rfl, (((Below.refl z W2).setCell (Nat.le_refl _) _).setCell (Nat.le_refl _) _).setCell (Nat.le_refl _) _⟩
set_option maxRecDepth 100000 in
set_option maxHeartbeats 800000 in
theorem cutOp_cons (w : World) (a : Option Addr) (cap : Nat) (k : Nat) (r : List Nat) (z : Nat) (hz : w.heap.size = z) (B : Nat) (hBz : B ≤ z) (h1 : BytB B w a (k :: r)) (h2 : (k :: r).length ≤ cap) (h3 : a = none → (k :: r) = []) (hb : ∀ x ∈ k :: r, x < 256) (hm : (k :: r).length ≤ 9223372036854775807) (hc1 : cap ≠ 1) :
    Calls Try.prog 58 #[.slice a (k :: r).length cap] w fun e w' => ∃ v', e = .returned (.tuple #[(cutOpS (k :: r)).1.v, v', .bool (cutOpS (k :: r)).2.2]) ∧ Rw B w' v' ((k :: r).drop (cutOpS (k :: r)).2.1) ∧ Below z w w' := by
  obtain ⟨b, off, rfl, hblt, hc⟩ : ∃ b off, a = some ⟨b, off, none⟩ ∧ b < w.heap.size ∧ w.cell? ⟨b, off + 0, none⟩ = some (.int .u8 (((k :: r)[0] : Nat) : Int)) := by
    rcases h1 with h | ⟨b, off, rfl, _, hlt, hc⟩
    · cases h
    · exact ⟨b, off, rfl, hlt, hc 0 (by simp)⟩
  have hR := Rw.part h1 h2 h3 1 (by simp)
  have hsl := fun wx => run_part_from0 (w := wx) (a := some ⟨b, off, none⟩) (k :: r).length cap 1 (by simp) h2
  have hbr : ∀ x ∈ r, x < 256 := fun x hx => hb x (List.mem_cons_of_mem _ hx)
  have hmr : r.length ≤ 9223372036854775807 := by simp at hm; omega
  have hkb : k < 256 := hb k (by simp)
  simp only [List.getElem_cons_zero, Nat.add_zero, List.drop_succ_cons, List.drop_zero] at hc hR
  have hlen : ((k :: r).length : Int) = (r.length : Int) + 1 := by simp
  obtain ⟨n, hn⟩ : ∃ n, (k :: r).length = n := ⟨_, rfl⟩
  rw [hn] at hR hsl hlen ⊢
  have hcw : ∀ o, (w.alloc o).cell? ⟨b, off, none⟩ = some (.int .u8 (k : Int)) := fun o => ((below_alloc (Nat.le_refl _) o).cell (p := ⟨b, off, none⟩) hblt).trans hc
  have hp : Ythpcgdgahlcblaa.part (some ⟨b, off, none⟩ : Option Addr) cap 1 = some ⟨b, off + 1, none⟩ := by unfold Ythpcgdgahlcblaa.part; rw [if_neg hc1]; simp [addr_add]
  rw [hp] at hR hsl
  have hc1' : ¬ (1 = cap) := fun e => hc1 e.symm
  have HT := Lib.hid (fun wx (h : Below z w wx) => cutText_rw B wx _ r (hR.keep (h.mono hBz)) hbr hmr 64 (by omega) 64 rfl)
  have HV : Hid (cutOpS (k :: r) = if (cutS r 64).2.2 = true ∧ k = 1 then (⟨1, (cutS r 64).1, (cutS (r.drop (cutS r 64).2.1) 1000).1⟩, 1 + (cutS r 64).2.1 + (cutS (r.drop (cutS r 64).2.1) 1000).2.1, (cutS (r.drop (cutS r 64).2.1) 1000).2.2) else (⟨(k : Int), (cutS r 64).1, ⟨#[]⟩⟩, 1 + (cutS r 64).2.1, (cutS r 64).2.2)) := Lib.hid rfl
  clear h1 h2 h3 hb hm hc hR hn hp
  obtain ⟨S, hS⟩ : ∃ S, (cutS r 64).1 = S := ⟨_, rfl⟩
  obtain ⟨m, hm⟩ : ∃ m, (cutS r 64).2.1 = m := ⟨_, rfl⟩
  obtain ⟨ok, hok⟩ : ∃ ok, (cutS r 64).2.2 = ok := ⟨_, rfl⟩
  rw [hS, hm, hok] at HV HT
  clear hS hm hok
  by_cases hcase : ok = true ∧ k = 1
  · rw [if_pos hcase] at HV
    rw [HV.out]
    obtain ⟨rfl, rfl⟩ := hcase
    have HU := Lib.hid (fun wx v1 (h : Rw B wx v1 (r.drop m)) => cutText_rw B wx v1 (r.drop m) h (fun x hx => hbr x (List.mem_of_mem_drop hx)) (by rw [List.length_drop]; omega) 1000 (by omega) 1000 rfl)
    clear HV hbr hmr
    obtain ⟨S2, hS⟩ : ∃ S, (cutS (r.drop m) 1000).1 = S := ⟨_, rfl⟩
    obtain ⟨m2, hm⟩ : ∃ mm, (cutS (r.drop m) 1000).2.1 = mm := ⟨_, rfl⟩
    obtain ⟨ok2, hok⟩ : ∃ ok, (cutS (r.drop m) 1000).2.2 = ok := ⟨_, rfl⟩
    rw [hS, hm, hok] at HU ⊢
    clear hS hm hok
    go_enter Try.func58, Try.ntmps58
    go_wp2_with fail
    have HB0 : Below z w (w.alloc (.cells #[.int .i64 0, .string ⟨#[]⟩, .string ⟨#[]⟩] 48)) := hz ▸ below_alloc (Nat.le_refl _) _
    have HQ := HT.out _ HB0
    refine HQ.mono ?_
    rintro e W2 ⟨v1, rfl, hr1, q, hq⟩
    have hrow : W2.heap[z]? = some (.cells #[.int .i64 0, .string ⟨#[]⟩, .string ⟨#[]⟩] 48 (0, 0)) := by
      rw [hq, ← hz]; exact heap_alloc_new w _
    have hb1 : Below z w W2 := by rw [hq]; exact HB0.trans (below_drewN _ _ _)
    have HR1 := Lib.hid hr1
    have HB1 := Lib.hid hb1
    have HW := Lib.hid hrow
    clear HT HQ hsl hcw hrow hr1 hb1 hq HB0
    go_wp2_with fail
    refine (HU.out _ _ HR1.out).mono ?_
    rintro e W4 ⟨v2, rfl, hr2, q2, hq2⟩
    have hrow : W4.heap[z]? = some (.cells #[.int .i64 0, .string ⟨#[]⟩, .string ⟨#[]⟩] 48 (0, 0)) := by
      rw [hq2]; exact HW.out
    obtain ⟨A1, A2, W3, ha1, ha2, ha3, c0, f0, c1, f1, c2, f2, d0, d1, d2, hb3⟩ := set3 hrow (.int .i64 1) (.string S) (.string S2)
    have HF := Lib.hid (hr2.keep (hb3.mono hBz))
    have HB : Hid (Below z w W3) := Lib.hid ((HB1.out.trans (by rw [hq2]; exact below_drewN _ _ _)).trans hb3)
    clear HU hrow hr2 hb3 hq2 HR1 HB1 HW
    go_wp2_with fail
    refine bodyPost_ret (v := .tuple #[(⟨1, S, S2⟩ : OpV).v, v2, .bool ok2]) (by simp [results, Try.results58, go_sem, OpV.v, d0, d1, d2]) rfl ⟨v2, rfl, ?_, HB.out⟩
    have := HF.out
    rw [List.drop_drop] at this
    rw [show 1 + m + m2 = (m + m2) + 1 by omega]
    exact this
  · rw [if_neg hcase] at HV
    rw [HV.out]
    go_enter Try.func58, Try.ntmps58
    go_wp2_with fail
    have HB0 : Below z w (w.alloc (.cells #[.int .i64 0, .string ⟨#[]⟩, .string ⟨#[]⟩] 48)) := hz ▸ below_alloc (Nat.le_refl _) _
    have HQ := HT.out _ HB0
    refine HQ.mono ?_
    rintro e W2 ⟨v1, rfl, hr1, q, hq⟩
    have hrow : W2.heap[z]? = some (.cells #[.int .i64 0, .string ⟨#[]⟩, .string ⟨#[]⟩] 48 (0, 0)) := by
      rw [hq, ← hz]; exact heap_alloc_new w _
    have hb1 : Below z w W2 := by rw [hq]; exact HB0.trans (below_drewN _ _ _)
    obtain ⟨A1, A2, W3, ha1, ha2, ha3, c0, f0, c1, f1, c2, f2, d0, d1, d2, hb3⟩ := set3 hrow (.int .i64 (k : Int)) (.string S) (.string ⟨#[]⟩)
    have HF := Lib.hid (hr1.keep (hb3.mono hBz))
    have HB := Lib.hid (hb1.trans hb3)
    have hk1 : ok = true → ((k : Int) == 1) = false := fun h => by
      rw [beq_eq_false_iff_ne]
      intro h1
      exact hcase ⟨h, by omega⟩
    clear HT HV HQ hsl hcw hrow hr1 hb1 hb3 HB0 hq hcase
    cases ok with
    | false =>
      clear hk1
      go_wp2_with fail
      refine bodyPost_ret (v := .tuple #[(⟨(k : Int), S, ⟨#[]⟩⟩ : OpV).v, v1, .bool false]) (by simp [results, Try.results58, go_sem, OpV.v, d0, d1, d2]) rfl ⟨v1, rfl, ?_, HB.out⟩
      rw [show 1 + m = m + 1 by omega]
      exact HF.out
    | true =>
      have hk2 := hk1 rfl
      clear hk1
      go_wp2_with fail
      refine bodyPost_ret (v := .tuple #[(⟨(k : Int), S, ⟨#[]⟩⟩ : OpV).v, v1, .bool true]) (by simp [results, Try.results58, go_sem, OpV.v, d0, d1, d2]) rfl ⟨v1, rfl, ?_, HB.out⟩
      rw [show 1 + m = m + 1 by omega]
      exact HF.out
end Go.Proofs.Ythpcgdgahlcblaa
