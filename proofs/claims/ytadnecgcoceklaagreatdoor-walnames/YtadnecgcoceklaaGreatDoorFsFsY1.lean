/-
  Picks that are copied; texts as bytes; one file alone, as the laws use it.
-/
import Derived.Test.YtadnecgcoceklaaGreatDoorFsFsX3
namespace Go.Proofs.YtadnecgcoceklaaGreatDoor
open Go.RowKit Go.Maps

theorem Tryz.info3 : (Tryz.prog.info? 3).map (fun i => (i.zero, i.size, i.bytes)) = some (some (.int .i64 0), 1, 8) := by kernel_rfl
def i64s (l : List Int) : List Value := l.map fun n : Int => Value.int .i64 n
theorem i64s_one (l : List Int) : ∀ u ∈ i64s l, u.oneCell' = true := by
  intro u hu; simp only [i64s, List.mem_map] at hu; obtain ⟨n, _, rfl⟩ := hu; rfl
/-- Picks that came in are copied. -/
theorem copy_picks {w : World} {ad : Option Addr} {n cap : Nat} {zs : List Int} (h : IsRow .i64 w ad n cap zs) (hs : cap * 8 ≤ 140737488351232) :
    ∃ ad2 cap2 w2, (Builtin.append_ #[44, 44] 44 #[.slice (some ⟨w.heap.size, 0, none⟩) 0 0, .slice ad n cap]).run Tryz.prog (w.alloc (.cells #[] 3)) = .ok (.slice ad2 n cap2) w2 ∧ Below w.heap.size w w2 ∧ PicksG (fun k => w.heap.size ≤ k ∧ k < w2.heap.size) w2 ad2 (zs.take n) ∧ (zs.take n).length = n := by
  rcases h with ⟨rfl, rfl, rfl, rfl⟩ | ⟨x, rfl, h1, h2, h3, h4, h5⟩
  · refine ⟨some ⟨w.heap.size, 0, none⟩, 0, w.alloc (.cells #[] 3), ?_, bel1 w _, ⟨.inl rfl, fun b off he => ?_, by decide⟩, rfl⟩
    · simp [Builtin.append_, run_underlying Tryz.underlying44, go_sem]
    · cases he; simp
  · obtain ⟨i0, hi0, hz0, hz1, hz2⟩ := info_parts Tryz.info3
    have hown : (w.alloc (.cells #[] 3)).ownsRow w.heap.size 3 1 (.slice (some ⟨w.heap.size, 0, none⟩) 0 0) 0 [] :=
      ⟨rfl, .inr ⟨w.heap.size, 0, #[], rfl, Nat.le_refl _, heap_alloc_new w _, Nat.le_refl _, by unfold maxLen; omega, rfl, rfl⟩⟩
    have hlen : (zs.take n).length = n := by rw [List.length_take]; omega
    have hwl := bel1 w (.cells #[] 3)
    obtain ⟨v', w', r1, r2, r3, _, r5⟩ := run_append_own_at (P := Tryz.prog) (w.alloc (.cells #[] 3)) w.heap.size 44 44 3 i0 (.int .i64 0) 1 8 Tryz.underlying44 hi0 hz0 hz1 hz2 rfl (by decide) (.slice (some ⟨w.heap.size, 0, none⟩) 0 0) 0 [] hown x n cap (i64s (zs.take n)) (by simp [i64s]; omega) (fun j u hu => by
        have hj : j < (zs.take n).length := by
          rcases Nat.lt_or_ge j (zs.take n).length with h | h
          · exact h
          · rw [List.getElem?_eq_none (by simpa [i64s] using h)] at hu; cases hu
        have hj2 : j < zs.length := by omega
        have hc := h4 j hj2
        have hlt := World.block_lt_of_cell? w _ hc
        have hblk : (x.add j).block = x.block := by unfold Addr.add; split <;> rfl
        rw [hwl.cell (p := x.add j) hlt, hc]
        have e : zs.getD j 0 = (zs.take n)[j] := by rw [List.getD_eq_getElem?_getD, List.getElem?_eq_getElem hj2]; simp
        rw [e]
        simp only [i64s, List.getElem?_map, List.getElem?_eq_getElem hj, Option.map_some, Option.some.injEq] at hu
        rw [hu]) (i64s_one _) (by unfold maxLen; omega) (by omega) (by simp)
    rw [Nat.zero_add, List.nil_append] at r2
    have hnew : ∀ k, v'.ownBlock = some k → w.heap.size ≤ k := fun k hk => by
      rcases r5 with e | e
      · rw [e] at hk; cases hk; exact Nat.le_refl _
      · rw [e] at hk; cases hk; simp
    obtain ⟨ad2, cap2, rfl, hc2, hcell⟩ := row_cellB r2
    refine ⟨ad2, cap2, w', r1, ⟨r3.os, r3.tape, r3.output, ?_, fun k hk => ?_⟩, ⟨?_, fun b off he => ?_, by omega⟩, hlen⟩
    · have := r3.size; simp at this; omega
    · rw [r3.block k (by simp; omega) (by simp [Value.ownBlock]; omega)]; exact hwl.block k hk
    · cases hz : zs.take n with
      | nil => exact .inl rfl
      | cons y r =>
        rw [hz] at hcell
        obtain ⟨gb, he, _, hlt, _⟩ := hcell 0 (.int .i64 y) rfl
        refine .inr ⟨gb, 0, he, fun i hi => ?_⟩
        obtain ⟨gb', he', _, _, h5⟩ := hcell i (.int .i64 ((y :: r)[i])) (by
          show (i64s (y :: r))[i]? = _
          unfold i64s
          rw [List.getElem?_map, List.getElem?_eq_getElem hi]; rfl)
        rw [he] at he'; cases he'
        rw [Nat.zero_add]; exact h5
    · subst he
      have hb := hnew b rfl
      rcases r2.2 with ⟨he, _⟩ | ⟨g, cap', cur, he, hB, hg, _⟩
      · cases he
      · cases he; exact ⟨hb, (Array.getElem?_eq_some_iff.1 hg).1⟩
theorem PicksG.mono {G G' : Nat → Prop} {w : World} {ad : Option Addr} {zs : List Int} (h : PicksG G w ad zs) (hG : ∀ k, G k → G' k) : PicksG G' w ad zs := ⟨h.1, fun b off he => hG b (h.2.1 b off he), h.2.2⟩
/-- A crash by picks that were copied. -/
theorem fx_crash_in {G : Nat → Prop} {w w2 : World} {pb : Nat} {a : A} (h : Fx G w pb a) (ht : a.top < 1073741824) (hb : Below w.heap.size w w2) {ad : Option Addr} {cap : Nat} {zs : List Int} (hp : PicksG (fun k => w.heap.size ≤ k ∧ k < w2.heap.size) w2 ad zs) {n : Nat} (hn : zs.length = n) :
    Calls Tryz.prog 26 #[bp pb, .slice ad n cap] w2 fun e w' => e = .returned (.tuple #[]) ∧ Fx G w' pb (a.crash zs) ∧ Stay G w w' := by
  refine (fx_crash (h.grown hb) ht (hp.mono (fun k hk => .inr hk)) hn).mono ?_
  rintro e w' ⟨he, h1, h2⟩
  exact ⟨he, h1.mono (fun k hk => .inl hk), (Stay.of_below hb).trans (h2.mono (fun k hk => .inl hk))⟩
/-- A text's bytes are appended. -/
theorem fx_append_text {G : Nat → Prop} {w : World} {pb : Nat} {a : A} (h : Fx G w pb a) (s : ByteArray) (ht : a.top < 1073741824) (t : ByteArray) (hmx : t.size ≤ 140737488351232) :
    ∃ cap w2, (convert 9 47 (.string t)).run Tryz.prog w = .ok (.slice (some ⟨w.heap.size, 0, none⟩) t.size cap) w2 ∧
      Calls Tryz.prog 48 #[bp pb, .string s, .slice (some ⟨w.heap.size, 0, none⟩) t.size cap] w2 fun e w' => e = .returned (.int .i64 (a.append s.data.toList (natsOf t)).1) ∧ Fx G w' pb (a.append s.data.toList (natsOf t)).2 ∧ Stay G w w' := by
  obtain ⟨cap, w2, hr, hc, hby, hb⟩ := conv_new w t w.heap.size rfl
  refine ⟨cap, w2, hr, fx_append_in h s ht hb hby ⟨Nat.le_refl _, ?_⟩ (natsOf_length t) (natsOf_byte t) hmx⟩
  have h1 := run_bytes_of_string (P := Tryz.prog) w 9 47 5 t Tryz.underlying9 Tryz.underlying47 Tryz.underlying5
  rw [hr] at h1
  injection h1 with _ h1
  rw [h1]; simp
theorem append_ok {a : A} {s : Bs} {l : List Nat} (h0 : a.findE s = 0) (h1 : (a.file (a.idx s)).1.length + l.length ≤ 1048576) (h2 : a.used + l.length ≤ a.room) (h3 : a.off = false) (h4 : a.armed = false) :
    a.append s l = (0, a.setFile (a.idx s) ((a.file (a.idx s)).1 ++ l, (a.file (a.idx s)).2)) := by
  have hE : a.spendE = 0 := by unfold A.spendE; rw [h3, h4]; rfl
  have hS : a.spent = a := by unfold A.spent; rw [h3, h4]; rfl
  unfold A.append A.try
  rw [if_pos h0, if_neg (by omega), if_neg (by omega), if_pos hE, hS]

/-- One file, 'a', alone. -/
def one (l : List Nat) (q : Nat) (wait : List Ch) (last : Dir) : A := ⟨1048576, [([97], 0)], last, wait, false, false, 0, [(l, q)]⟩
theorem one_new : (A.new 1048576).create [97] = (0, one [] 0 [.create [97] 0] []) := rfl
theorem one_used (l : List Nat) (q : Nat) (wt : List Ch) (ls : Dir) : (one l q wt ls).used = l.length := by
  show l.length + 0 = _; omega
theorem one_append {l s : List Nat} {q : Nat} {wt : List Ch} {ls : Dir} (h : l.length + s.length ≤ 1048576) : (one l q wt ls).append [97] s = (0, one (l ++ s) q wt ls) :=
  append_ok rfl h (by rw [one_used]; exact h) rfl rfl
theorem one_sync (l : List Nat) (q : Nat) (wt : List Ch) (ls : Dir) : (one l q wt ls).sync [97] = (0, one l l.length wt ls) := rfl
theorem one_syncDir (l : List Nat) (q : Nat) (wt : List Ch) (ls : Dir) : (one l q wt ls).syncDir = (0, one l q [] [([97], 0)]) := rfl
def cutL (f : Fil) (zs : List Int) : Fil := if f.2 < f.1.length then cutF f (pk zs) else f
theorem one_crash (l : List Nat) (q : Nat) (zs : List Int) : (one l q [] [([97], 0)]).crash zs = one (cutL (l, q) zs.tail).1 (cutL (l, q) zs.tail).2 [] [([97], 0)] := by
  have hN : (one l q [] [([97], 0)]).cutN (pk zs) = one l q [] [([97], 0)] := by
    unfold A.cutN
    show ({ one l q [] [([97], 0)] with now := (([] : List Ch).take _).foldl _ _, last := (([] : List Ch).take _).foldl _ _, wait := [] } : A) = _
    rw [List.take_nil]; rfl
  unfold A.crash
  rw [hN]
  show ({ one l q [] [([97], 0)] with files := cutAll [([97], 0)] [(l, q)] zs.tail, off := false, armed := false, left := 0 } : A) = _
  have : cutAll [([97], 0)] [(l, q)] zs.tail = [cutL (l, q) zs.tail] := by
    unfold cutAll cutL
    show (if q < l.length then _ else _) = [if q < l.length then _ else _]
    split <;> rfl
  rw [this]; rfl
theorem one_read {l : List Nat} {q : Nat} {wt : List Ch} {ls : Dir} (h : l.length ≤ 1048576) : (one l q wt ls).read [97] 0 1048576 = l ∧ (one l q wt ls).readE [97] 0 1048576 = 0 := by
  have h1 := readE_ok (a := one l q wt ls) (s := [97]) (x := 0) (n := 1048576) rfl (by
    show ¬ ((0 : Int) < 0 ∨ (1048576 : Int) < 0 ∨ (l.length : Int) < 0); omega) rfl
  refine ⟨?_, h1.1⟩
  rw [h1.2]
  show (l.drop 0).take 1048576 = l
  rw [List.drop_zero, List.take_of_length_le h]
theorem one_top (l : List Nat) (q : Nat) (wt : List Ch) (ls : Dir) : (one l q wt ls).top = max 1 (ls.length + wt.length) := rfl
/-- What a crash leaves of a file. -/
theorem cutL_spec {s m : List Nat} (zs : List Int) : ∃ b, cutL (s ++ m, s.length) zs = (b, b.length) ∧ s.length ≤ b.length ∧ b.length ≤ (s ++ m).length ∧ b.take s.length = s ∧
    (s.length < b.length → b.take (b.length - 1) = (s ++ m).take (b.length - 1) ∧ (b.getD (b.length - 1) 0 = (s ++ m).getD (b.length - 1) 0 ∨ b.getD (b.length - 1) 0 = (s ++ m).getD (b.length - 1) 0 ^^^ 85)) := by
  unfold cutL
  dsimp only
  split
  · rename_i hlt
    unfold cutF
    dsimp only
    generalize hp : pk zs = p
    have hm : p % ((s ++ m).length - s.length + 1) ≤ (s ++ m).length - s.length := by have := Nat.mod_lt p (show 0 < (s ++ m).length - s.length + 1 by omega); omega
    generalize p % ((s ++ m).length - s.length + 1) = k at hm
    have hL : ((s ++ m).take (s.length + k)).length = s.length + k := by rw [List.length_take]; omega
    have hpre : ((s ++ m).take (s.length + k)).take s.length = s := by
      rw [List.take_take, Nat.min_eq_left (by omega), List.take_left']; rfl
    split
    · rename_i hs
      refine ⟨_, by rw [List.length_set, hL], by rw [List.length_set, hL]; omega, by rw [List.length_set, hL]; omega, ?_, fun _ => ?_⟩
      · rw [List.take_set_of_le (by omega), hpre]
      · rw [List.length_set, hL]
        refine ⟨by rw [List.take_set_of_le (by omega), List.take_take, Nat.min_eq_left (by omega)], .inr ?_⟩
        rw [List.getD_eq_getElem?_getD, List.getElem?_set_self (by omega)]
        show ((s ++ m).take (s.length + k)).getD _ 0 ^^^ 85 = _
        rw [List.getD_eq_getElem?_getD, List.getElem?_take, if_pos (by omega), ← List.getD_eq_getElem?_getD]
    · refine ⟨_, by rw [hL], by rw [hL]; omega, by rw [hL]; omega, hpre, fun _ => ?_⟩
      rw [hL]
      refine ⟨by rw [List.take_take, Nat.min_eq_left (by omega)], .inl ?_⟩
      rw [List.getD_eq_getElem?_getD, List.getElem?_take, if_pos (by omega), ← List.getD_eq_getElem?_getD]
  · rename_i hlt
    have h0 : m = [] := by
      rw [List.length_append] at hlt
      exact List.length_eq_zero_iff.1 (by omega)
    subst h0
    rw [List.append_nil]
    exact ⟨s, rfl, Nat.le_refl _, Nat.le_refl _, List.take_length, fun h => absurd h (Nat.lt_irrefl _)⟩
theorem cutL_same (b : List Nat) (zs : List Int) : cutL (b, b.length) zs = (b, b.length) := if_neg (Nat.lt_irrefl _)
theorem fxQ {G : Nat → Prop} {f : FuncId} {args : Array Value} {w W : World} {pb : Nat} {r : Int × A} {z : Int} {a' : A} (h : Calls Tryz.prog f args W (FxAns G w pb r)) (h1 : r = (z, a')) :
    Calls Tryz.prog f args W fun e w' => e = .returned (.int .i64 z) ∧ Fx G w' pb a' ∧ Stay G w w' := fxR h (by rw [h1]) (by rw [h1])
/-- A beginning of bytes, as a text. -/
theorem conv_begin {w : World} {ad : Option Addr} {b : List Nat} (h : Byt w ad b) (hb : ∀ x ∈ b, x < 256) (hn : ad = none → b = []) (cap k : Nat) (hk : k ≤ b.length) :
    (convert 47 9 (.slice ad k cap)).run Tryz.prog w = .ok (.string (strOf (b.take k))) w := by
  refine conv_bytes (l := b.take k) ?_ (fun x hx => hb x (List.mem_of_mem_take hx)) (fun e => by rw [hn e]; exact List.take_nil) cap k (by rw [List.length_take]; omega)
  rcases h with h | ⟨bb, off, he, hlt, hc⟩
  · left; rw [h]; exact List.take_nil
  · refine .inr ⟨bb, off, he, hlt, fun i hi => ?_⟩
    have hi2 : i < b.length := by rw [List.length_take] at hi; omega
    rw [hc i hi2]; simp
end Go.Proofs.YtadnecgcoceklaaGreatDoor

