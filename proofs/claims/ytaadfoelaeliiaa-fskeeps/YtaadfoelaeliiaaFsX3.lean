/-
  files() of the laws: a synced file with a synced name stays, the rest is cut.
-/
import Derived.Test.YtaadfoelaeliiaaFsX2
import Derived.Lib.SlBytesConst
namespace Go.Proofs.Ytaadfoelaeliiaa
open Go.RowKit Go.Maps

/-- Bytes that were laid anew are appended. -/
theorem fx_append_in {G : Nat → Prop} {w w2 : World} {pb : Nat} {a : A} (h : Fx G w pb a) (s : ByteArray) (ht : a.top < 1073741824) (hb : Below w.heap.size w w2) {bb off m c : Nat} {l : List Nat} (hl : Byt w2 (some ⟨bb, off, none⟩) l) (hbb : w.heap.size ≤ bb ∧ bb < w2.heap.size) (hm : l.length = m) (hx : ∀ x ∈ l, x < 256) (hmx : m ≤ 140737488351232) :
    Calls Try.prog 24 #[bp pb, .string s, .slice (some ⟨bb, off, none⟩) m c] w2 fun e w' => e = .returned (.int .i64 (a.append s.data.toList l).1) ∧ Fx G w' pb (a.append s.data.toList l).2 ∧ Stay G w w' := by
  refine (fx_append (h.grown hb) s ht hl hm hx (.inr hbb) hmx).mono ?_
  rintro e w' ⟨he, h1, h2⟩
  exact ⟨he, h1.mono (fun k hk => .inl hk), (Stay.of_below hb).trans (h2.mono (fun k hk => .inl hk))⟩
theorem byt_build (w : World) (l : List Nat) (mk : Nat × Nat) : Byt (w.alloc (.cells (u8s l).toArray 5 mk)) (some ⟨w.heap.size, 0, none⟩) l := by
  refine .inr ⟨w.heap.size, 0, rfl, by simp, fun i hi => ?_⟩
  rw [Nat.zero_add, cell_of_row _ _ _ _ _ _ (heap_alloc_new w _)]
  simp [u8s, hi]
theorem strs_build (w : World) (l : List ByteArray) : StrsAt (w.alloc (.cells (l.map Value.string).toArray 9)) (some ⟨w.heap.size, 0, none⟩) l := by
  refine .inr ⟨w.heap.size, 0, rfl, by simp, fun i hi => ?_⟩
  rw [Nat.zero_add, cell_of_row _ _ _ _ _ _ (heap_alloc_new w _)]
  simp [hi]
theorem fx_append_new {G : Nat → Prop} {w : World} {pb : Nat} {a : A} (h : Fx G w pb a) (s : ByteArray) (ht : a.top < 1073741824) (l : List Nat) {m c : Nat} (hm : l.length = m) (hx : ∀ x ∈ l, x < 256) (hmx : m ≤ 140737488351232) {o : Obj} (mk : Nat × Nat) (ho : o = .cells (u8s l).toArray 5 mk) :
    Calls Try.prog 24 #[bp pb, .string s, .slice (some ⟨w.heap.size, 0, none⟩) m c] (w.alloc o) fun e w' => e = .returned (.int .i64 (a.append s.data.toList l).1) ∧ Fx G w' pb (a.append s.data.toList l).2 ∧ Stay G w w' := by
  subst ho
  exact fx_append_in h s ht (bel1 w _) (byt_build w l mk) ⟨Nat.le_refl _, by simp⟩ hm hx hmx

theorem fxR {G : Nat → Prop} {f : FuncId} {args : Array Value} {w W : World} {pb : Nat} {r : Int × A} {z : Int} {a' : A} (h : Calls Try.prog f args W (FxAns G w pb r)) (h1 : r.1 = z) (h2 : r.2 = a') :
    Calls Try.prog f args W fun e w' => e = .returned (.int .i64 z) ∧ Fx G w' pb a' ∧ Stay G w w' := by
  refine h.mono ?_
  rintro e w' ⟨he, h3, h4⟩
  exact ⟨by rw [← h1]; exact he, by rw [← h2]; exact h3, h4⟩
theorem fxRd {G : Nat → Prop} {f : FuncId} {args : Array Value} {w W : World} {pb : Nat} {a : A} {l l' : List Nat} {E E' : Int} (h : Calls Try.prog f args W (FxRead G w pb a l E)) (h1 : l = l') (h2 : E = E') : Calls Try.prog f args W (FxRead G w pb a l' E') := by
  subst h1; subst h2; exact h
def nA : ByteArray := ⟨#[97]⟩
def f1 : A := ((A.new 1000).create [97]).2
def f2 : A := (f1.append [97] [120, 121]).2
def f3 : A := (f2.sync [97]).2
def f4 : A := f3.syncDir.2
def f5 : A := (f4.append [97] [122]).2
def f6 : A := (f5.create [98]).2
def f7 : A := f6.crash []
theorem ev1 : ((A.new 1000).create [97]).1 = 0 ∧ f1.top = 1 := by decide +kernel
theorem ev2 : (f1.append [97] [120, 121]).1 = 0 ∧ f2.top = 1 := by decide +kernel
theorem ev3 : (f2.sync [97]).1 = 0 ∧ f3.top = 1 := by decide +kernel
theorem ev4 : f3.syncDir.1 = 0 ∧ f4.top = 1 := by decide +kernel
theorem ev5 : (f4.append [97] [122]).1 = 0 ∧ f5.top = 1 := by decide +kernel
theorem ev6 : (f5.create [98]).1 = 0 ∧ f6.top = 2 := by decide +kernel
theorem ev7 : f7.top ≤ 2 ∧ f7.read [97] 0 9 = [120, 121] ∧ f7.readE [97] 0 9 = 0 ∧ f7.listE = 0 ∧ f7.list = [[97]] := by decide +kernel

set_option maxRecDepth 100000 in
set_option maxHeartbeats 1000000 in
theorem files_any (w : World) : Calls Try.prog 13 #[] w fun e w' => e = .returned (.bool true) ∧ Below w.heap.size w w' := by
  have HN := Lib.hid (fx_new (G := fun k => k < w.heap.size) w 1000 (by omega) (fun k hk => hk))
  have kc := fun (w : World) (C : Array Value) (n c : Nat) => Lib.run_convert_bytes_const (P := Try.prog) w 49 5 C n c Try.underlying49 Try.underlying5
  go_enter Try.func13, Try.ntmps13
  go_wp2_with fail
  refine HN.out.mono ?_
  rintro e W1 ⟨rfl, h1, b1⟩
  have HS := Lib.hid (show Stay (fun k => k < w.heap.size) w W1 from Stay.of_below b1)
  have HF := Lib.hid h1
  have pl := h1.lt
  clear h1 b1 HN
  have HC := Lib.hid (fxR (a' := f1) (fx_create HF.out nA (by decide)) ev1.1 rfl)
  go_wp2_with fail
  refine HC.out.mono ?_
  rintro e W2 ⟨rfl, hF, hS⟩
  replace HS := Lib.hid (HS.out.trans hS)
  replace HF := Lib.hid hF
  replace pl := hF.lt
  clear hF hS HC
  have HC := Lib.hid (fxR (a' := f2) (fx_append_new (m := 2) (c := 2) HF.out nA (by rw [ev1.2]; decide) [120, 121] rfl (by decide) (by decide) (2, 3) rfl) ev2.1 rfl)
  go_wp2_with fail
  refine HC.out.mono ?_
  rintro e W3 ⟨rfl, hF, hS⟩
  replace HS := Lib.hid (HS.out.trans hS)
  replace HF := Lib.hid hF
  replace pl := hF.lt
  clear hF hS HC
  have HC := Lib.hid (fxR (a' := f3) (fx_sync HF.out nA) ev3.1 rfl)
  go_wp2_with fail
  refine HC.out.mono ?_
  rintro e W4 ⟨rfl, hF, hS⟩
  replace HS := Lib.hid (HS.out.trans hS)
  replace HF := Lib.hid hF
  replace pl := hF.lt
  clear hF hS HC
  have HC := Lib.hid (fxR (a' := f4) (fx_syncDir HF.out) ev4.1 rfl)
  go_wp2_with fail
  refine HC.out.mono ?_
  rintro e W5 ⟨rfl, hF, hS⟩
  replace HS := Lib.hid (HS.out.trans hS)
  replace HF := Lib.hid hF
  replace pl := hF.lt
  clear hF hS HC
  have HC := Lib.hid (fxR (a' := f5) (fx_append_new (m := 1) (c := 1) HF.out nA (by show f4.top < _; rw [ev4.2]; decide) [122] rfl (by decide) (by decide) (1, 2) rfl) ev5.1 rfl)
  go_wp2_with fail
  refine HC.out.mono ?_
  rintro e W6 ⟨rfl, hF, hS⟩
  replace HS := Lib.hid (HS.out.trans hS)
  replace HF := Lib.hid hF
  replace pl := hF.lt
  clear hF hS HC
  have HC := Lib.hid (fxR (a' := f6) (fx_create HF.out ⟨#[98]⟩ (by show f5.top < _; rw [ev5.2]; decide)) ev6.1 rfl)
  go_wp2_with fail
  refine HC.out.mono ?_
  rintro e W7 ⟨rfl, hF, hS⟩
  replace HS := Lib.hid (HS.out.trans hS)
  replace HF := Lib.hid hF
  replace pl := hF.lt
  clear hF hS HC
  have HC := Lib.hid (fx_crash (zs := []) (ad := none) (cap := 0) HF.out (by show f6.top < _; rw [ev6.2]; decide) ⟨.inl rfl, (fun _ _ h => by cases h), by decide⟩ rfl)
  go_wp2_with fail
  refine HC.out.mono ?_
  rintro e W8 ⟨rfl, hF, hS⟩
  replace HS := Lib.hid (HS.out.trans hS)
  replace HF := Lib.hid hF
  replace pl := hF.lt
  clear hF hS HC
  have HR := Lib.hid (fxRd (fx_read HF.out nA 0 9) ev7.2.1 ev7.2.2.1)
  go_wp2_with fail
  refine HR.out.mono ?_
  rintro e W9 ⟨ad, cap, rfl, hby, hnone, hcap, hnew, hbel, hF⟩
  replace HS := Lib.hid (HS.out.trans (Stay.of_below hbel))
  have HL := Lib.hid (fx_list hF (by show f7.top < _; have := ev7.1; omega))
  have HBY := Lib.hid hby
  have HNO := Lib.hid hnone
  have HNW := Lib.hid hnew
  have HW9 := Lib.hid hbel.size
  clear hby hnone hcap hnew hbel hF HR HF pl
  go_wp2_with fail
  refine HL.out.mono ?_
  rintro e W10 ⟨ad2, cap2, he, hst, hcap2, hnew2, hbel2, hF⟩
  obtain rfl : e = .returned (.tuple #[.slice ad2 1 cap2, .int .i64 0]) := by rw [he]; rfl
  have hcv := conv_bytes (HBY.out.keep hbel2) (by decide) HNO.out cap 2 rfl
  have hst2 : StrsAt W10 ad2 [nA] := hst
  have HT := Lib.hid (texts_any (ln := 1) (mn := 1) (c1 := cap2) (c2 := 1) ((Stay.of_below (G := fun _ => True) (bel1 W10 (.cells #[.string nA] 9))).strs hst2 (fun _ _ _ => trivial)) (strs_build W10 [nA]) rfl rfl (by decide))
  have hse : (strOf [120, 121]).toList = [120, 121] := by decide +kernel
  replace HS := Lib.hid (HS.out.trans (Stay.of_below hbel2))
  generalize strOf [120, 121] = sr at *
  clear he hst hcap2 hnew2 hbel2 hF HL hst2
  go_wp2_with fail
  refine HT.out.mono ?_
  rintro e W11 ⟨rfl, n, rfl⟩
  go_wp2
  go_ret
  refine ⟨rfl, ((HS.out.trans (Stay.alloc _ W10 _)).trans (Stay.drewN _ _ n)).below (Nat.le_refl _) (fun k hk => hk)⟩
end Go.Proofs.Ytaadfoelaeliiaa
