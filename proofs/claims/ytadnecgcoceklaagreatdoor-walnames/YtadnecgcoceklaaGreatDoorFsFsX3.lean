/-
  files() of the laws: a synced file with a synced name stays, the rest is cut.
-/
import Derived.Test.YtadnecgcoceklaaGreatDoorFsFsX2
import Derived.Lib.SlBytesConst
namespace Go.Proofs.YtadnecgcoceklaaGreatDoor
open Go.RowKit Go.Maps

/-- Bytes that were laid anew are appended. -/
theorem fx_append_in {G : Nat → Prop} {w w2 : World} {pb : Nat} {a : A} (h : Fx G w pb a) (s : ByteArray) (ht : a.top < 1073741824) (hb : Below w.heap.size w w2) {bb off m c : Nat} {l : List Nat} (hl : Byt w2 (some ⟨bb, off, none⟩) l) (hbb : w.heap.size ≤ bb ∧ bb < w2.heap.size) (hm : l.length = m) (hx : ∀ x ∈ l, x < 256) (hmx : m ≤ 140737488351232) :
    Calls Tryz.prog 48 #[bp pb, .string s, .slice (some ⟨bb, off, none⟩) m c] w2 fun e w' => e = .returned (.int .i64 (a.append s.data.toList l).1) ∧ Fx G w' pb (a.append s.data.toList l).2 ∧ Stay G w w' := by
  refine (fx_append (h.grown hb) s ht hl hm hx (.inr hbb) hmx).mono ?_
  rintro e w' ⟨he, h1, h2⟩
  exact ⟨he, h1.mono (fun k hk => .inl hk), (Stay.of_below hb).trans (h2.mono (fun k hk => .inl hk))⟩
theorem byt_build (w : World) (l : List Nat) (mk : Nat × Nat) : Byt (w.alloc (.cells (u8s l).toArray 5 mk)) (some ⟨w.heap.size, 0, none⟩) l := by
  refine .inr ⟨w.heap.size, 0, rfl, by simp, fun i hi => ?_⟩
  rw [Nat.zero_add, cell_of_row _ _ _ _ _ _ (heap_alloc_new w _)]
  simp [u8s, hi]
theorem strs_build (w : World) (l : List ByteArray) : StrsAt (w.alloc (.cells (l.map Value.string).toArray 9)) (some ⟨w.heap.size, 0, none⟩) l := by
  refine .inr ⟨w.heap.size, 0, rfl, by simp, fun i hi => ?_⟩
  rw [Nat.zero_add, cell_of_row _ _ _ _ _ _ (heap_alloc_new w _)]
  simp [hi]
theorem fx_append_new {G : Nat → Prop} {w : World} {pb : Nat} {a : A} (h : Fx G w pb a) (s : ByteArray) (ht : a.top < 1073741824) (l : List Nat) {m c : Nat} (hm : l.length = m) (hx : ∀ x ∈ l, x < 256) (hmx : m ≤ 140737488351232) {o : Obj} (mk : Nat × Nat) (ho : o = .cells (u8s l).toArray 5 mk) :
    Calls Tryz.prog 48 #[bp pb, .string s, .slice (some ⟨w.heap.size, 0, none⟩) m c] (w.alloc o) fun e w' => e = .returned (.int .i64 (a.append s.data.toList l).1) ∧ Fx G w' pb (a.append s.data.toList l).2 ∧ Stay G w w' := by
  subst ho
  exact fx_append_in h s ht (bel1 w _) (byt_build w l mk) ⟨Nat.le_refl _, by simp⟩ hm hx hmx

theorem fxR {G : Nat → Prop} {f : FuncId} {args : Array Value} {w W : World} {pb : Nat} {r : Int × A} {z : Int} {a' : A} (h : Calls Tryz.prog f args W (FxAns G w pb r)) (h1 : r.1 = z) (h2 : r.2 = a') :
    Calls Tryz.prog f args W fun e w' => e = .returned (.int .i64 z) ∧ Fx G w' pb a' ∧ Stay G w w' := by
  refine h.mono ?_
  rintro e w' ⟨he, h3, h4⟩
  exact ⟨by rw [← h1]; exact he, by rw [← h2]; exact h3, h4⟩
theorem fxRd {G : Nat → Prop} {f : FuncId} {args : Array Value} {w W : World} {pb : Nat} {a : A} {l l' : List Nat} {E E' : Int} (h : Calls Tryz.prog f args W (FxRead G w pb a l E)) (h1 : l = l') (h2 : E = E') : Calls Tryz.prog f args W (FxRead G w pb a l' E') := by
  subst h1; subst h2; exact h
def nA : ByteArray := ⟨#[97]⟩
def f1 : A := ((A.new 1000).create [97]).2
def f2 : A := (f1.append [97] [120, 121]).2
def f3 : A := (f2.sync [97]).2
def f4 : A := f3.syncDir.2
def f5 : A := (f4.append [97] [122]).2
def f6 : A := (f5.create [98]).2
def f7 : A := f6.crash []
theorem ev1 : ((A.new 1000).create [97]).1 = 0 ∧ f1.top = 1 := by decide +kernel
theorem ev2 : (f1.append [97] [120, 121]).1 = 0 ∧ f2.top = 1 := by decide +kernel
theorem ev3 : (f2.sync [97]).1 = 0 ∧ f3.top = 1 := by decide +kernel
theorem ev4 : f3.syncDir.1 = 0 ∧ f4.top = 1 := by decide +kernel
theorem ev5 : (f4.append [97] [122]).1 = 0 ∧ f5.top = 1 := by decide +kernel
theorem ev6 : (f5.create [98]).1 = 0 ∧ f6.top = 2 := by decide +kernel
theorem ev7 : f7.top ≤ 2 ∧ f7.read [97] 0 9 = [120, 121] ∧ f7.readE [97] 0 9 = 0 ∧ f7.listE = 0 ∧ f7.list = [[97]] := by decide +kernel

end Go.Proofs.YtadnecgcoceklaaGreatDoor

