/-
  RegionParts: the two pieces.
-/
import Derived.Test.YtaaalfimlpeddaaRegParA
namespace Go.Proofs.Ytaaalfimlpeddaa.regionParts
open Go.RowKit

/-- What is known behind the first piece. -/
structure P1 (w0 wr : World) (pb n : Nat) (S : Ps) (F : Nat → Prop) : Prop where
  st : St w0 wr S F
  pb : S.pb = pb
  sz : S.size = 128
  nn : S.n = 2
  lv : S.live 0 = true
  gn : S.gen 0 = 1
  fl : S.fill 0 = n
  sl : S.sl 0 = [0]
  id : S.idle = some 1
def koOf (n : Nat) : Nat := if n ≤ 64 then n else 128
theorem koOf_ge (n : Nat) (h : n ≤ 128) : n ≤ koOf n ∧ koOf n % 128 + n ≤ 128 ∧ koOf n ≤ 128 := by
  unfold koOf; split
  · omega
  · omega
structure P2 (w0 wr : World) (pb n : Nat) (S : Ps) (F : Nat → Prop) : Prop where
  st : St w0 wr S F
  pb : S.pb = pb
  sz : S.size = 128
  nn : S.n = 2
  lv : S.live 0 = true
  gn : S.gen 0 = 1
  fl : S.fill 0 = koOf n + n
  a0 : S.addr 0 0 = 0
  ak : S.addr 0 (koOf n) = koOf n
  s0 : (S.sl 0).getD 0 0 = 0
  sn : 1 ≤ (S.sl 0).length
theorem one_piece (w : World) (pb bb tb n : Nat) (F : Nat → Prop) {w0 : World} (h : St w0 w ((Ps.new 128 2 pb bb tb).made 0) F) (hn : 1 ≤ n) (hn2 : n ≤ 128) :
    Calls Try.prog 16 #[.pointer (some ⟨pb, 0, none⟩), .int .i64 0, .int .i64 n, .int .i64 1] w fun e w' =>
      e = .returned (.tuple #[Hv 0 1 0 n, .int .i64 0]) ∧ ∃ S F', P1 w0 w' pb n S F' ∧ Moves F w F' w' := by
  generalize hS1d : (Ps.new 128 2 pb bb tb).made 0 = S1 at h
  have q1 : S1.pb = pb := by rw [← hS1d]; rfl
  have q2 : S1.live 0 = true := by rw [← hS1d]; simp [Ps.made]
  have q3 : S1.size = 128 := by rw [← hS1d]; rfl
  have q4 : S1.gen 0 = 1 := by rw [← hS1d]; simp [Ps.made, Ps.new]
  have q5 : S1.sl 0 = [] := by rw [← hS1d]; simp [Ps.made]
  have q6 : S1.n = 2 := by rw [← hS1d]; rfl
  have q8 : ∀ k, S1.tk k = false := fun k => by rw [← hS1d]; rfl
  have q7 : S1.idle = some 0 := idleFrom_is (by rw [q6]; omega) (q8 0) (fun q hq => by omega)
  have hal := h.allocNew (i := 0) (n := n) (al := 1) (by omega) q2 hn (by rw [q3]; exact hn2) rfl (by simp [Ps.fits, q5]) q7
  rw [q4, q5, q1] at hal
  refine hal.mono ?_
  rintro e w' ⟨rfl, v, F', hS, hM⟩
  simp only [List.length_nil, Nat.zero_mul, Nat.zero_add] at hS ⊢
  refine ⟨rfl, _, F', ⟨hS, q1, q3, q6, q2, q4, by simp [Ps.filled], by simp [Ps.filled, Ps.handed, q5], ?_⟩, hM⟩
  exact idleFrom_is (j := 1) (by show 1 < S1.n; omega) (by show (if 1 = 0 then true else S1.tk 1) = false; simp [q8]) (fun q hq => by
    obtain rfl : q = 0 := by omega
    show (if 0 = 0 then true else S1.tk 0) = true
    simp)
theorem two_pieces (w : World) (pb n : Nat) {S : Ps} {F : Nat → Prop} {w0 : World} (h : P1 w0 w pb n S F) (hn : 1 ≤ n) (hn2 : n ≤ 128) :
    Calls Try.prog 16 #[.pointer (some ⟨pb, 0, none⟩), .int .i64 0, .int .i64 n, .int .i64 1] w fun e w' =>
      e = .returned (.tuple #[Hv 0 1 (koOf n : Nat) n, .int .i64 0]) ∧ ∃ S' F', P2 w0 w' pb n S' F' ∧ Moves F w F' w' := by
  by_cases h64 : n ≤ 64
  · have hfr : S.from 0 1 = n := by simp [Ps.from, upTo, h.fl, h.sz]; omega
    have hal := h.st.allocFit (i := 0) (n := n) (al := 1) (by omega) h.lv hn (by rw [h.sz]; exact hn2) rfl (by simp [Ps.fits, hfr, h.sl, h.sz, upTo, h.fl]; omega)
    rw [h.gn, hfr, h.pb] at hal
    have hk : koOf n = n := if_pos h64
    rw [hk]
    refine hal.mono ?_
    rintro e w' ⟨rfl, hS, hM⟩
    refine ⟨rfl, _, F, ⟨hS, h.pb, h.sz, h.nn, h.lv, h.gn, by rw [hk]; simp [Ps.filled], ?_, ?_, ?_, ?_⟩, hM⟩
    · show (S.sl 0).getD (0 / S.size) 0 * S.size + 0 % S.size = 0
      rw [h.sl, h.sz]; simp
    · rw [hk]
      show (S.sl 0).getD (n / S.size) 0 * S.size + n % S.size = n
      rw [h.sl, h.sz, show n / 128 = 0 by omega]; simp; omega
    · show (S.sl 0).getD 0 0 = 0
      rw [h.sl]; rfl
    · show 1 ≤ (S.sl 0).length
      rw [h.sl]; simp
  · have hno : S.fits 0 n 1 = false := by
      simp [Ps.fits, Ps.from, upTo, h.sl, h.sz, h.fl]
      omega
    have hal := h.st.allocNew (i := 0) (n := n) (al := 1) (by omega) h.lv hn (by rw [h.sz]; exact hn2) rfl hno h.id
    rw [h.gn, h.sl, h.sz, h.pb] at hal
    have hk : koOf n = 128 := if_neg h64
    rw [hk]
    refine hal.mono ?_
    rintro e w' ⟨rfl, v, F', hS, hM⟩
    simp only [List.length_cons, List.length_nil, Nat.zero_add, Nat.one_mul] at hS ⊢
    refine ⟨rfl, _, F', ⟨hS, h.pb, h.sz, h.nn, h.lv, h.gn, by rw [hk]; simp [Ps.filled], ?_, ?_, ?_, ?_⟩, hM⟩
    · show ((if 0 = 0 then S.sl 0 ++ [1] else S.sl 0)).getD (0 / S.size) 0 * S.size + 0 % S.size = 0
      rw [h.sl, h.sz]; simp
    · rw [hk]
      show ((if 0 = 0 then S.sl 0 ++ [1] else S.sl 0)).getD (128 / S.size) 0 * S.size + 128 % S.size = 128
      rw [h.sl, h.sz]; simp
    · show ((if 0 = 0 then S.sl 0 ++ [1] else S.sl 0)).getD 0 0 = 0
      rw [h.sl]; simp
    · show 1 ≤ ((if 0 = 0 then S.sl 0 ++ [1] else S.sl 0)).length
      rw [h.sl]; simp
theorem P1.alloc {w0 wr : World} {pb n : Nat} {S : Ps} {F : Nat → Prop} (h : P1 w0 wr pb n S F) (o : Obj) : P1 w0 (wr.alloc o) pb n S F :=
  ⟨h.st.alloc o, h.pb, h.sz, h.nn, h.lv, h.gn, h.fl, h.sl, h.id⟩
theorem P2.pst {w0 wr : World} {pb n A : Nat} {S : Ps} {F : Nat → Prop} (h : P2 w0 wr pb n S F) (hA : HAt wr A 0 1 0 n) (fA : ¬ F A) :
    PSt w0 (wr.alloc (.cells #[.int .i64 0, .int .i64 1, .int .i64 (koOf n : Nat), .int .i64 n] 41)) pb n (koOf n) A wr.heap.size S F :=
  ⟨h.st.alloc _, h.pb, h.sz, h.nn, h.lv, h.gn, h.fl, h.a0, h.ak, h.s0, h.sn, hA.alloc _, HAt.new wr 0 1 _ _, fA, h.st.at_.outNew⟩
end Go.Proofs.Ytaaalfimlpeddaa.regionParts
