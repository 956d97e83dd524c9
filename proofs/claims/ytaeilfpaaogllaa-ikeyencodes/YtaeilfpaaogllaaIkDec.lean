/-
  What version, Decode, DocEncode and DocDecode answer.
-/
import Derived.Test.YtaeilfpaaogllaaIkFrame
namespace Go.Proofs.Ytaeilfpaaogllaa
open Go.RowKit

/-- A version in memory that may be written. -/
structure FrzAt (w : World) (b : Nat) : Prop where
  f0 : w.frozen? ⟨b, 0, none⟩ = false
  f1 : w.frozen? ⟨b, 1, none⟩ = false
  f2 : w.frozen? ⟨b, 2, none⟩ = false
theorem FrzAt.keep {w w' : World} {b : Nat} (h : FrzAt w b) (hlt : b < w.heap.size) (hb : Below w.heap.size w w') : FrzAt w' b :=
  ⟨(hb.frozen (p := ⟨b, 0, none⟩) hlt).trans h.f0, (hb.frozen (p := ⟨b, 1, none⟩) hlt).trans h.f1, (hb.frozen (p := ⟨b, 2, none⟩) hlt).trans h.f2⟩
theorem frzAt_new (w : World) (cs : Array Value) (t : TypeId) : FrzAt (w.alloc (.cells cs t)) w.heap.size := ⟨World.frozen?_alloc_new _ _ _ _, World.frozen?_alloc_new _ _ _ _, World.frozen?_alloc_new _ _ _ _⟩
/-- The version of a key and a mark, or none. -/
def verR (k : ByteArray) (n : Nat) : ByteArray × Int × Int × Int :=
  if okV k ((n / 256 : Nat) : Int) ((n % 256 : Nat) : Int) then (k, ((n / 256 : Nat) : Int), ((n % 256 : Nat) : Int), 0) else (⟨#[]⟩, 0, 0, 2)
def verT (r : ByteArray × Int × Int × Int) : Value := .tuple #[.agg #[.string r.1, .int .i64 r.2.1, .int .i64 r.2.2.1], .int .i64 r.2.2.2]
set_option maxRecDepth 100000 in
set_option maxHeartbeats 800000 in
theorem version_any (w : World) (a : Option Addr) (len cap : Nat) (l : List Nat) (hl : Byt w a l) (hb : ∀ x ∈ l, x < 256) (hnil : a = none → l = []) (hlen : l.length = len) (n : Nat) (hn : n < 18446744073709551616) :
    Calls Try.prog 26 #[.slice a len cap, .int .u64 (n : Int)] w fun e w' => e = .returned (verT (verR (strOf l) n)) ∧ Below w.heap.size w w' := by
  have hcv := fun wx (hx : Below w.heap.size w wx) => conv_bytes (hl.keep hx) hb hnil cap len hlen
  have hc0 := hcv (w.alloc (.cells #[.string ⟨#[]⟩, .int .i64 0, .int .i64 0] 23)) (bel1 _ _)
  have HC : Hid (∀ wx, Calls Try.prog 15 #[.agg #[.string (strOf l), .int .i64 ((n / 256 : Nat) : Int), .int .i64 ((n % 256 : Nat) : Int)]] wx fun e w' => e = .returned (.int .i64 (chkI (strOf l) ((n / 256 : Nat) : Int) ((n % 256 : Nat) : Int))) ∧ Below wx.heap.size wx w') := Lib.hid (check_any _ _ _)
  have e1 : (n : Int) / 256 = ((n / 256 : Nat) : Int) := by omega
  have e2 : (n : Int) % 256 = ((n % 256 : Nat) : Int) := by omega
  have hq : n / 256 ≤ 72057594037927935 := by omega
  have hr : n % 256 < 256 := by omega
  by_cases hok : okV (strOf l) ((n / 256 : Nat) : Int) ((n % 256 : Nat) : Int)
  · have HV : Hid (verR (strOf l) n = (strOf l, ((n / 256 : Nat) : Int), ((n % 256 : Nat) : Int), 0)) := Lib.hid (if_pos hok)
    have hE := chk_yes hok
    rw [hE] at HC
    clear hE hok hcv
    generalize hS : strOf l = S at *
    generalize n / 256 = q at *
    generalize n % 256 = r at *
    go_enter Try.func26, Try.ntmps26
    go_wp2_with fail
    refine (HC.out _).mono ?_
    rintro e w1 ⟨rfl, hb1⟩
    have hR : VerAt w1 w.heap.size ⟨#[]⟩ 0 0 := VerAt.keep ((verAt_new w ⟨#[]⟩ 0 0 23).keep (bel1 _ _)) hb1
    obtain ⟨g0, g1, g2, -⟩ := hR
    obtain ⟨f0, f1, f2⟩ := ((frzAt_new w #[.string ⟨#[]⟩, .int .i64 0, .int .i64 0] 23).keep (by simp) (bel1 _ _)).keep (by simp; omega) hb1
    have hV : VerAt w1 (w.heap.size + 1) S q r := VerAt.keep (by have := verAt_new (w.alloc (.cells #[.string ⟨#[]⟩, .int .i64 0, .int .i64 0] 23)) S q r 23; simpa using this) hb1
    obtain ⟨p0, p1, p2, -⟩ := hV
    have HB : Hid (Below w.heap.size w w1) := Lib.hid ((bel2 _ _ _).trans (hb1.mono (by simp; omega)))
    clear hb1 HC
    go_wp2
    refine bodyPost_ret (v := .tuple #[.agg #[.string S, .int .i64 q, .int .i64 r], .int .i64 0]) (by simp [results, Try.results26, go_sem, g0, g1, g2]) rfl ⟨by rw [HV.out]; rfl, ?_⟩
    exact ((HB.out.setCell (Nat.le_refl _) _).setCell (Nat.le_refl _) _).setCell (Nat.le_refl _) _
  · have HV : Hid (verR (strOf l) n = (⟨#[]⟩, 0, 0, 2)) := Lib.hid (if_neg hok)
    have hE := chk_no hok
    rw [hE] at HC
    clear hE hok hcv
    generalize hS : strOf l = S at *
    generalize n / 256 = q at *
    generalize n % 256 = r at *
    go_enter Try.func26, Try.ntmps26
    go_wp2_with fail
    refine (HC.out _).mono ?_
    rintro e w1 ⟨rfl, hb1⟩
    have hV : VerAt w1 w.heap.size ⟨#[]⟩ 0 0 := VerAt.keep ((verAt_new w ⟨#[]⟩ 0 0 23).keep (bel1 _ _)) hb1
    obtain ⟨p0, p1, p2, -⟩ := hV
    obtain ⟨f0, f1, f2⟩ := ((frzAt_new w #[.string ⟨#[]⟩, .int .i64 0, .int .i64 0] 23).keep (by simp) (bel1 _ _)).keep (by simp; omega) hb1
    have HB : Hid (Below w.heap.size w w1) := Lib.hid ((bel2 _ _ _).trans (hb1.mono (by simp; omega)))
    clear hb1 HC
    go_wp2
    refine bodyPost_ret (v := .tuple #[.agg #[.string ⟨#[]⟩, .int .i64 0, .int .i64 0], .int .i64 2]) (by simp [results, Try.results26, go_sem, p0, p1, p2]) rfl ⟨by rw [HV.out]; rfl, ?_⟩
    exact ((HB.out.setCell (Nat.le_refl _) _).setCell (Nat.le_refl _) _).setCell (Nat.le_refl _) _
end Go.Proofs.Ytaeilfpaaogllaa
