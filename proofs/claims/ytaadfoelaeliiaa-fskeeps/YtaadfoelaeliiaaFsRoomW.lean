/-
  The law FsRoom, walked.
-/
import Derived.Test.YtaadfoelaeliiaaFsZ1
namespace Go.Proofs.Ytaadfoelaeliiaa
open Go.RowKit Go.Maps

theorem modU (x n : Int) (h0 : 0 < n) (h1 : n < 4611686018427387904) : ∃ R : Nat, (R : Int) < n ∧ wrap64 ((IntKind.u64.wrap x).tmod n) = (R : Int) ∧ IntKind.i64.wrap ((IntKind.u64.wrap x).tmod n) = (R : Int) ∧ (R : Int) = (x % 18446744073709551616) % n := by
  have e : (IntKind.u64.wrap x).tmod n = (x % 18446744073709551616) % n := by
    rw [u64_val, Int.tmod_eq_emod_of_nonneg (by omega)]
  have hr0 := Int.emod_nonneg (x % 18446744073709551616) (show n ≠ 0 by omega)
  have hr1 := Int.emod_lt_of_pos (x % 18446744073709551616) h0
  refine ⟨((x % 18446744073709551616) % n).toNat, by omega, ?_, ?_, by omega⟩
  · rw [e]; unfold wrap64; omega
  · rw [e, IntWalk.i64_in _ (by omega)]; omega
theorem made_u8 (n : Nat) : madeCells #[Value.int .u8 0] n = (u8s (List.replicate n 0)).toArray := by
  apply Array.ext
  · rw [size_madeCells]; simp [u8s]
  · intro i h1 h2
    simp [madeCells, u8s, Nat.mod_one]
theorem make_bytes (n : Nat) (hn : n ≤ 1048576) (w : World) : (Instr.makeSlice 49 (.int .i64 (n : Int)) (.int .i64 (n : Int))).run Try.prog w = .ok (.slice (some ⟨w.heap.size, 0, none⟩) n n) (w.alloc (.cells (u8s (List.replicate n 0)).toArray 5)) := by
  rw [← made_u8]
  exact run_make_row' (P := Try.prog) 49 5 (.int .u8 0) 1 Try.underlying49 Try.info5 rfl .i64 .i64 n (by omega) (by omega) w
theorem zeros_byte (n : Nat) : ∀ x ∈ List.replicate n 0, x < 256 := fun x hx => by rw [(List.mem_replicate.1 hx).2]; decide
def nB : ByteArray := ⟨#[98]⟩
/-- Noughts are appended. -/
theorem fx_zeros {G : Nat → Prop} {w : World} {pb : Nat} {a : A} (h : Fx G w pb a) (s : ByteArray) (ht : a.top < 1073741824) {n : Nat} (hn : n ≤ 1048576) :
    Calls Try.prog 24 #[bp pb, .string s, .slice (some ⟨w.heap.size, 0, none⟩) n n] (w.alloc (.cells (u8s (List.replicate n 0)).toArray 5)) (FxAns G w pb (a.append s.data.toList (List.replicate n 0))) :=
  fx_append_new h s ht (List.replicate n 0) (by simp) (zeros_byte n) (by omega) (0, 0) rfl
theorem IsRow.at {w : World} {a : Option Addr} {len cap : Nat} {zs : List Int} (h : IsRow .i64 w a len cap zs) {i : Nat} (hi : i < len) : ∃ b off, a = some ⟨b, off, none⟩ ∧ b < w.heap.size ∧ w.cell? ⟨b, off + i, none⟩ = some (.int .i64 (zs.getD i 0)) := by
  rcases h with ⟨_, rfl, _⟩ | ⟨x, rfl, h1, h2, h3, h4, h5⟩
  · omega
  · have hc1 := h4 0 (by omega)
    have hx : x.add 0 = x := by simp [Addr.add]
    rw [hx] at hc1
    have hc0 := h4 i (by omega)
    obtain ⟨b, off, spot⟩ := x
    have hsp : spot = none := by
      cases spot with
      | none => rfl
      | some s => simp [World.cell?] at hc1; split at hc1 <;> simp at hc1
    subst hsp
    rw [addr_add] at hc0
    exact ⟨b, off, rfl, World.block_lt_of_cell? w _ hc0, hc0⟩
theorem fxU {G : Nat → Prop} {f : FuncId} {args : Array Value} {w W : World} {pb m : Nat} {z : Int} {a : A} (h : Calls Try.prog f args W fun e w' => e = .returned (.int .i64 (m : Int)) ∧ Fx G w' pb a ∧ Below w.heap.size w w') (h1 : (m : Int) = z) :
    Calls Try.prog f args W fun e w' => e = .returned (.int .i64 z) ∧ Fx G w' pb a ∧ Stay G w w' := by
  refine h.mono ?_
  rintro e w' ⟨he, h2, h3⟩
  exact ⟨by rw [← h1]; exact he, h2, Stay.of_below h3⟩
namespace fsRoom

set_option maxRecDepth 100000 in
set_option maxHeartbeats 8000000 in
theorem walk (a0 : Int) (a1 : Option Addr) (len1 cap1 : Nat) (z1 : List Int) (W : World) (_ : (Lit.int .i64 a0).wf = true) (w1 : IsRowI W a1 len1 cap1 z1) :
    Calls Try.prog 8 #[.int .i64 a0, .slice a1 len1 cap1] W fun e w' => e = .returned (.bool true) ∧ Below W.heap.size W w' := by
  obtain ⟨R, hR1, hR2, hR3, -⟩ := modU a0 3000 (by omega) (by omega)
  have hR : R < 3000 := by omega
  have HF0 := Lib.hid (files_any W)
  have HW1 := Lib.hid w1
  clear w1 hR1
  go_enter Try.func8, Try.ntmps8
  go_wp2_with fail
  refine HF0.out.mono ?_
  rintro e W1 ⟨rfl, b1⟩
  have HS := Lib.hid (show Stay (fun k => k < W.heap.size) W W1 from Stay.of_below b1)
  have HN := Lib.hid (fx_new (G := fun k => k < W.heap.size) W1 R (by omega) (fun k hk => Nat.lt_of_lt_of_le hk HS.out.size))
  clear b1 HF0
  go_wp2_with fail
  refine HN.out.mono ?_
  rintro e W2 ⟨rfl, h1, b1⟩
  replace HS := Lib.hid (HS.out.trans (Stay.of_below b1))
  have HF := Lib.hid h1
  have pl := h1.lt
  clear h1 b1 HN
  obtain ⟨s1, s2, e1, e2, hT, ht1, ht2⟩ := two_new R
  have HE1 := Lib.hid e1
  have HE2 := Lib.hid e2
  have HT := Lib.hid hT
  have HTP := Lib.hid (And.intro ht1 ht2)
  clear e1 e2 hT ht1 ht2
  have HC := Lib.hid (fxQ (fx_create HF.out nA (by show (0 : Nat) < _; omega)) HE1.out)
  go_wp2_with fail
  refine HC.out.mono ?_
  rintro e W3 ⟨rfl, hF, hS⟩
  replace HS := Lib.hid (HS.out.trans hS)
  replace HF := Lib.hid hF
  replace pl := hF.lt
  clear hF hS HC
  have HC := Lib.hid (fxQ (fx_create HF.out nB (by rw [HTP.out.1]; omega)) HE2.out)
  go_wp2_with fail
  refine HC.out.mono ?_
  rintro e W4 ⟨rfl, hF, hS⟩
  replace HS := Lib.hid (HS.out.trans hS)
  replace HF := Lib.hid hF
  replace pl := hF.lt
  clear hF hS HC
  have pbv : ∃ pb, W1.heap.size = pb := ⟨_, rfl⟩
  obtain ⟨pb, hpb⟩ := pbv
  rw [hpb] at HF pl ⊢
  clear hpb
  go_wp2_with fail
  go_loopw [7, 8, 9, 10, 11, 12] (fun u7 u8 u9 _ _ _ wr => ∃ (i x y : Nat) (a : A) (p q : Nat), u7 = .int .i64 x ∧ u8 = .int .i64 y ∧ u9 = .int .i64 i ∧ i ≤ 50 ∧ i ≤ len1 ∧ x + y ≤ R ∧ Fx (fun k => k < W.heap.size) wr pb a ∧ Stay (fun k => k < W.heap.size) W wr ∧ Two a R x y p q ∧ a.top ≤ 2 + 2 * i) (fun _ _ u9 _ _ _ _ => 50 - (intOf u9).toNat)
  case atStart => exact ⟨0, 0, 0, s2, 0, 1, rfl, rfl, rfl, Nat.zero_le _, Nat.zero_le _, by omega, HF.out, HS.out, HT.out, by have := HTP.out.2; omega⟩
  case round =>
    obtain ⟨i, x, y, a, p, q, rfl, rfl, rfl, hi50, hil, hxy, hF, hS, hT, htop⟩ := hrel
    have HFr := Lib.hid hF
    have HSr := Lib.hid hS
    have HTr := Lib.hid hT
    have HTO := Lib.hid htop
    have plr := hF.lt
    clear hF hS hT htop HF HS HT HTP HE1 HE2 pl
    by_cases hin : i < len1
    · by_cases hi2 : i < 50
      · obtain ⟨b, off, hab, _, hcell⟩ := (HW1.out.1.keep (HSr.out.below (Nat.le_refl _) (fun k hk => hk))).at hin
        obtain ⟨N, hN1, hN2, hN3, -⟩ := modU (z1.getD i 0) 900 (by omega) (by omega)
        have hN : N < 900 := by omega
        generalize z1.getD i 0 = zi at *
        have hmk := make_bytes N (by omega)
        subst hab
        clear hN1
        have hx64 : x ≤ 3000 := by omega
        have hy64 : y ≤ 3000 := by omega
        by_cases hpar : i % 2 = 1
        · have dp1 : ((i : Int) % 2 == 1) = true := by simp; omega
          have dp2 : (i : Int) % 2 = 1 := by omega
          by_cases hfit : x + y + N ≤ R
          · obtain ⟨a', ha', hT', htop'⟩ := HTr.out.appB (l := List.replicate N 0) (by simp) hfit (by omega)
            have HAP := Lib.hid ha'
            have HT' := Lib.hid hT'
            have HTO' := Lib.hid (show a'.top ≤ 2 + 2 * i by rw [htop']; exact HTO.out)
            have dfit : decide ((x : Int) + (y : Int) + (N : Int) ≤ (R : Int)) = true := by simp; omega
            have HU := Lib.hid (show (a'.used : Int) = ((x : Int) + (y : Int) + (N : Int)) by rw [hT'.used]; omega)
            clear ha' hT' htop'
            have HF := HFr
            have HS := HSr
            have pl := plr
            have HC := Lib.hid (fxQ (fx_zeros HF.out nB (by have := HTO.out; omega) (by omega)) HAP.out)
            go_wp2_with fail
            refine HC.out.mono ?_
            rintro e W5 ⟨rfl, hF, hS⟩
            replace HS := Lib.hid (HS.out.trans hS)
            replace HF := Lib.hid hF
            replace pl := hF.lt
            clear hF hS HC
            have HC := Lib.hid (fxU (fx_used HF.out (by have := HTO'.out; omega)) HU.out)
            go_wp2_with fail
            refine HC.out.mono ?_
            rintro e W6 ⟨rfl, hF, hS⟩
            replace HS := Lib.hid (HS.out.trans hS)
            replace HF := Lib.hid hF
            replace pl := hF.lt
            clear hF hS HC
            by_cases hren : i % 9 = 8
            · have dr1 : ((i : Int) % 9 == 8) = true := by simp; omega
              have dr2 : (i : Int) % 9 = 8 := by omega
              obtain ⟨r1, r2, p', q', er1, er2, hTr2, hto1, hto2⟩ := HT'.out.ren
              have HR1 := Lib.hid er1
              have HR2 := Lib.hid er2
              have HTr2 := Lib.hid hTr2
              have HTO1 := Lib.hid hto1
              have HTO2 := Lib.hid hto2
              clear er1 er2 hTr2 hto1 hto2
              have HC := Lib.hid (fxQ (fx_rename HF.out nB nA (by have := HTO'.out; omega)) HR1.out)
              go_wp2_with fail
              refine HC.out.mono ?_
              rintro e W7 ⟨rfl, hF, hS⟩
              replace HS := Lib.hid (HS.out.trans hS)
              replace HF := Lib.hid hF
              replace pl := hF.lt
              clear hF hS HC
              have HC := Lib.hid (fxQ (fx_create HF.out nB (by have := HTO'.out; have := HTO1.out; omega)) HR2.out)
              go_wp2_with fail
              refine HC.out.mono ?_
              rintro e W8 ⟨rfl, hF, hS⟩
              replace HS := Lib.hid (HS.out.trans hS)
              replace HF := Lib.hid hF
              replace pl := hF.lt
              clear hF hS HC
              go_wp2
              go_roundw
              case rel => exact ⟨i + 1, (y + N), 0, r2, p', q', by go_num, by go_num, by go_num, by omega, by omega, by omega, HF.out, HS.out, HTr2.out, by have := HTO'.out; have := HTO2.out; omega⟩
              case measure => simp [intOf]; omega
            · have dr1 : ((i : Int) % 9 == 8) = false := by simp; omega
              have dr2 : ¬ ((i : Int) % 9 = 8) := by omega
              go_wp2
              go_roundw
              case rel => exact ⟨i + 1, x, (y + N), _, p, q, by go_num, by go_num, by go_num, by omega, by omega, by omega, HF.out, HS.out, HT'.out, by have := HTO'.out; omega⟩
              case measure => simp [intOf]; omega
          · have HAP := Lib.hid (HTr.out.noB (l := List.replicate N 0) (n := N) (by simp) (by omega) (by omega))
            have dfit : decide ((x : Int) + (y : Int) + (N : Int) ≤ (R : Int)) = false := by simp; omega
            have HU := Lib.hid (show (a.used : Int) = ((x : Int) + (y : Int)) by rw [HTr.out.used]; omega)
            have HT' := HTr
            have HTO' := HTO
            have HF := HFr
            have HS := HSr
            have pl := plr
            have HC := Lib.hid (fxQ (fx_zeros HF.out nB (by have := HTO.out; omega) (by omega)) HAP.out)
            go_wp2_with fail
            refine HC.out.mono ?_
            rintro e W5 ⟨rfl, hF, hS⟩
            replace HS := Lib.hid (HS.out.trans hS)
            replace HF := Lib.hid hF
            replace pl := hF.lt
            clear hF hS HC
            have HC := Lib.hid (fxU (fx_used HF.out (by have := HTO'.out; omega)) HU.out)
            go_wp2_with fail
            refine HC.out.mono ?_
            rintro e W6 ⟨rfl, hF, hS⟩
            replace HS := Lib.hid (HS.out.trans hS)
            replace HF := Lib.hid hF
            replace pl := hF.lt
            clear hF hS HC
            by_cases hren : i % 9 = 8
            · have dr1 : ((i : Int) % 9 == 8) = true := by simp; omega
              have dr2 : (i : Int) % 9 = 8 := by omega
              obtain ⟨r1, r2, p', q', er1, er2, hTr2, hto1, hto2⟩ := HT'.out.ren
              have HR1 := Lib.hid er1
              have HR2 := Lib.hid er2
              have HTr2 := Lib.hid hTr2
              have HTO1 := Lib.hid hto1
              have HTO2 := Lib.hid hto2
              clear er1 er2 hTr2 hto1 hto2
              have HC := Lib.hid (fxQ (fx_rename HF.out nB nA (by have := HTO'.out; omega)) HR1.out)
              go_wp2_with fail
              refine HC.out.mono ?_
              rintro e W7 ⟨rfl, hF, hS⟩
              replace HS := Lib.hid (HS.out.trans hS)
              replace HF := Lib.hid hF
              replace pl := hF.lt
              clear hF hS HC
              have HC := Lib.hid (fxQ (fx_create HF.out nB (by have := HTO'.out; have := HTO1.out; omega)) HR2.out)
              go_wp2_with fail
              refine HC.out.mono ?_
              rintro e W8 ⟨rfl, hF, hS⟩
              replace HS := Lib.hid (HS.out.trans hS)
              replace HF := Lib.hid hF
              replace pl := hF.lt
              clear hF hS HC
              go_wp2
              go_roundw
              case rel => exact ⟨i + 1, y, 0, r2, p', q', by go_num, by go_num, by go_num, by omega, by omega, by omega, HF.out, HS.out, HTr2.out, by have := HTO'.out; have := HTO2.out; omega⟩
              case measure => simp [intOf]; omega
            · have dr1 : ((i : Int) % 9 == 8) = false := by simp; omega
              have dr2 : ¬ ((i : Int) % 9 = 8) := by omega
              go_wp2
              go_roundw
              case rel => exact ⟨i + 1, x, y, _, p, q, by go_num, by go_num, by go_num, by omega, by omega, by omega, HF.out, HS.out, HT'.out, by have := HTO'.out; omega⟩
              case measure => simp [intOf]; omega
        · have dp1 : ((i : Int) % 2 == 1) = false := by simp; omega
          have dp2 : ¬ ((i : Int) % 2 = 1) := by omega
          by_cases hfit : x + y + N ≤ R
          · obtain ⟨a', ha', hT', htop'⟩ := HTr.out.appA (l := List.replicate N 0) (by simp) hfit (by omega)
            have HAP := Lib.hid ha'
            have HT' := Lib.hid hT'
            have HTO' := Lib.hid (show a'.top ≤ 2 + 2 * i by rw [htop']; exact HTO.out)
            have dfit : decide ((x : Int) + (y : Int) + (N : Int) ≤ (R : Int)) = true := by simp; omega
            have HU := Lib.hid (show (a'.used : Int) = ((x : Int) + (y : Int) + (N : Int)) by rw [hT'.used]; omega)
            clear ha' hT' htop'
            have HF := HFr
            have HS := HSr
            have pl := plr
            have HC := Lib.hid (fxQ (fx_zeros HF.out nA (by have := HTO.out; omega) (by omega)) HAP.out)
            go_wp2_with fail
            refine HC.out.mono ?_
            rintro e W5 ⟨rfl, hF, hS⟩
            replace HS := Lib.hid (HS.out.trans hS)
            replace HF := Lib.hid hF
            replace pl := hF.lt
            clear hF hS HC
            have HC := Lib.hid (fxU (fx_used HF.out (by have := HTO'.out; omega)) HU.out)
            go_wp2_with fail
            refine HC.out.mono ?_
            rintro e W6 ⟨rfl, hF, hS⟩
            replace HS := Lib.hid (HS.out.trans hS)
            replace HF := Lib.hid hF
            replace pl := hF.lt
            clear hF hS HC
            by_cases hren : i % 9 = 8
            · have dr1 : ((i : Int) % 9 == 8) = true := by simp; omega
              have dr2 : (i : Int) % 9 = 8 := by omega
              obtain ⟨r1, r2, p', q', er1, er2, hTr2, hto1, hto2⟩ := HT'.out.ren
              have HR1 := Lib.hid er1
              have HR2 := Lib.hid er2
              have HTr2 := Lib.hid hTr2
              have HTO1 := Lib.hid hto1
              have HTO2 := Lib.hid hto2
              clear er1 er2 hTr2 hto1 hto2
              have HC := Lib.hid (fxQ (fx_rename HF.out nB nA (by have := HTO'.out; omega)) HR1.out)
              go_wp2_with fail
              refine HC.out.mono ?_
              rintro e W7 ⟨rfl, hF, hS⟩
              replace HS := Lib.hid (HS.out.trans hS)
              replace HF := Lib.hid hF
              replace pl := hF.lt
              clear hF hS HC
              have HC := Lib.hid (fxQ (fx_create HF.out nB (by have := HTO'.out; have := HTO1.out; omega)) HR2.out)
              go_wp2_with fail
              refine HC.out.mono ?_
              rintro e W8 ⟨rfl, hF, hS⟩
              replace HS := Lib.hid (HS.out.trans hS)
              replace HF := Lib.hid hF
              replace pl := hF.lt
              clear hF hS HC
              go_wp2
              go_roundw
              case rel => exact ⟨i + 1, y, 0, r2, p', q', by go_num, by go_num, by go_num, by omega, by omega, by omega, HF.out, HS.out, HTr2.out, by have := HTO'.out; have := HTO2.out; omega⟩
              case measure => simp [intOf]; omega
            · have dr1 : ((i : Int) % 9 == 8) = false := by simp; omega
              have dr2 : ¬ ((i : Int) % 9 = 8) := by omega
              go_wp2
              go_roundw
              case rel => exact ⟨i + 1, (x + N), y, _, p, q, by go_num, by go_num, by go_num, by omega, by omega, by omega, HF.out, HS.out, HT'.out, by have := HTO'.out; omega⟩
              case measure => simp [intOf]; omega
          · have HAP := Lib.hid (HTr.out.noA (l := List.replicate N 0) (n := N) (by simp) (by omega) (by omega))
            have dfit : decide ((x : Int) + (y : Int) + (N : Int) ≤ (R : Int)) = false := by simp; omega
            have HU := Lib.hid (show (a.used : Int) = ((x : Int) + (y : Int)) by rw [HTr.out.used]; omega)
            have HT' := HTr
            have HTO' := HTO
            have HF := HFr
            have HS := HSr
            have pl := plr
            have HC := Lib.hid (fxQ (fx_zeros HF.out nA (by have := HTO.out; omega) (by omega)) HAP.out)
            go_wp2_with fail
            refine HC.out.mono ?_
            rintro e W5 ⟨rfl, hF, hS⟩
            replace HS := Lib.hid (HS.out.trans hS)
            replace HF := Lib.hid hF
            replace pl := hF.lt
            clear hF hS HC
            have HC := Lib.hid (fxU (fx_used HF.out (by have := HTO'.out; omega)) HU.out)
            go_wp2_with fail
            refine HC.out.mono ?_
            rintro e W6 ⟨rfl, hF, hS⟩
            replace HS := Lib.hid (HS.out.trans hS)
            replace HF := Lib.hid hF
            replace pl := hF.lt
            clear hF hS HC
            by_cases hren : i % 9 = 8
            · have dr1 : ((i : Int) % 9 == 8) = true := by simp; omega
              have dr2 : (i : Int) % 9 = 8 := by omega
              obtain ⟨r1, r2, p', q', er1, er2, hTr2, hto1, hto2⟩ := HT'.out.ren
              have HR1 := Lib.hid er1
              have HR2 := Lib.hid er2
              have HTr2 := Lib.hid hTr2
              have HTO1 := Lib.hid hto1
              have HTO2 := Lib.hid hto2
              clear er1 er2 hTr2 hto1 hto2
              have HC := Lib.hid (fxQ (fx_rename HF.out nB nA (by have := HTO'.out; omega)) HR1.out)
              go_wp2_with fail
              refine HC.out.mono ?_
              rintro e W7 ⟨rfl, hF, hS⟩
              replace HS := Lib.hid (HS.out.trans hS)
              replace HF := Lib.hid hF
              replace pl := hF.lt
              clear hF hS HC
              have HC := Lib.hid (fxQ (fx_create HF.out nB (by have := HTO'.out; have := HTO1.out; omega)) HR2.out)
              go_wp2_with fail
              refine HC.out.mono ?_
              rintro e W8 ⟨rfl, hF, hS⟩
              replace HS := Lib.hid (HS.out.trans hS)
              replace HF := Lib.hid hF
              replace pl := hF.lt
              clear hF hS HC
              go_wp2
              go_roundw
              case rel => exact ⟨i + 1, y, 0, r2, p', q', by go_num, by go_num, by go_num, by omega, by omega, by omega, HF.out, HS.out, HTr2.out, by have := HTO'.out; have := HTO2.out; omega⟩
              case measure => simp [intOf]; omega
            · have dr1 : ((i : Int) % 9 == 8) = false := by simp; omega
              have dr2 : ¬ ((i : Int) % 9 = 8) := by omega
              go_wp2
              go_roundw
              case rel => exact ⟨i + 1, x, y, _, p, q, by go_num, by go_num, by go_num, by omega, by omega, by omega, HF.out, HS.out, HT'.out, by have := HTO'.out; omega⟩
              case measure => simp [intOf]; omega
      · have hy : y ≤ R := by omega
        obtain ⟨d1, ed1, ud1, td1, hl⟩ := HTr.out.rem (by omega) hy
        obtain ⟨d2, ed2, td2, ed3⟩ := hl (List.replicate (R - y) 0) (by simp)
        have HD1 := Lib.hid ed1
        have HD2 := Lib.hid ed2
        have HD3 := Lib.hid ed3
        have HUD := Lib.hid (show (d1.used : Int) = (y : Int) by rw [ud1])
        have HTD := Lib.hid (And.intro td1 td2)
        have hmk := make_bytes (R - y) (by omega)
        have hsub : IntKind.i64.wrap ((R : Int) - (y : Int)) = ((R - y : Nat) : Int) := by rw [IntWalk.i64_in _ (by omega)]; omega
        have hsub2 : wrap64 ((R : Int) - (y : Int)) = ((R - y : Nat) : Int) := by unfold wrap64; omega
        clear ed1 ed2 ed3 ud1 td1 td2 hl
        have HF := HFr
        have HS := HSr
        have pl := plr
        have HC := Lib.hid (fxQ (fx_remove HF.out nA (by have := HTO.out; omega)) HD1.out)
        go_wp2_with fail
        refine HC.out.mono ?_
        rintro e W5 ⟨rfl, hF, hS⟩
        replace HS := Lib.hid (HS.out.trans hS)
        replace HF := Lib.hid hF
        replace pl := hF.lt
        clear hF hS HC
        have HC := Lib.hid (fxU (fx_used HF.out (by have := HTO.out; have := HTD.out.1; omega)) HUD.out)
        go_wp2_with fail
        refine HC.out.mono ?_
        rintro e W6 ⟨rfl, hF, hS⟩
        replace HS := Lib.hid (HS.out.trans hS)
        replace HF := Lib.hid hF
        replace pl := hF.lt
        clear hF hS HC
        have HC := Lib.hid (fxQ (fx_zeros HF.out nB (by have := HTO.out; have := HTD.out.1; omega) (by omega)) HD2.out)
        go_wp2_with fail
        refine HC.out.mono ?_
        rintro e W7 ⟨rfl, hF, hS⟩
        replace HS := Lib.hid (HS.out.trans hS)
        replace HF := Lib.hid hF
        replace pl := hF.lt
        clear hF hS HC
        have HC := Lib.hid (fxR (fx_append_new (m := 1) (c := 1) HF.out nB (by have := HTO.out; have := HTD.out.1; have := HTD.out.2; omega) [1] rfl (by decide) (by decide) (0, 0) rfl) HD3.out rfl)
        go_wp2_with fail
        refine HC.out.mono ?_
        rintro e W8 ⟨rfl, hF, hS⟩
        replace HS := Lib.hid (HS.out.trans hS)
        replace HF := Lib.hid hF
        replace pl := hF.lt
        clear hF hS HC
        go_wp2
        go_ret
        exact ⟨rfl, HS.out.below (Nat.le_refl _) (fun k hk => hk)⟩
    · have hy : y ≤ R := by omega
      obtain ⟨d1, ed1, ud1, td1, hl⟩ := HTr.out.rem (by omega) hy
      obtain ⟨d2, ed2, td2, ed3⟩ := hl (List.replicate (R - y) 0) (by simp)
      have HD1 := Lib.hid ed1
      have HD2 := Lib.hid ed2
      have HD3 := Lib.hid ed3
      have HUD := Lib.hid (show (d1.used : Int) = (y : Int) by rw [ud1])
      have HTD := Lib.hid (And.intro td1 td2)
      have hmk := make_bytes (R - y) (by omega)
      have hsub : IntKind.i64.wrap ((R : Int) - (y : Int)) = ((R - y : Nat) : Int) := by rw [IntWalk.i64_in _ (by omega)]; omega
      have hsub2 : wrap64 ((R : Int) - (y : Int)) = ((R - y : Nat) : Int) := by unfold wrap64; omega
      clear ed1 ed2 ed3 ud1 td1 td2 hl
      have HF := HFr
      have HS := HSr
      have pl := plr
      have HC := Lib.hid (fxQ (fx_remove HF.out nA (by have := HTO.out; omega)) HD1.out)
      go_wp2_with fail
      refine HC.out.mono ?_
      rintro e W5 ⟨rfl, hF, hS⟩
      replace HS := Lib.hid (HS.out.trans hS)
      replace HF := Lib.hid hF
      replace pl := hF.lt
      clear hF hS HC
      have HC := Lib.hid (fxU (fx_used HF.out (by have := HTO.out; have := HTD.out.1; omega)) HUD.out)
      go_wp2_with fail
      refine HC.out.mono ?_
      rintro e W6 ⟨rfl, hF, hS⟩
      replace HS := Lib.hid (HS.out.trans hS)
      replace HF := Lib.hid hF
      replace pl := hF.lt
      clear hF hS HC
      have HC := Lib.hid (fxQ (fx_zeros HF.out nB (by have := HTO.out; have := HTD.out.1; omega) (by omega)) HD2.out)
      go_wp2_with fail
      refine HC.out.mono ?_
      rintro e W7 ⟨rfl, hF, hS⟩
      replace HS := Lib.hid (HS.out.trans hS)
      replace HF := Lib.hid hF
      replace pl := hF.lt
      clear hF hS HC
      have HC := Lib.hid (fxR (fx_append_new (m := 1) (c := 1) HF.out nB (by have := HTO.out; have := HTD.out.1; have := HTD.out.2; omega) [1] rfl (by decide) (by decide) (0, 0) rfl) HD3.out rfl)
      go_wp2_with fail
      refine HC.out.mono ?_
      rintro e W8 ⟨rfl, hF, hS⟩
      replace HS := Lib.hid (HS.out.trans hS)
      replace HF := Lib.hid hF
      replace pl := hF.lt
      clear hF hS HC
      go_wp2
      go_ret
      exact ⟨rfl, HS.out.below (Nat.le_refl _) (fun k hk => hk)⟩
end fsRoom
end Go.Proofs.Ytaadfoelaeliiaa
