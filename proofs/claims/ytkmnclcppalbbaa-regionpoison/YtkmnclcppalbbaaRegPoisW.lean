/-
  RegionPoison answers true, whatever it is asked, and turns nothing that was there: the walk.
-/
import Derived.Test.YtkmnclcppalbbaaRegPoisA
import Derived.Deep.DeepCutAuto
import Derived.Deep.CutBlock
namespace Go.Proofs.Ytkmnclcppalbbaa.regionPoison
open Go.RowKit

/-- Between two rounds: no region is there. -/
structure RInv (S : Ps) (sz m : Nat) : Prop where
  sz : S.size = sz
  n : S.n = 12
  lv : ∀ i, i < 256 → S.live i = false
  g : ∀ i, i < 256 → S.gen i ≤ m
theorem RInv.next {S : Ps} {sz m : Nat} (h : RInv S sz m) : S.next = some 0 := idleFrom_is (by omega) (h.lv 0 (by omega)) (fun q hq => by omega)
theorem RInv.next1 {S : Ps} {sz m : Nat} (h : RInv S sz m) : (S.made 0).next = some 1 := by
  refine idleFrom_is (by omega) (by simp [Ps.made, h.lv 1 (by omega)]) (fun q hq => ?_)
  have : q = 0 := by omega
  subst this; simp [Ps.made]
theorem RInv.g1 {S : Ps} {sz m : Nat} (h : RInv S sz m) : ∀ i, i < 256 → (S.made 0).gen i ≤ m + 1 := fun i hi => by
  have h1 := h.g i hi
  have h0 := h.g 0 (by omega)
  by_cases e0 : i = 0
  · simp [Ps.made, e0]; exact h0
  · simp [Ps.made, e0]; omega
theorem RInv.made {S : Ps} {sz m : Nat} (h : RInv S sz m) : QInv ((S.made 0).made 1) sz (m + 1) := by
  refine ⟨h.sz, h.n, fun i hi => ?_, fun i hi => ?_, fun i hi o h1 h2 => ?_⟩
  · by_cases e1 : i = 1
    · simp [Ps.made, e1]
    · by_cases e0 : i = 0
      · simp [Ps.made, e0]
      · simp [Ps.made, e0, e1, h.lv i hi]; omega
  · have := h.g i hi
    have h0 := h.g 0 (by omega)
    have h1 := h.g 1 (by omega)
    by_cases e1 : i = 1
    · simp [Ps.made, e1]; exact h1
    · by_cases e0 : i = 0
      · simp [Ps.made, e0]; exact h0
      · simp [Ps.made, e0, e1]; omega
  · exfalso
    have : ((S.made 0).made 1).sl i = [] := by
      by_cases e1 : i = 1
      · simp [Ps.made, e1]
      · have e0 : i = 0 := by omega
        simp [Ps.made, e0]
    rw [this] at h2; simp at h2

/-- Both regions are there. -/
def Q2 (w0 : World) (pb sz m : Nat) (wr : World) : Prop := ∃ S F, St w0 wr S F ∧ S.pb = pb ∧ QInv S sz m

/-- What a piece that was just handed out is like. -/
structure Piece (S : Ps) (i o n g : Nat) : Prop where
  g : S.gen i = g
  f : S.fill i = o + n
  r : o % S.size + n ≤ S.size
  z : S.bytesAt (S.addr i o) n = List.replicate n 0

theorem alloc_two {w0 w : World} {S : Ps} {F : Nat → Prop} {sz m i n : Nat} (h : St w0 w S F) (hq : QInv S sz m) (hi : i < 2) (h1 : 1 ≤ n) (h2 : n ≤ sz) :
    (Calls Try.prog 20 #[.pointer (some ⟨S.pb, 0, none⟩), .int .i64 i, .int .i64 n, .int .i64 1] w fun e w' => e = .returned (.tuple #[zeroH, .int .i64 5]) ∧ Grew w w') ∨
    ∃ g o : Nat, Calls Try.prog 20 #[.pointer (some ⟨S.pb, 0, none⟩), .int .i64 i, .int .i64 n, .int .i64 1] w fun e w' => e = .returned (.tuple #[Hv i g o n, .int .i64 0]) ∧ ∃ S' F', St w0 w' S' F' ∧ S'.pb = S.pb ∧ QInv S' sz m ∧ Piece S' i o n g := by
  have hlv : S.live i = true := by rw [hq.lv i (by omega)]; simpa using hi
  have hsz : n ≤ S.size := by rw [hq.sz]; exact h2
  have hs : 0 < S.size := by have := h.ok.s1; omega
  cases hf : S.fits i n 1
  · cases hid : S.idle with
    | none => exact .inl (alloc_full h.at_ h.ok (al := 1) (by omega) hlv h1 hsz rfl hf hid)
    | some j =>
      refine .inr ⟨S.gen i, (S.sl i).length * S.size, (h.allocNew (al := 1) (by omega) hlv h1 hsz rfl hf hid).mono ?_⟩
      rintro e w' ⟨rfl, v, F', h3, _⟩
      have hn := hq.new (v := v) h.ok hi hid hsz
      exact ⟨rfl, _, F', h3, rfl, hn.1, ⟨rfl, by simp [Ps.filled], by show (S.sl i).length * S.size % S.size + n ≤ S.size; rw [Nat.mul_mod_left]; omega, hn.2⟩⟩
  · refine .inr ⟨S.gen i, S.from i 1, (h.allocFit (al := 1) (by omega) hlv h1 hsz rfl hf).mono ?_⟩
    rintro e w' ⟨rfl, h3, _⟩
    have hn := hq.fit h.ok hi hf
    refine ⟨rfl, _, F, h3, rfl, hn.1, ⟨rfl, by simp [Ps.filled], ?_, hn.2⟩⟩
    show S.from i 1 % S.size + n ≤ S.size
    rw [from_one]
    simp only [Ps.fits, Bool.and_eq_true, decide_eq_true_eq] at hf
    simpa [upTo] using hf.2

theorem load_piece {w0 w : World} {S : Ps} {F : Nat → Prop} {sz m i o n g : Nat} (h : St w0 w S F) (hq : QInv S sz m) (hi : i < 2) (hP : Piece S i o n g) (h1 : 1 ≤ n) :
    Calls Try.prog 24 #[.pointer (some ⟨S.pb, 0, none⟩), Hv i g o n] w fun e w' => ∃ v, e = .returned (.tuple #[v, .int .i64 0]) ∧ FreshRow 5 w v (u8s (List.replicate n 0)) w' := by
  have hlv : S.live i = true := by rw [hq.lv i (by omega)]; simpa using hi
  have := load_ok h.at_ h.ok (i := i) (o := o) (l := n) (by omega) hlv h1 (by rw [hP.f]; omega) hP.r
  rw [hP.g, hP.z] at this; exact this
theorem store_piece {w0 w : World} {S : Ps} {F : Nat → Prop} {sz m i o n g : Nat} {v : Value} {bs : List Nat} (h : St w0 w S F) (hq : QInv S sz m) (hi : i < 2) (hP : Piece S i o n g) (h1 : 1 ≤ n)
    (hv : ReadsB w v bs) (hb : ∀ x, x ∈ bs → x < 256) (hl : bs.length = n) :
    Calls Try.prog 26 #[.pointer (some ⟨S.pb, 0, none⟩), Hv i g o n, .int .i64 0, v] w fun e w' => e = .returned (.int .i64 0) ∧ Q2 w0 S.pb sz m w' := by
  have hlv : S.live i = true := by rw [hq.lv i (by omega)]; simpa using hi
  have := h.store (i := i) (o := o) (l := n) (at_ := 0) (by omega) hlv h1 (by rw [hP.f]; omega) hP.r hv hb (by omega)
  rw [hP.g] at this
  refine this.mono ?_
  rintro e w' ⟨rfl, h2, _⟩
  exact ⟨rfl, _, F, h2, rfl, hq.store h.ok hi hl (by rw [hP.f]; omega) hP.r⟩

theorem add_at (b o j : Nat) : (⟨b, o, none⟩ : Addr).add j = ⟨b, o + j, none⟩ := by
  unfold Addr.add; split
  · rename_i e; subst e; rfl
  · rfl
theorem add_at0 (b j : Nat) : (⟨b, 0, none⟩ : Addr).add j = ⟨b, j, none⟩ := by rw [add_at, Nat.zero_add]
theorem St.touch {w0 w w' : World} {S : Ps} {F : Nat → Prop} {b : Nat} (h : St w0 w S F) (ht : Touch b w w') (hF : ¬ F b) (hb : w0.heap.size ≤ b) : St w0 w' S F :=
  ⟨h.at_.keep (fun k hk => ht.block k (fun e => hF (by rw [← e]; exact hk))) (by rw [ht.size]; exact Nat.le_refl _), h.ok,
   ⟨ht.os.trans h.mv.os, ht.tape.trans h.mv.tape, ht.output.trans h.mv.output, by rw [ht.size]; exact h.mv.size, fun k hk hf => (ht.block k (by omega)).trans (h.mv.block k hk hf), h.mv.foot⟩⟩
theorem ownsRow_row {w : World} {base : Nat} {e : TypeId} {g n cap : Nat} {xs : List Value} (h : w.ownsRow base e 1 (.slice (some ⟨g, 0, none⟩) n cap) n xs) :
    n ≤ cap ∧ cap ≤ maxLen ∧ ∃ f, w.rowIs g e cap f ∧ ∀ j, j < n → some (f j) = xs[j]? := by
  rcases h.2 with ⟨e, _⟩ | ⟨g', cap', cur, hv, _, hh, h1, h2, h3, h4⟩
  · cases e
  · injection hv with ha _ hc
    injection ha with ha
    injection ha with hb
    subst hb hc
    refine ⟨h1, h2, fun j => cur.getD j undef, ⟨cur, hh, by simpa using h3, fun i hi => ?_⟩, fun j hj => ?_⟩
    · have : i < cur.size := by omega
      simp [Array.getD, this]
    · have : j < cur.size := by omega
      rw [← h4, List.getElem?_take, if_pos (by omega)]
      simp [Array.getD, this]

theorem pois_bytes {S : Ps} (hO : S.Ok) {i j : Nat} (hj : j ∈ S.sl i) : u8s ((S.freed i).bytesAt (j * S.size) S.size) = List.replicate S.size (.int .u8 221) := by
  rw [List.eq_replicate_iff]
  refine ⟨by simp [u8s, Ps.bytesAt], fun b hb => ?_⟩
  simp only [u8s, Ps.bytesAt, List.mem_map, List.mem_range] at hb
  obtain ⟨x, ⟨k, hk, rfl⟩, rfl⟩ := hb
  have : (j * S.size + k) / S.size = j := by
    rw [Nat.mul_comm, Nat.mul_add_div (by have := hO.s1; omega), Nat.div_eq_of_lt hk]; omega
  simp [Ps.freed, this, hj]
theorem QInv.freed {S : Ps} {sz m : Nat} (h : QInv S sz m) : RInv ((S.freed 0).freed 1) sz m := by
  refine ⟨h.sz, h.n, fun i hi => ?_, h.g⟩
  by_cases e1 : i = 1
  · simp [Ps.freed, e1]
  · by_cases e0 : i = 0
    · simp [Ps.freed, e0]
    · simp [Ps.freed, e0, e1, h.lv i hi]; omega

/-- The string of n noughts. -/
def zeros (n : Nat) : ByteArray := ⟨(List.replicate n (0 : UInt8)).toArray⟩
theorem conv_zeros (W : World) (g n c : Nat) (h : ∀ j, j < n → W.cell? ⟨g, j, none⟩ = some (.int .u8 0)) :
    (convert 49 9 (.slice (some ⟨g, 0, none⟩) n c)).run Try.prog W = .ok (.string (zeros n)) W := by
  have := run_convert_bytes_back (P := Try.prog) W 49 9 5 ⟨g, 0, none⟩ c (List.replicate n 0) Try.underlying49 Try.underlying5 Try.underlying9 (fun j hj => by
    rw [add_at0, h j (by simpa using hj)]; simp)
  rw [List.length_replicate] at this
  exact this

set_option maxRecDepth 100000 in
set_option maxHeartbeats 4000000 in
theorem walk (a0 : Option Addr) (len0 cap0 : Nat) (z0 : List Int) (n1 : Int) (w : World) (w0 : IsRow .i64 w a0 len0 cap0 z0) (_ : (Lit.int .i64 n1).wf = true) :
    Calls Try.prog 6 #[.slice a0 len0 cap0, .int .i64 n1] w fun e w' => e = .returned (.bool true) ∧ Below w.heap.size w w' := by
  have hlen := w0.len
  have HW := Lib.hid w0
  clear w0
  obtain ⟨q, hq, hqq⟩ : ∃ q : Nat, q < 20 ∧ wrap64 ((IntKind.u64.wrap n1).tmod 20) = (q : Int) := modPos n1 20 (by omega) (by omega)
  go_enter Try.func6, Try.ntmps6
  go_wp2_with fail
  refine (fertile_any _).mono ?_
  rintro e w1 ⟨rfl, hg1⟩
  have HG1 := Lib.hid hg1
  have hsz3 : (64 + 8 * q) * 12 ≤ 4194304 := by omega
  have hnw := St.new w1 (64 + 8 * q) 12 (by omega) (by omega) (by omega) (by omega) (by omega) hsz3
  have HN : Hid (Calls Try.prog 15 #[.int .i64 (64 + 8 * (q : Int)), .int .i64 12] w1 fun e w' => ∃ pb bb tb F, e = .returned (.tuple #[.pointer (some ⟨pb, 0, none⟩), .int .i64 0]) ∧ St w1 w' (Ps.new (64 + 8 * q) 12 pb bb tb) F ∧ ∀ k, F k → w1.heap.size ≤ k) := by
    have e : ((64 + 8 * q : Nat) : Int) = 64 + 8 * (q : Int) := by omega
    rw [e] at hnw; exact hnw
  clear hg1 hnw
  go_wp2_with fail
  refine HN.out.mono ?_
  rintro e w2 ⟨pb, bb, tb, F0, rfl, hS0, hF0⟩
  have hR0 : ∃ S F, St w1 w2 S F ∧ S.pb = pb ∧ RInv S (64 + 8 * q) 0 := ⟨_, F0, hS0, rfl, ⟨rfl, rfl, fun _ _ => rfl, fun _ _ => Nat.le_refl _⟩⟩
  have HR0 := Lib.hid hR0
  clear hS0 hF0 hR0 HN hsz3
  go_wp2_with fail
  generalize hszd : 64 + 8 * q = sz at *
  have HSZ := Lib.hid hszd
  have hsz1 : 64 ≤ sz := by omega
  have hsz2 : sz ≤ 216 := by omega
  rw [show (64 + 8 * (q : Int)) = (sz : Int) from by omega]
  clear hszd
  go_loopw [7] (fun r wq => ∃ m : Nat, m ≤ 4 ∧ r = .int .i64 m ∧ Hid (∃ S F, St w1 wq S F ∧ S.pb = pb ∧ RInv S sz m)) (fun r _ => 4 - (intOf r).toNat)
  case atStart => exact ⟨0, by omega, rfl, HR0.out⟩
  case round =>
    obtain ⟨m, hm, rfl, hR⟩ := hrel
    clear HR0
    by_cases hlt : m < 4
    · obtain ⟨S, F, hS, e1, hI⟩ := hR.out
      have hmk := hS.make (fun i hi => by have := hI.g i hi; omega) hI.next
      rw [e1] at hmk
      have HMK := Lib.hid hmk
      have HI := Lib.hid hI
      have HE1 := Lib.hid e1
      clear hmk hS hI e1 hR
      go_wp2_with fail
      refine HMK.out.mono ?_
      rintro e w3 ⟨rfl, hS3, _⟩
      have hmk := hS3.make (fun i hi => by have := HI.out.g1 i hi; omega) HI.out.next1
      rw [show (S.made 0).pb = pb from HE1.out] at hmk
      have HMK2 := Lib.hid hmk
      clear hmk hS3 HMK
      go_wp2_with fail
      refine HMK2.out.mono ?_
      rintro e w4 ⟨rfl, hS4, _⟩
      have HQ0 := Lib.hid (show Q2 w1 pb sz (m + 1) w4 from ⟨_, F, hS4, HE1.out, HI.out.made⟩)
      clear hS4 HMK2 HI HE1
      go_upto_block 2 with (fail)
      go_cut [] (fun wx => Hid (Q2 w1 pb sz (m + 1) wx))
      case first =>
        go_wp2_with fail
        go_loopw [12] (fun i wq => ∃ k : Nat, k ≤ 30 ∧ i = .int .i64 k ∧ Hid (Q2 w1 pb sz (m + 1) wq)) (fun i _ => 30 - (intOf i).toNat)
        case atStart => exact ⟨0, by omega, rfl, HQ0.out⟩
        case round =>
          obtain ⟨k, hk, rfl, hQ⟩ := hrel
          clear HQ0
          by_cases hkl : k < len0 ∧ k < 30
          · obtain ⟨hk1, hk2⟩ := hkl
            obtain ⟨b, off, rfl, hb, hcells, hwf⟩ := HW.out.at (by omega)
            have hcm := hcells k hk1
            generalize z0.getD k 0 = x at *
            obtain ⟨S, F, hS, e1, hI⟩ := hQ.out
            have hbw : Below w.heap.size w wr := HG1.out.then hS.below
            have hcq : wr.cell? ⟨b, off + k, none⟩ = some (.int .i64 x) := (hbw.cell (p := ⟨b, off + k, none⟩) hb).trans hcm
            obtain ⟨nn, hnn, hnq⟩ := modPos x sz (by omega) (by omega)
            obtain ⟨rr, hrr, hrv⟩ : ∃ rr : Nat, rr < 2 ∧ (((((k : Int) + (m : Int)) % 2 == 0) = true ∧ rr = 1) ∨ ((((k : Int) + (m : Int)) % 2 == 0) = false ∧ rr = 0)) := by
              cases h : (((k : Int) + (m : Int)) % 2 == 0)
              · exact ⟨0, by omega, .inr ⟨rfl, rfl⟩⟩
              · exact ⟨1, by omega, .inl ⟨rfl, rfl⟩⟩
            have hal := alloc_two (i := rr) (n := 1 + nn) hS hI hrr (by omega) (by omega)
            rw [e1] at hal
            have HQ := hQ
            clear hcells hwf hbw hcm hS hI e1 hQ S F
            have hszu : IntKind.u64.wrap (sz : Int) = (sz : Int) := IntWalk.u64_in _ (by omega)
            rcases hrv with ⟨hpar, rfl⟩ | ⟨hpar, rfl⟩
            all_goals
              simp only [Int.cast_ofNat_Int] at hal
              rcases hal with hal | ⟨g, o, hal⟩
              · have HAL := Lib.hid hal
                have hq2 : ∀ w', Grew wr w' → Q2 w1 pb sz (m + 1) (w'.alloc (.cells #[.int .i64 0, .int .i64 0, .int .i64 0, .int .i64 0] 41)) := fun w' hg => by
                  obtain ⟨S, F, hS, e1, hI⟩ := HQ.out
                  exact ⟨S, F, (hS.grew hg).alloc _, e1, hI⟩
                have HQ2 := Lib.hid hq2
                clear hal hq2
                go_wp2_with fail
                rw [show (1 + (nn : Int)) = ((1 + nn : Nat) : Int) from by omega]
                refine HAL.out.mono ?_
                rintro e w5 ⟨rfl, hg5⟩
                have H5 := Lib.hid (HQ2.out w5 hg5)
                clear hg5
                go_wp2_with fail
                go_meet
                exact H5.out
              · have HAL := Lib.hid hal
                clear hal HQ
                go_wp2_with fail
                rw [show (1 + (nn : Int)) = ((1 + nn : Nat) : Int) from by omega]
                generalize hn : 1 + nn = n at *
                have hn1 : 1 ≤ n := by omega
                have hn2 : n ≤ sz := by omega
                have HNE := Lib.hid hn
                clear hn
                refine HAL.out.mono ?_
                rintro e w5 ⟨rfl, S, F, hS, e1, hI, hP⟩
                have hld := fun X => load_piece (hS.alloc X) hI (by omega) hP hn1
                rw [e1] at hld
                simp only [Int.cast_ofNat_Int] at hld
                have HLD := Lib.hid hld
                have HST := Lib.hid (And.intro hS (And.intro e1 (And.intro hI hP)))
                clear hld hS e1 hI hP HAL
                go_wp2_with fail
                refine (HLD.out _).mono ?_
                rintro e w6 ⟨v6, rfl, g6, cap6, hv6, hg60, hg61, hown6, hgr6⟩
                have b0 := hgr6.cell (p := ⟨w5.heap.size, 0, none⟩) (by simp)
                have b1 := hgr6.cell (p := ⟨w5.heap.size, 1, none⟩) (by simp)
                have b2 := hgr6.cell (p := ⟨w5.heap.size, 2, none⟩) (by simp)
                have b3 := hgr6.cell (p := ⟨w5.heap.size, 3, none⟩) (by simp)
                simp at b0 b1 b2 b3
                have hz6 : ∀ j, j < n → w6.cell? ⟨g6, j, none⟩ = some (.int .u8 0) := fun j hj => by
                  have h1 := World.ownsRow.cells hown6 (g := g6) (by rw [hv6]; rfl) j (.int .u8 0) (by simp [u8s, hj])
                  rw [add_at0] at h1; exact h1
                have hlen6 : (u8s (List.replicate n 0)).length = n := by simp [u8s]
                rw [hlen6] at hv6 hown6
                subst hv6
                have kmk := run_make_row' (P := Try.prog) 49 5 (.int .u8 0) 1 Try.underlying49 Try.info5 rfl .i64 .i64 n (by omega) (by omega)
                have cv1 : (convert 49 9 (.slice (some ⟨g6, 0, none⟩) n cap6)).run Try.prog w6.drew = .ok (.string (zeros n)) w6.drew := conv_zeros _ _ _ _ hz6
                have hgm : ∀ j, j < n → (w6.alloc (.cells (madeCells #[.int .u8 0] n) 5)).drew.cell? ⟨g6, j, none⟩ = some (.int .u8 0) := fun j hj => by
                  have := (Grew.alloc w6 (.cells (madeCells #[.int .u8 0] n) 5)).cell (p := ⟨g6, j, none⟩) hg61
                  exact this.trans (hz6 j hj)
                have cv2 : (convert 49 9 (.slice (some ⟨g6, 0, none⟩) n cap6)).run Try.prog (w6.alloc (.cells (madeCells #[.int .u8 0] n) 5)).drew = .ok (.string (zeros n)) (w6.alloc (.cells (madeCells #[.int .u8 0] n) 5)).drew := conv_zeros _ _ _ _ hgm
                have cv3 : (convert 49 9 (.slice (some ⟨w6.heap.size, 0, none⟩) n n)).run Try.prog (w6.alloc (.cells (madeCells #[.int .u8 0] n) 5)).drew = .ok (.string (zeros n)) (w6.alloc (.cells (madeCells #[.int .u8 0] n) 5)).drew :=
                  conv_zeros _ _ _ _ (fun j hj => ((World.rowIs_made w6 (.int .u8 0) n 5).drew).cell hj)
                have HOW := Lib.hid (And.intro hown6 (And.intro hg60 (And.intro hg61 hgr6)))
                generalize zeros n = zs at *
                clear hgm hz6 hown6 hg60 hgr6 hlen6 HLD
                go_wp2_with fail
                go_region
                go_wp2_with fail
                obtain ⟨hown6, hg60, hg61, hgr6⟩ := HOW.out
                obtain ⟨hS, e1, hI, hP⟩ := HST.out
                obtain ⟨hnc, hcm, f, hrow, hfx⟩ := ownsRow_row hown6
                have hA : w5.heap.size + 1 ≤ g6 := by simpa using hg60
                have hSW := (((hS.alloc _).grew hgr6).alloc (.cells (madeCells #[.int .u8 0] n) 5)).drew
                have hrW := (hrow.alloc (.cells (madeCells #[.int .u8 0] n) 5)).drew
                have hgM := Grew.alloc w6 (.cells (madeCells #[.int .u8 0] n) 5)
                have hAl : w5.heap.size < w6.heap.size := by have := hgr6.size; simp at this; omega
                refine wp_gen (fun W => St w1 W S F ∧ W.rowIs g6 5 cap6 f ∧ W.cell? ⟨w5.heap.size, 0, none⟩ = w6.cell? ⟨w5.heap.size, 0, none⟩ ∧ W.cell? ⟨w5.heap.size, 1, none⟩ = w6.cell? ⟨w5.heap.size, 1, none⟩ ∧ W.cell? ⟨w5.heap.size, 2, none⟩ = w6.cell? ⟨w5.heap.size, 2, none⟩ ∧ W.cell? ⟨w5.heap.size, 3, none⟩ = w6.cell? ⟨w5.heap.size, 3, none⟩)
                  ⟨hSW, hrW, hgM.cell (p := ⟨w5.heap.size, 0, none⟩) hAl, hgM.cell (p := ⟨w5.heap.size, 1, none⟩) hAl, hgM.cell (p := ⟨w5.heap.size, 2, none⟩) hAl, hgM.cell (p := ⟨w5.heap.size, 3, none⟩) hAl⟩ ?_
                rintro W ⟨hSW', hrW', i0, i1, i2, i3⟩
                have hgF : ¬ F g6 := fun h => by have := hS.at_.fl _ h; omega
                have hg1 : w1.heap.size ≤ g6 := by have := hS.mv.size; omega
                have HSW := Lib.hid (And.intro hSW' (And.intro e1 (And.intro hI (And.intro hP (And.intro hgF hg1)))))
                have HRW := Lib.hid hrW'
                rw [b0] at i0
                rw [b1] at i1
                rw [b2] at i2
                rw [b3] at i3
                have hne : w5.heap.size ≠ g6 := by omega
                clear hSW hrW hSW' hrW' hS e1 hI hP hown6 hg60 hgr6 HOW HST hfx hrow hgF hgM b0 b1 b2 b3 kmk cv1 cv2 cv3 hg61
                go_loopw [19] (fun kk wq => ∃ j : Nat, j ≤ n ∧ kk = .int .i64 j ∧ Hid (wq.rowIs g6 5 cap6 (fun c => if c < j then .int .u8 119 else f c)) ∧ Hid (Touch g6 W wq)) (fun kk _ => n - (intOf kk).toNat)
                case atStart => exact ⟨0, by omega, rfl, HRW.out.congr (fun c _ => by rw [if_neg (by omega)]), Touch.refl _ _⟩
                case round =>
                  obtain ⟨j, hj, rfl, hrj, htj⟩ := hrel
                  by_cases hjl : j < n
                  · have y0 := hrj.out.cell (i := j) (by omega)
                    have y1 := hrj.out.frozen j
                    have HRJ := Lib.hid ((hrj.out.set j (.int .u8 119)).congr (g := fun c => if c < j + 1 then .int .u8 119 else f c) (fun c _ => by
                      by_cases e : c = j
                      · simp [e]
                      · by_cases e2 : c < j
                        · simp [e, e2]; omega
                        · simp [e, e2]; omega))
                    have HTJ := Lib.hid (htj.out.trans (Touch.setCell (a := ⟨g6, j, none⟩) (.int .u8 119)))
                    clear hrj htj
                    go_wp2
                    go_roundw
                    case rel => exact ⟨j + 1, by omega, by go_num, HRJ.out, HTJ.out⟩
                    case measure => simp [intOf]; omega
                  · have : j = n := by omega
                    subst this
                    obtain ⟨hSW', e1, hI, hP, hgF, hg1⟩ := HSW.out
                    have hSq := St.touch hSW' htj.out hgF hg1
                    have hrd : ReadsB wr (.slice (some ⟨g6, 0, none⟩) j cap6) (List.replicate j 119) := ⟨some ⟨g6, 0, none⟩, cap6, by simp, fun _ => ⟨_, rfl, fun c u hu => by
                      have hc : c < j := by have := (List.getElem?_eq_some_iff.1 hu).1; simpa [u8s] using this
                      rw [add_at0, hrj.out.cell (by omega), if_pos hc]
                      simpa [u8s, hc] using hu⟩⟩
                    have hst := store_piece hSq hI (by omega) hP hn1 hrd (fun x hx => by have := List.eq_of_mem_replicate hx; omega) (by simp)
                    rw [e1] at hst
                    simp only [Int.cast_ofNat_Int] at hst
                    have HST := Lib.hid hst
                    have cb := fun off => World.cell?_of_block (w := W) (w' := wr) (a := ⟨w5.heap.size, off, none⟩) (htj.out.block _ hne)
                    have i0' := (cb 0).trans i0
                    have i1' := (cb 1).trans i1
                    have i2' := (cb 2).trans i2
                    have i3' := (cb 3).trans i3
                    clear hst hrd hSq hSW' e1 hI hP hgF hg1 hrj htj cb i0 i1 i2 i3
                    go_wp2_with fail
                    refine HST.out.mono ?_
                    rintro e w8 ⟨rfl, hq8⟩
                    have HQ8 := Lib.hid hq8
                    clear hq8
                    go_wp2
                    go_roundw
                    case rel => exact ⟨k + 1, by omega, by go_num, HQ8.out⟩
                    case measure => simp [intOf]; omega
          · have hend : ¬ (k < len0) ∨ k = 30 := by omega
            by_cases hk0 : k < len0
            · have : k = 30 := by omega
              subst this
              clear hkl hend
              go_wp2_with fail
              go_meet
              exact hQ.out
            · clear hkl hend
              go_wp2_with fail
              go_meet
              exact hQ.out
      case rest =>
        obtain ⟨S, F, hS, e1, hI⟩ := hcut.out
        have hlv0 : S.live 0 = true := by rw [hI.lv 0 (by omega)]; rfl
        have hsb := slabs_ok hS.at_ hS.ok (i := 0) (by omega) hlv0
        rw [e1] at hsb
        simp only [Int.cast_ofNat_Int] at hsb
        have HSB := Lib.hid hsb
        have HS := Lib.hid (And.intro hS (And.intro e1 (And.intro hI hlv0)))
        clear hsb hS e1 hI hlv0 hcut HQ0
        go_wp2_with fail
        refine HSB.out.mono ?_
        rintro e w3 ⟨lv, rfl, hfo⟩
        obtain ⟨hS, e1, hI, hlv0⟩ := HS.out
        have hg3 : Grew wc w3 := by rcases hfo with ⟨_, _, h⟩ | ⟨_, _, _, _, _, _, h⟩ <;> exact h
        have hlenL : (S.sl 0).length ≤ 12 := by have := hS.ok.len (i := 0) (by omega); rw [hI.n] at this; exact this
        obtain ⟨la, lcap, hlv, hlc⟩ : ∃ la lcap, lv = .slice la (S.sl 0).length lcap ∧ (∀ i, i < (S.sl 0).length → ∃ gL, la = some ⟨gL, 0, none⟩ ∧ wc.heap.size ≤ gL ∧ gL < w3.heap.size ∧ w3.cell? ⟨gL, i, none⟩ = some (.int .i64 ((S.sl 0).getD i 0 : Nat))) := by
          rcases hfo with ⟨h1, h2, _⟩ | ⟨gL, cap, h1, h2, h3, h4, _⟩
          · have h0 : S.sl 0 = [] := by simpa [i64s] using h1
            exact ⟨none, 0, by rw [h2, h0]; rfl, fun i hi => by rw [h0] at hi; simp at hi⟩
          · have hl : (i64s (S.sl 0)).length = (S.sl 0).length := by simp [i64s]
            rw [hl] at h1 h4
            refine ⟨_, cap, h1, fun i hi => ⟨gL, rfl, h2, h3, ?_⟩⟩
            have := World.ownsRow.cells h4 (g := gL) (by rw [h1]; rfl) i (.int .i64 ((S.sl 0).getD i 0 : Nat)) (by
              rw [i64s, List.getElem?_map, List.getElem?_eq_getElem hi, List.getD_eq_getElem?_getD, List.getElem?_eq_getElem hi]; rfl)
            rw [add_at0] at this; exact this
        subst hlv
        have hS3 := hS.grew hg3
        have hfr := hS3.free (i := 0) (by omega) hlv0
        rw [e1] at hfr
        simp only [Int.cast_ofNat_Int] at hfr
        have HFR := Lib.hid hfr
        have hFL : ∀ i, i < (S.sl 0).length → ∀ gL, la = some ⟨gL, 0, none⟩ → ¬ F gL := fun i hi gL hgL hF => by
          obtain ⟨g', h1, h2, _⟩ := hlc i hi
          rw [h1] at hgL; injection hgL with hgL; injection hgL with hgL
          have := hS.at_.fl _ hF; omega
        have HLC := Lib.hid (And.intro hlc hFL)
        clear hfr hS3 hS e1 hI hlv0 hfo hg3 hlc hFL HSB
        go_wp2_with fail
        refine HFR.out.mono ?_
        rintro e w4 ⟨rfl, hS4, hM4⟩
        obtain ⟨hS, e1, hI, hlv0⟩ := HS.out
        have hpost : St w1 w4 (S.freed 0) F ∧ ∀ i, i < (S.sl 0).length → ∃ gL, la = some ⟨gL, 0, none⟩ ∧ w4.cell? ⟨gL, i, none⟩ = some (.int .i64 ((S.sl 0).getD i 0 : Nat)) := ⟨hS4, fun i hi => by
          obtain ⟨gL, h1, h2, h3, h4⟩ := HLC.out.1 i hi
          exact ⟨gL, h1, (World.cell?_of_block (w := w3) (hM4.block gL h3 (HLC.out.2 i hi gL h1))).trans h4⟩⟩
        have HP := Lib.hid hpost
        clear hpost hS4 hM4 hS e1 hI hlv0 HFR HLC
        go_wp2_with fail
        go_loopw [21, 22, 23, 24] (fun i _ _ _ wq => ∃ k : Nat, k ≤ (S.sl 0).length ∧ i = .int .i64 k ∧ Hid (Grew w4 wq)) (fun i _ _ _ _ => (S.sl 0).length - (intOf i).toNat)
        case atStart => exact ⟨0, by omega, rfl, Below.refl _ _⟩
        case round =>
          obtain ⟨k, hk, rfl, hgr⟩ := hrel
          by_cases hkl : k < (S.sl 0).length
          · obtain ⟨gL, hla, hcl⟩ := HP.out.2 k hkl
            subst hla
            have hcw : wr.cell? ⟨gL, k, none⟩ = some (.int .i64 ((S.sl 0).getD k 0 : Nat)) := by
              rw [hgr.out.cell (World.block_lt_of_cell? w4 _ hcl)]; exact hcl
            have hmem : (S.sl 0).getD k 0 ∈ S.sl 0 := by rw [List.getD_eq_getElem?_getD, List.getElem?_eq_getElem hkl]; simp
            obtain ⟨hS, e1, hI, hlv0⟩ := HS.out
            have hjn : (S.sl 0).getD k 0 < S.n := hS.ok.v1 0 (by omega) _ hmem
            generalize (S.sl 0).getD k 0 = j at *
            have hSr := HP.out.1.grew hgr.out
            have hrw := raw_ok hSr.at_ hSr.ok (j := j) hjn
            have hby := pois_bytes hS.ok hmem
            rw [show (S.freed 0).pb = pb from e1] at hrw
            have hrw2 : Calls Try.prog 32 #[.pointer (some ⟨pb, 0, none⟩), .int .i64 j] wr fun e w' => ∃ v, e = .returned (.tuple #[v, .int .i64 0]) ∧ FreshRow 5 wr v (List.replicate sz (.int .u8 221)) w' := by
              have hsz : S.size = sz := hI.sz
              have e2 : u8s ((S.freed 0).bytesAt (j * (S.freed 0).size) (S.freed 0).size) = List.replicate sz (.int .u8 221) := by rw [← hsz]; exact hby
              rw [e2] at hrw; exact hrw
            have HRW := Lib.hid hrw2
            clear hrw hrw2 hby hSr hS e1 hI hlv0 hmem hcl
            go_wp2_with fail
            refine HRW.out.mono ?_
            rintro e w5 ⟨cv, rfl, g5, cap5, hv5, _, _, hown5, hgr5⟩
            rw [List.length_replicate] at hv5 hown5
            subst hv5
            have hc5 : ∀ c, c < sz → w5.cell? ⟨g5, c, none⟩ = some (.int .u8 221) := fun c hc => by
              have := World.ownsRow.cells hown5 (g := g5) rfl c (.int .u8 221) (by simp [hc])
              rw [add_at0] at this; exact this
            have HC5 := Lib.hid hc5
            have HG5 := Lib.hid (hgr.out.then hgr5)
            clear hc5 hown5 hgr5 hgr HRW
            go_wp2_with fail
            go_loop [24] (fun kk => ∃ c : Nat, c ≤ sz ∧ kk = .int .i64 c) (fun kk => sz - (intOf kk).toNat)
            case atStart => exact ⟨0, by omega, rfl⟩
            case round =>
              obtain ⟨c, hc, rfl⟩ := hrel
              by_cases hcl : c < sz
              · have hcc := HC5.out c hcl
                go_wp2
                go_round
                case rel => exact ⟨c + 1, by omega, by go_num⟩
                case measure => simp [intOf]; omega
              · have : c = sz := by omega
                subst this
                go_wp2
                go_roundw
                case rel => exact ⟨k + 1, by omega, by go_num, HG5.out⟩
                case measure => simp [intOf]; omega
          · have hSr := HP.out.1.grew hgr.out
            obtain ⟨hS, e1, hI, hlv0⟩ := HS.out
            have hfr := hSr.free (i := 1) (by omega) (by simp [Ps.freed, hI.lv 1 (by omega)])
            rw [show (S.freed 0).pb = pb from e1] at hfr
            simp only [Int.cast_ofNat_Int] at hfr
            have HFR := Lib.hid hfr
            have HIN := Lib.hid (And.intro e1 hI.freed)
            clear hfr hSr hS e1 hI hlv0 hgr
            go_wp2_with fail
            refine HFR.out.mono ?_
            rintro e w5 ⟨rfl, hS5, _⟩
            have HS5 := Lib.hid (show ∃ S F, St w1 w5 S F ∧ S.pb = pb ∧ RInv S sz (m + 1) from ⟨_, F, hS5, HIN.out.1, HIN.out.2⟩)
            clear hS5
            go_wp2
            go_roundw
            case rel => exact ⟨m + 1, by omega, by go_num, HS5.out⟩
            case measure => simp [intOf]; omega
    · have : m = 4 := by omega
      subst this
      obtain ⟨S, F, hS, e1, hI⟩ := hR.out
      have hid := idle_any hS.at_ hS.ok.s5
      have hcnt : idleCnt S.tk S.n = 12 := by
        rw [hI.n]
        have hall : ∀ j, j < 12 → S.tk j = false := fun j hj => by
          cases h : S.tk j
          · rfl
          · obtain ⟨i, hi, hl, _⟩ := hS.ok.v6 j (by rw [hI.n]; exact hj) h
            rw [hI.lv i hi] at hl; cases hl
        unfold idleCnt
        rw [List.countP_eq_length.2 (fun a ha => by rw [hall a (List.mem_range.1 ha)]; rfl), List.length_range]
      rw [hcnt, e1] at hid
      have HID : Hid (Calls Try.prog 13 #[.pointer (some ⟨pb, 0, none⟩)] wr fun e w' => e = .returned (.int .i64 12) ∧ wr = w') := hid
      have HB := Lib.hid (HG1.out.then hS.below)
      clear hid hcnt hS e1 hI hR
      go_wp2_with fail
      refine HID.out.mono ?_
      rintro e w3 ⟨rfl, rfl⟩
      go_wp2
      go_ret
      exact ⟨rfl, HB.out⟩
end Go.Proofs.Ytkmnclcppalbbaa.regionPoison
