/-
  RegionApart answers true, whatever it is asked, and turns nothing that was there: the walk.
-/
import Derived.Test.YtaaalfimlpeddaaRegApA
import Derived.Deep.DeepCutAuto
import Derived.Deep.CutBlock
import Derived.Deep.RegionHeld3
namespace Go.Proofs.Ytaaalfimlpeddaa.regionApart
open Go.RowKit regionStale regionPoison

def N1 (w0 : World) (pb k : Nat) (wr : World) : Prop :=
  ∃ (S : Ps) (F : Nat → Prop), St w0 wr S F ∧ S.pb = pb ∧ S.size = 128 ∧ S.n = 40 ∧ (∀ i, i < 256 → S.live i = decide (i < k)) ∧ ∀ i, i < 256 → S.gen i ≤ 1 ∧ (k ≤ i → S.gen i = 0)

structure ASt (w0 wr : World) (pb : Nat) (dv : Value) (S : Ps) (F : Nat → Prop) (D : List Hd) : Prop where
  st : St w0 wr S F
  pb : S.pb = pb
  ai : AInv S D
  gb : ∀ i, i < 256 → S.gen i ≤ 1
  rd : wr.ownsRow w0.heap.size 41 4 dv D.length (D.flatMap Hd.cells)
  nd : ∀ g, dv.ownBlock = some g → ¬ F g
theorem ASt.grew {w0 wr w' : World} {pb : Nat} {dv : Value} {S : Ps} {F : Nat → Prop} {D : List Hd} (h : ASt w0 wr pb dv S F D) (hg : Grew wr w') : ASt w0 w' pb dv S F D :=
  ⟨h.st.grew hg, h.pb, h.ai, h.gb, ownsRow_block h.rd (fun g hgg => hg.block g (h.rd.lt g hgg).2), h.nd⟩

theorem ASt.setOut {w0 wr : World} {pb : Nat} {dv : Value} {S : Ps} {F : Nat → Prop} {D : List Hd} (h : ASt w0 wr pb dv S F D) {a : Addr} (hF : ¬ F a.block) (hb : w0.heap.size ≤ a.block) (hd : ∀ g, dv.ownBlock = some g → g ≠ a.block) (v : Value) : ASt w0 (wr.setCell a v) pb dv S F D :=
  ⟨h.st.setOut hF hb v, h.pb, h.ai, h.gb, ownsRow_block h.rd (fun g hg => Below.heap_setCell _ _ _ _ (hd g hg)), h.nd⟩
theorem ASt.set4 {w0 wr : World} {pb : Nat} {dv : Value} {S : Ps} {F : Nat → Prop} {D : List Hd} (h : ASt w0 wr pb dv S F D) {A : Nat} (hF : ¬ F A) (hb : w0.heap.size ≤ A) (hd : ∀ g, dv.ownBlock = some g → g ≠ A) (v0 v1 v2 v3 : Value) :
    ASt w0 ((((wr.setCell ⟨A, 0, none⟩ v0).setCell ⟨A, 1, none⟩ v1).setCell ⟨A, 2, none⟩ v2).setCell ⟨A, 3, none⟩ v3) pb dv S F D :=
  (((h.setOut (a := ⟨A, 0, none⟩) hF hb hd v0).setOut (a := ⟨A, 1, none⟩) hF hb hd v1).setOut (a := ⟨A, 2, none⟩) hF hb hd v2).setOut (a := ⟨A, 3, none⟩) hF hb hd v3
theorem HAt.set4 {w : World} {A : Nat} {r g o l : Int} (h : HAt w A 0 0 0 0) : HAt ((((w.setCell ⟨A, 0, none⟩ (.int .i64 r)).setCell ⟨A, 1, none⟩ (.int .i64 g)).setCell ⟨A, 2, none⟩ (.int .i64 o)).setCell ⟨A, 3, none⟩ (.int .i64 l)) A r g o l := by
  unfold HAt at h ⊢
  simp [World.setCell, Array.getElem?_modify, h]
/-- What is known behind an Alloc that answered OK, its handle in block A. -/
structure AfterAl (w0 W : World) (pb : Nat) (dv : Value) (S' : Ps) (F' : Nat → Prop) (D D' : List Hd) (A : Nat) (r g o n : Nat) : Prop where
  st : St w0 W S' F'
  pb : S'.pb = pb
  ai : AInv S' D'
  gb : ∀ i, i < 256 → S'.gen i ≤ 1
  rd : W.ownsRow w0.heap.size 41 4 dv D.length (D.flatMap Hd.cells)
  nd : ∀ g, dv.ownBlock = some g → ¬ F' g
  h : HAt W A r g o n

/-- Behind a call that moves within the pool, the pool turned as told. -/
theorem ASt.moved {w0 wr w' : World} {pb : Nat} {dv : Value} {S S' : Ps} {F F' : Nat → Prop} {D D' : List Hd} (h : ASt w0 wr pb dv S F D) (_hS : St w0 w' S' F') (_hp : S'.pb = pb) (_hI : AInv S' D') (hG : S'.gen = S.gen) (hM : Moves F wr F' w') :
    w'.ownsRow w0.heap.size 41 4 dv D.length (D.flatMap Hd.cells) ∧ (∀ g, dv.ownBlock = some g → ¬ F' g) ∧ (∀ i, i < 256 → S'.gen i ≤ 1) :=
  ⟨ownsRow_block h.rd (fun g hg => hM.block g (h.rd.lt g hg).2 (h.nd g hg)), fun g hg => hM.out (h.rd.lt g hg).2 (h.nd g hg), fun i hi => by rw [hG]; exact h.gb i hi⟩

theorem IsRow.grew {k : IntKind} {w w' : World} {a : Option Addr} {len cap : Nat} {zs : List Int} (h : IsRow k w a len cap zs) (hg : Below w.heap.size w w') : IsRow k w' a len cap zs := by
  rcases h with h | ⟨x, h1, h2, h3, h4, h5, h6⟩
  · exact .inl h
  · refine .inr ⟨x, h1, h2, h3, h4, fun i hi => ?_, h6⟩
    have := h5 i hi
    rw [hg.cell (World.block_lt_of_cell? w _ this)]; exact this
theorem reads_fresh {w w' : World} {v : Value} {bs : List Nat} (h : FreshRow 5 w v (u8s bs) w') : ReadsB w' v bs := by
  obtain ⟨g, cap, hv, _, _, hown, _⟩ := h
  have hl : (u8s bs).length = bs.length := by simp [u8s]
  rw [hl] at hv
  exact ⟨some ⟨g, 0, none⟩, cap, hv, fun _ => ⟨_, rfl, World.ownsRow.cells hown (g := g) (by rw [hv]; rfl)⟩⟩
/-- Bytes as a text. -/
def textOf (bs : List Nat) : ByteArray := ⟨(bs.map fun x => UInt8.ofNat x).toArray⟩
theorem conv_reads {W : World} {v : Value} {bs : List Nat} (h : ReadsB W v bs) (hb : ∀ x, x ∈ bs → x < 256) (h1 : 1 ≤ bs.length) : (convert 49 9 v).run Try.prog W = .ok (.string (textOf bs)) W := by
  obtain ⟨sp, c, hv, hs⟩ := h
  obtain ⟨ad, rfl, hc⟩ := hs (by omega)
  have := run_convert_bytes_back (P := Try.prog) W 49 9 5 ad c (bs.map fun x => UInt8.ofNat x) Try.underlying49 Try.underlying5 Try.underlying9 (fun j hj => by
    have hj' : j < bs.length := by simpa using hj
    have := hc j (.int .u8 bs[j]) (by simp [u8s, hj'])
    rw [this]
    have hlt := hb bs[j] (by simp)
    simp [UInt8.toNat_ofNat', Nat.mod_eq_of_lt hlt])
  rw [List.length_map] at this
  rw [hv]; exact this
theorem had_cells {w0 wx : World} {pb g dcap : Nat} {S : Ps} {F : Nat → Prop} {D : List Hd} (h : ASt w0 wx pb (.slice (some ⟨g, 0, none⟩) D.length dcap) S F D) {q : Nat} (hq : q < D.length) :
    wx.cell? ⟨g, q * 4, none⟩ = some (.int .i64 (D.getD q hd0).r) ∧ wx.cell? ⟨g, q * 4 + 1, none⟩ = some (.int .i64 (D.getD q hd0).g) ∧ wx.cell? ⟨g, q * 4 + 2, none⟩ = some (.int .i64 (D.getD q hd0).o) ∧ wx.cell? ⟨g, q * 4 + 3, none⟩ = some (.int .i64 (D.getD q hd0).l) := by
  have hc : ∀ c, c < 4 → wx.cell? ⟨g, q * 4 + c, none⟩ = some ((D.getD q hd0).cell c) := fun c hc4 => by
    have h1 := World.ownsRow.cells h.rd (g := g) rfl (q * 4 + c) _ (flat_get D q c hc4 hq)
    have hadd : (⟨g, 0, none⟩ : Addr).add (q * 4 + c) = ⟨g, q * 4 + c, none⟩ := by unfold Addr.add; split <;> simp_all
    rw [hadd] at h1; exact h1
  exact ⟨hc 0 (by omega), hc 1 (by omega), hc 2 (by omega), hc 3 (by omega)⟩

theorem shl_al (c : Nat) (hc : c < 7) : ∃ al : Nat, alB al = true ∧ (2 : Int) ^ c = (al : Int) ∧ al ≤ 64 ∧ 1 ≤ al := by
  match c, hc with
  | 0, _ => exact ⟨1, rfl, rfl, by omega, by omega⟩
  | 1, _ => exact ⟨2, rfl, rfl, by omega, by omega⟩
  | 2, _ => exact ⟨4, rfl, rfl, by omega, by omega⟩
  | 3, _ => exact ⟨8, rfl, rfl, by omega, by omega⟩
  | 4, _ => exact ⟨16, rfl, rfl, by omega, by omega⟩
  | 5, _ => exact ⟨32, rfl, rfl, by omega, by omega⟩
  | 6, _ => exact ⟨64, rfl, rfl, by omega, by omega⟩

theorem alloc_ap {w0 : World} {S : Ps} {F : Nat → Prop} {D : List Hd} {i n al : Nat} (hO : S.Ok) (hq : AInv S D) (hi : i < 3) (h1 : 1 ≤ n) (h2 : n ≤ 128) (hal : alB al = true) :
    (∀ w, St w0 w S F → Calls Try.prog 16 #[.pointer (some ⟨S.pb, 0, none⟩), .int .i64 i, .int .i64 n, .int .i64 al] w fun e w' => e = .returned (.tuple #[zeroH, .int .i64 5]) ∧ Grew w w') ∨
    ∃ g o : Nat, ∀ w, St w0 w S F → Calls Try.prog 16 #[.pointer (some ⟨S.pb, 0, none⟩), .int .i64 i, .int .i64 n, .int .i64 al] w fun e w' => e = .returned (.tuple #[Hv i g o n, .int .i64 0]) ∧ ∃ S' F', St w0 w' S' F' ∧ S'.pb = S.pb ∧ AInv S' (D ++ [⟨i, g, o, n⟩]) ∧ S'.gen = S.gen ∧ Moves F w F' w' := by
  have hlv : S.live i = true := by rw [hq.lv i (by omega)]; simpa using hi
  have hsz : n ≤ S.size := by rw [hq.sz]; exact h2
  have hs : 0 < S.size := by have := hO.s1; omega
  cases hf : S.fits i n al
  · cases hid : S.idle with
    | none => exact .inl (fun w h => alloc_full h.at_ h.ok (by omega) hlv h1 hsz hal hf hid)
    | some j =>
      refine .inr ⟨S.gen i, (S.sl i).length * S.size, fun w h => (h.allocNew (by omega) hlv h1 hsz hal hf hid).mono ?_⟩
      rintro e w' ⟨rfl, v, F', h3, h4⟩
      exact ⟨rfl, _, F', h3, rfl, hq.add rfl rfl rfl rfl (fun k hk => by simp [Ps.filled, Ps.handed, hk]) hi rfl h1 h2 (h.ok.v2 i (by omega)) (by simp [Ps.filled]) (by rw [Nat.mul_mod_left]; omega), rfl, h4⟩
  · refine .inr ⟨S.gen i, S.from i al, fun w h => (h.allocFit (by omega) hlv h1 hsz hal hf).mono ?_⟩
    rintro e w' ⟨rfl, h3, h4⟩
    simp only [Ps.fits, Bool.and_eq_true, decide_eq_true_eq] at hf
    have hd := Nat.div_add_mod (S.fill i) S.size
    have hfm : S.from i al = S.size * (S.fill i / S.size) + upTo (S.fill i % S.size) al := by unfold Ps.from; omega
    have hup : S.fill i % S.size ≤ upTo (S.fill i % S.size) al := by
      have ha := alB_le hal
      unfold upTo
      have h5 := Nat.div_add_mod (S.fill i % S.size + al - 1) al
      have h6 := Nat.mod_lt (S.fill i % S.size + al - 1) (show 0 < al by omega)
      rw [Nat.mul_comm] at h5; omega
    refine ⟨rfl, _, F, h3, rfl, hq.add rfl rfl rfl rfl (fun k hk => by simp [Ps.filled, hk]) hi rfl h1 h2 (by omega) (by simp [Ps.filled]) ?_, rfl, h4⟩
    rw [hfm, Nat.mul_add_mod, Nat.mod_eq_of_lt (by omega)]
    exact hf.2

set_option maxRecDepth 100000 in
set_option maxHeartbeats 40000000 in
theorem walk (a0 : Option Addr) (len0 cap0 : Nat) (z0 : List Int) (a1 : Option Addr) (len1 cap1 : Nat) (z1 : List Int) (w : World) (w0 : IsRow .i64 w a0 len0 cap0 z0) (w1' : IsRow .u8 w a1 len1 cap1 z1) :
    Calls Try.prog 4 #[.slice a0 len0 cap0, .slice a1 len1 cap1] w fun e w' => e = .returned (.bool true) ∧ Below w.heap.size w w' := by
  obtain ⟨i0, hi0, hz0, hz1, hz2⟩ := info_parts regionStale.Try.info41
  have hlen := w0.len
  have HW := Lib.hid w0
  have HM := Lib.hid w1'
  clear w0 w1'
  go_enter Try.func4, Try.ntmps4
  go_wp2_with fail
  refine (fertile_any _).mono ?_
  rintro e w1 ⟨rfl, hg1⟩
  have HG1 := Lib.hid hg1
  have HN : Hid (Calls Try.prog 11 #[.int .i64 128, .int .i64 40] w1 _) := St.new w1 128 40 (by omega) (by omega) (by omega) (by omega) (by omega) (by omega)
  clear hg1
  go_wp2_with fail
  refine HN.out.mono ?_
  rintro e w2 ⟨pb, bb, tb, F0, rfl, hS0, hF0⟩
  have HM0 := Lib.hid (show N1 w1 pb 0 w2 from ⟨_, F0, hS0, rfl, rfl, rfl, fun i _ => by simp [Ps.new], fun i _ => ⟨Nat.zero_le _, fun _ => rfl⟩⟩)
  clear hS0 hF0 HN
  go_wp2_with fail
  go_loopw [8, 9, 10] (fun i _ _ wq => ∃ k : Nat, k ≤ 3 ∧ i = .int .i64 k ∧ Hid (N1 w1 pb k wq)) (fun i _ _ _ => 3 - (intOf i).toNat)
  case atStart => exact ⟨0, Nat.zero_le _, rfl, HM0.out⟩
  case round =>
    obtain ⟨k, hk, rfl, hM⟩ := hrel
    clear HM0
    by_cases hlt : k < 3
    · obtain ⟨S, F, hS, e1, e2, e3, e4, e5⟩ := hM.out
      have hnx : S.next = some k := idleFrom_is (by omega) (by rw [e4 k (by omega)]; simp) (fun q hq => by rw [e4 q (by omega)]; simpa using hq)
      have hmk := hS.make (fun i hi => by have := (e5 i hi).1; omega) hnx
      rw [e1] at hmk
      have hnext : ∀ w', St w1 w' (S.made k) F → N1 w1 pb (k + 1) w' := fun w' h => ⟨S.made k, F, h, e1, e2, e3, fun i hi => by
          by_cases e : i = k
          · subst e; simp [Ps.made]
          · simp only [Ps.made, if_neg e, e4 i hi]; rw [decide_eq_decide]; omega, fun i hi => by
          by_cases e : i = k
          · subst e; simp [Ps.made, (e5 i hi).2 (Nat.le_refl _)]
          · simp only [Ps.made, if_neg e]; exact ⟨(e5 i hi).1, fun h => (e5 i hi).2 (by omega)⟩⟩
      have HMK := Lib.hid hmk
      have HNX := Lib.hid hnext
      clear hmk hnext hS e1 e2 e3 e4 e5 hnx hM
      go_wp2_with fail
      refine HMK.out.mono ?_
      rintro e w3 ⟨rfl, hS3, _⟩
      have H3 := Lib.hid (HNX.out w3 hS3)
      clear hS3
      go_wp2
      go_roundw
      case rel => exact ⟨k + 1, by omega, by go_num, H3.out⟩
      case measure => simp [intOf]; omega
    · have : k = 3 := by omega
      subst this
      obtain ⟨S, F, hS, e1, e2, e3, e4, e5⟩ := hM.out
      have HA0 := Lib.hid (show ASt w1 wr pb (.slice none 0 0) S F [] from ⟨hS, e1, ⟨e2, e3, e4, fun i hi => by simp at hi, fun i j _ hj => by simp at hj⟩, fun i hi => (e5 i hi).1, World.ownsRow_nil _ _ _ _, fun g hg => by simp [Value.ownBlock] at hg⟩)
      clear hS e1 e2 e3 e4 e5 hM
      simp only [Int.cast_ofNat_Int]
      go_upto_block 2 with (fail)
      go_cut [7] (fun dv wx => ∃ S F D, D.length ≤ 60 ∧ Hid (ASt w1 wx pb dv S F D))
      case first =>
        go_wp2_with fail
        go_loopw [7, 11] (fun dv i wq => ∃ m : Nat, m ≤ 60 ∧ i = .int .i64 m ∧ ∃ S F D, D.length ≤ m ∧ Hid (ASt w1 wq pb dv S F D)) (fun _ i _ => 60 - (intOf i).toNat)
        case atStart => exact ⟨0, by omega, rfl, _, _, [], by simp, HA0.out⟩
        case round =>
          obtain ⟨m, hm, rfl, S, F, D, hDl, hA⟩ := hrel
          clear HA0
          by_cases hml : m < len0 ∧ m < 60
          · obtain ⟨hm1, hm2⟩ := hml
            obtain ⟨b, off, rfl, hb, hcells, hwf⟩ := HW.out.at (by omega)
            have hcm := hcells m hm1
            generalize z0.getD m 0 = x at *
            have hbw : Below w.heap.size w wr := HG1.out.then hA.out.st.below
            have hcq : wr.cell? ⟨b, off + m, none⟩ = some (.int .i64 x) := (hbw.cell (p := ⟨b, off + m, none⟩) hb).trans hcm
            obtain ⟨nn, hnn, hnq⟩ : ∃ k : Nat, k < 128 ∧ wrap64 ((IntKind.u64.wrap x).tmod 128) = (k : Int) := modPos x 128 (by omega) (by omega)
            obtain ⟨c, hc, hc1, hc2⟩ : ∃ c : Nat, c < 7 ∧ (m : Int).tmod 7 = (c : Int) ∧ (m : Int) % 7 = (c : Int) := ⟨m % 7, by omega, by rw [Int.tmod_eq_emod_of_nonneg (by omega)]; omega, by omega⟩
            obtain ⟨r, hr, hr1, hr2⟩ : ∃ r : Nat, r < 3 ∧ (m : Int).tmod 3 = (r : Int) ∧ (m : Int) % 3 = (r : Int) := ⟨m % 3, by omega, by rw [Int.tmod_eq_emod_of_nonneg (by omega)]; omega, by omega⟩
            obtain ⟨al, hal1, hal2, hal3, hal4⟩ := shl_al c hc
            have hal := alloc_ap (w0 := w1) (F := F) (i := r) (n := 1 + nn) (al := al) hA.out.st.ok hA.out.ai hr (by omega) (by omega) hal1
            rw [hA.out.pb] at hal
            have w1e : IntKind.i64.wrap ((IntKind.u64.wrap x).tmod 128) = (nn : Int) := by
              rw [← hnq, IntKind.wrap_i64]; unfold wrap64; rfl
            have w2e : IntKind.i64.wrap (1 + (nn : Int)) = ((1 + nn : Nat) : Int) := by
              rw [show (1 + (nn : Int)) = ((1 + nn : Nat) : Int) from by omega]; exact IntWalk.i64_in _ (by omega)
            have w3e : IntKind.i64.wrap (2 ^ c) = (al : Int) := by rw [hal2]; exact IntWalk.i64_in _ (by omega)
            generalize hn : 1 + nn = n at *
            have hn1 : 1 ≤ n := by omega
            have hn2 : n ≤ 128 := by omega
            clear hcells hwf hbw hcm hal2 hn
            go_wp2_with fail
            have hbl : b < wr.heap.size := Nat.lt_of_lt_of_le hb (by have := HG1.out.size; have := hA.out.st.mv.size; omega)
            have hbn : b ≠ wr.heap.size := by omega
            have HD1 := Lib.hid hA.out.st.drew
            have HD2 := Lib.hid (hA.out.st.alloc (.cells #[.int .i64 0, .int .i64 0, .int .i64 0, .int .i64 0] 41)).drew
            have HRN := Lib.hid (show ResAt (wr.alloc (.cells #[.int .i64 0, .int .i64 0, .int .i64 0, .int .i64 0] 41)).drew wr.heap.size from (ResAt.new wr).block rfl)
            have HNF := Lib.hid hA.out.st.at_.outNew
            rcases hal with hal | ⟨g, o, hal⟩
            · have HAL := Lib.hid hal
              clear hal
              go_region_with (go_at_call 16; first
                | ((with_reducible refine (HAL.out _ HD1.out).mono ?_); rintro e w4 ⟨rfl, hg4⟩; have HG4 := Lib.hid ((show Grew wr wr.drew from (Below.refl _ _).drew).then hg4); clear hg4)
                | ((with_reducible refine (HAL.out _ HD2.out).mono ?_); rintro e w4 ⟨rfl, hg4⟩; have hR4 := HRN.out.block (hg4.block wr.heap.size (by simp)); have r0 := hR4.c0; have r1 := hR4.c1; have r2 := hR4.c2; have r3 := hR4.c3; have z0' := hR4.z 0; have z1' := hR4.z 1; have z2' := hR4.z 2; have z3' := hR4.z 3; have HG4 := Lib.hid ((show Grew wr (wr.alloc (.cells #[.int .i64 0, .int .i64 0, .int .i64 0, .int .i64 0] 41)).drew from (Grew.alloc _ _).drew).then hg4); clear hg4 hR4))
              all_goals
                have hA4 := hA.out.grew HG4.out
                have hnd4 : ∀ g, u7.ownBlock = some g → g ≠ wr.heap.size := fun g hg => by have := (hA.out.rd.lt g hg).2; omega
                have HA1 := Lib.hid (hA4.grew (Grew.alloc w4 (.cells #[.int .i64 0, .int .i64 0, .int .i64 0, .int .i64 0] 41)))
                have HA2 := Lib.hid (hA4.set4 HNF.out hA.out.st.mv.size hnd4 (.int .i64 0) (.int .i64 0) (.int .i64 0) (.int .i64 0))
                clear hA4 hnd4
                go_wp2_with fail
                go_meet
                first
                  | exact ⟨S, F, D, by omega, HA1.out⟩
                  | exact ⟨S, F, D, by omega, HA2.out⟩
            · have HAL := Lib.hid hal
              have HZ := Lib.hid (show HAt (wr.alloc (.cells #[.int .i64 0, .int .i64 0, .int .i64 0, .int .i64 0] 41)).drew wr.heap.size 0 0 0 0 from HAt.new wr 0 0 0 0)
              clear hal
              go_region_with ((go_at_call 16); first
                | ((with_reducible refine (HAL.out _ HD1.out).mono ?_); rintro e w4 ⟨rfl, S', F', hS4, e14, hI4, hG4, hM4⟩; have hH4 : True := trivial; have H4 := Lib.hid (And.intro hS4 (And.intro e14 (And.intro hI4 (And.intro hG4 ((Moves.drew F wr).trans hM4))))); clear hS4 e14 hI4 hG4 hM4)
                | ((with_reducible refine (HAL.out _ HD2.out).mono ?_); rintro e w4 ⟨rfl, S', F', hS4, e14, hI4, hG4, hM4⟩; have hH4 := HZ.out.moves hM4 HNF.out; have r0 := hH4.c0; have r1 := hH4.c1; have r2 := hH4.c2; have r3 := hH4.c3; have hR4 := HRN.out.block (hM4.block wr.heap.size (by simp) HNF.out); have z0' := hR4.z 0; have z1' := hR4.z 1; have z2' := hR4.z 2; have z3' := hR4.z 3; have H4 := Lib.hid (And.intro hS4 (And.intro e14 (And.intro hI4 (And.intro hG4 (((Moves.alloc F wr (.cells #[.int .i64 0, .int .i64 0, .int .i64 0, .int .i64 0] 41)).trans (Moves.drew F _)).trans hM4))))); have HH4 := Lib.hid hH4; have HNF4 := Lib.hid (hM4.out (by simp) HNF.out); clear hS4 e14 hI4 hG4 hM4 hR4 hH4))
              all_goals
                obtain ⟨hS4, e14, hI4, hG4, hM4⟩ := H4.out
                obtain ⟨m1, m2, m3⟩ := hA.out.moved hS4 e14 hI4 hG4 hM4
                have hnd4 : ∀ g, u7.ownBlock = some g → g ≠ wr.heap.size := fun g hg => by have := (hA.out.rd.lt g hg).2; omega
                have e15 : S'.pb = pb := e14
                clear e14 hG4 hM4 H4
                go_upto_region 20 with (fail)
                first
                  | (refine wp_gen (fun W => AfterAl w1 W pb u7 S' F' D (D ++ [⟨r, g, o, n⟩]) w4.heap.size r g o n) ⟨hS4.alloc _, e15, hI4, m3, m1.alloc _, m2, HAt.new w4 r g o n⟩ ?_; intro W hAA; generalize w4.heap.size = A at *)
                  | (refine wp_gen (fun W => AfterAl w1 W pb u7 S' F' D (D ++ [⟨r, g, o, n⟩]) wr.heap.size r g o n) ⟨(((hS4.setOut (a := ⟨wr.heap.size, 0, none⟩) HNF4.out hA.out.st.mv.size _).setOut (a := ⟨wr.heap.size, 1, none⟩) HNF4.out hA.out.st.mv.size _).setOut (a := ⟨wr.heap.size, 2, none⟩) HNF4.out hA.out.st.mv.size _).setOut (a := ⟨wr.heap.size, 3, none⟩) HNF4.out hA.out.st.mv.size _, e15, hI4, m3,
                      ownsRow_block m1 (fun g hg => by rw [Below.heap_setCell _ _ _ _ (hnd4 g hg), Below.heap_setCell _ _ _ _ (hnd4 g hg), Below.heap_setCell _ _ _ _ (hnd4 g hg), Below.heap_setCell _ _ _ _ (hnd4 g hg)]), m2, HAt.set4 HH4.out⟩ ?_; intro W hAA; generalize wr.heap.size = A at *)
                have q0 := hAA.h.c0
                have q1 := hAA.h.c1
                have q2 := hAA.h.c2
                have q3 := hAA.h.c3
                have HAA := Lib.hid hAA
                clear hAA hS4 hI4 m1 m2 m3 hnd4 e15
                go_wp2_with (at_builtin; refine wpList_append_lies _ rfl _ _ 37 rfl w1.heap.size 41 i0 (.agg #[.int .i64 0, .int .i64 0, .int .i64 0, .int .i64 0]) 4 32 Try.underlying37 hi0 hz0 hz1 hz2 rfl (by decide) u7 D.length (D.flatMap Hd.cells) rfl ?c0 ⟨W.heap.size, 0, none⟩ 1 1 (Hd.mk r g o n).cells rfl ?c1 ?c2 ?c3 ?c4 ?c5 ?c6 ?c7 (W.heap.size + 1) ?c8 ?_)
                case c0 => exact HAA.out.rd.alloc _
                case c1 => rfl
                case c2 => exact World.news_of_block (heap_alloc_new W (.cells #[.int .i64 r, .int .i64 g, .int .i64 o, .int .i64 n] 41))
                case c3 => intro u hu; simp [Hd.cells] at hu; rcases hu with rfl | rfl | rfl | rfl <;> rfl
                case c4 => decide
                case c5 => unfold maxLen; omega
                case c6 => omega
                case c7 => have := HAA.out.st.mv.size; simp; omega
                case c8 => simp
                intro g2 cap2 w6 hown hgr hg2 hlt2
                have hnd : ∀ g', u7.ownBlock = some g' → ¬ F' g' ∧ w1.heap.size ≤ g' := fun g' hg' => ⟨HAA.out.nd g' hg', (HAA.out.rd.lt g' hg').1⟩
                have hfin : ASt w1 w6 pb (.slice (some ⟨g2, 0, none⟩) (D.length + 1) cap2) S' F' (D ++ [⟨r, g, o, n⟩]) := ⟨regionStale.St.grown (HAA.out.st.alloc _) hgr hnd, HAA.out.pb, HAA.out.ai, HAA.out.gb, by
                    have e1 : (D ++ [Hd.mk r g o n]).length = D.length + 1 := by simp
                    have e2 : (D ++ [Hd.mk r g o n]).flatMap Hd.cells = D.flatMap Hd.cells ++ (Hd.mk r g o n).cells := by simp
                    rw [e1, e2]; exact hown, fun g' hg' => by
                    have : g' = g2 := by simpa [Value.ownBlock] using hg'.symm
                    subst this
                    rcases hg2 with h | h
                    · exact (hnd g' h).1
                    · intro hF; have := HAA.out.st.at_.fl _ hF; omega⟩
                have HFN := Lib.hid hfin
                clear hfin hnd hown hgr hg2 hlt2 HAA q0 q1 q2 q3
                go_wp2
                go_roundw
                case rel => exact ⟨m + 1, by omega, by go_num, S', F', D ++ [Hd.mk r g o n], (by simp; omega), HFN⟩
                case measure => simp [intOf]; omega
          · by_cases hm0 : m < len0
            · have : m = 60 := by omega
              subst this
              clear hml
              go_wp2_with fail
              go_meet
              exact ⟨S, F, D, by omega, hA.out⟩
            · clear hml
              go_wp2_with fail
              go_meet
              exact ⟨S, F, D, by omega, hA.out⟩
      case rest =>
        obtain ⟨S0, F, D, hDl, hA0⟩ := hcut
        obtain ⟨da, dcap, hdv⟩ : ∃ a c, u7 = .slice a D.length c := by
          rcases hA0.out.rd.2 with ⟨e, h0⟩ | ⟨g, cap, cur, hv, _⟩
          · exact ⟨none, 0, by rw [e, h0]⟩
          · exact ⟨_, cap, hv⟩
        subst hdv
        go_wp2_with fail
        go_loopw [14, 15, 16, 17, 18] (fun r _ _ _ _ wq => ∃ ro : Nat, ro ≤ 2 ∧ r = .int .i64 ro ∧ ∃ S, Hid (ASt w1 wq pb (.slice da D.length dcap) S F D)) (fun r _ _ _ _ _ => 2 - (intOf r).toNat)
        case atStart => exact ⟨0, by omega, rfl, S0, hA0.out⟩
        case round =>
          obtain ⟨ro, hro, rfl, S1, hA1⟩ := hrel
          clear hA0
          by_cases hrl : ro < 2
          · have hqr : decide ((ro : Int) < 2) = true := by simp; omega
            go_wp2_with fail
            clear hqr
            go_loopw [15] (fun i wq => ∃ q : Nat, q ≤ D.length ∧ i = .int .i64 q ∧ ∃ S, Hid (ASt w1 wq pb (.slice da D.length dcap) S F D ∧ Holds S D z1 len1 ro q)) (fun i _ => D.length - (intOf i).toNat)
            case atStart => exact ⟨0, by omega, rfl, S1, hA1.out, fun j hj => by omega⟩
            case round =>
              obtain ⟨q, hq, rfl, S, hAH⟩ := hrel
              clear hA1
              by_cases hql : q < D.length
              · obtain ⟨hA, hH⟩ := hAH.out
                obtain ⟨gD, hgd⟩ : ∃ gD, da = some ⟨gD, 0, none⟩ := by
                  rcases hA.rd.2 with ⟨e, h0⟩ | ⟨g, cap, cur, hv, _⟩
                  · omega
                  · injection hv with h1; exact ⟨g, h1⟩
                subst hgd
                have hp := hA.ai.d q hql
                have hcs : ∀ wx, ASt w1 wx pb (.slice (some ⟨gD, 0, none⟩) D.length dcap) S F D → _ := fun wx hx => had_cells hx hql
                have hmk := mark_any wr.drew a1 len1 cap1 z1 (IsRow.grew HM.out (HG1.out.then hA.st.below).drew) q ro (D.getD q hd0).l (by omega) (by omega) hp.l1 hp.l2
                have hAd : ASt w1 wr.drew pb (.slice (some ⟨gD, 0, none⟩) D.length dcap) S F D := hA.grew (Below.refl _ _).drew
                have hlv : S.live (D.getD q hd0).r = true := by rw [hA.ai.lv _ (by have := hp.r; omega)]; simpa using hp.r
                have hst : ∀ w5 v5, FreshRow 5 wr.drew v5 (u8s (markL z1 len1 q ro (D.getD q hd0).l)) w5 → Calls Try.prog 22 #[.pointer (some ⟨pb, 0, none⟩), Hv (D.getD q hd0).r (D.getD q hd0).g (D.getD q hd0).o (D.getD q hd0).l, .int .i64 0, v5] w5 fun e w' => e = .returned (.int .i64 0) ∧ ASt w1 w' pb (.slice (some ⟨gD, 0, none⟩) D.length dcap) (S.stored (S.addr (D.getD q hd0).r (D.getD q hd0).o + 0) (markL z1 len1 q ro (D.getD q hd0).l)) F D := fun w5 v5 hf => by
                  have hg5 : Grew wr.drew w5 := by obtain ⟨_, _, _, _, _, _, h⟩ := hf; exact h
                  have hA5 := hAd.grew hg5
                  have := hA5.st.store (i := (D.getD q hd0).r) (o := (D.getD q hd0).o) (l := (D.getD q hd0).l) (at_ := 0) (by have := hp.r; omega) hlv hp.l1 hp.f hp.m (reads_fresh hf) (fun x hx => by simp [markL] at hx; obtain ⟨k, _, rfl⟩ := hx; exact markB_lt _ _ _ _ _) (by simp [markL])
                  rw [hA.pb, hp.g] at this
                  refine this.mono ?_
                  rintro e w' ⟨rfl, hS', hM'⟩
                  exact ⟨rfl, hS', hA.pb, hA.ai.stored _ _, hA.gb, ownsRow_block hA5.rd (fun g hg => hM'.block g (hA5.rd.lt g hg).2 (hA5.nd g hg)), hA5.nd⟩
                have hHn := hH.store hA.st.ok hA.ai hql
                obtain ⟨c0, c1, c2, c3⟩ := hcs wr hA
                generalize D.getD q hd0 = hd at *
                have HMK := Lib.hid hmk
                have HST := Lib.hid hst
                have HCS := Lib.hid hcs
                have HAd := Lib.hid hAd
                have HHN := Lib.hid hHn
                clear hmk hst hcs hAd hHn hA hH hAH hlv hp
                go_wp2_with fail
                go_region_with (first
                  | (go_at_call 29; (with_reducible refine HMK.out.mono ?_); rintro e w5 ⟨v5, rfl, hf5⟩; have hg5 : Grew wr.drew w5 := (by obtain ⟨_, _, _, _, _, _, h⟩ := hf5; exact h); have hx5 := HCS.out w5 (HAd.out.grew hg5); have d0 := hx5.1; have d1 := hx5.2.1; have d2 := hx5.2.2.1; have d3 := hx5.2.2.2; have HF5 := Lib.hid hf5; clear hf5 hg5 hx5)
                  | (go_at_call 22; (refine (HST.out _ _ HF5.out).mono ?_); rintro e w6 ⟨rfl, h6⟩; have H6 := Lib.hid h6; clear h6))
                all_goals
                  have HPR := Lib.hid (And.intro H6.out HHN.out)
                  go_wp2
                  go_roundw
                  case rel => first | exact ⟨q + 1, by omega, by go_num, _, HPR⟩ | ((repeat apply Exists.intro); exact ⟨⟨q + 1, by omega, (by go_num : Value.int .i64 ((q : Int) + 1) = Value.int .i64 ((q + 1 : Nat) : Int)), _, HPR⟩, rfl⟩)
                  case measure => simp [intOf]; omega
              · have : q = D.length := by omega
                subst this
                go_wp2_with fail
                go_loopw [16, 17, 18] (fun i _ _ wq => ∃ p : Nat, p ≤ D.length ∧ i = .int .i64 p ∧ Hid (ASt w1 wq pb (.slice da D.length dcap) S F D)) (fun i _ _ _ => D.length - (intOf i).toNat)
                case atStart => exact ⟨0, by omega, rfl, hAH.out.1⟩
                case round =>
                  obtain ⟨p, hp, rfl, hA⟩ := hrel
                  have HH := Lib.hid hAH.out.2
                  clear hAH
                  by_cases hpl : p < D.length
                  · obtain ⟨gD, hgd⟩ : ∃ gD, da = some ⟨gD, 0, none⟩ := by
                      rcases hA.out.rd.2 with ⟨e, h0⟩ | ⟨g, cap, cur, hv, _⟩
                      · omega
                      · injection hv with h1; exact ⟨g, h1⟩
                    subst hgd
                    have hpo := hA.out.ai.d p hpl
                    have hcs : ∀ wx, ASt w1 wx pb (.slice (some ⟨gD, 0, none⟩) D.length dcap) S F D → _ := fun wx hx => had_cells hx hpl
                    have hlv : S.live (D.getD p hd0).r = true := by rw [hA.out.ai.lv _ (by have := hpo.r; omega)]; simpa using hpo.r
                    have hld := load_ok hA.out.st.at_ hA.out.st.ok (i := (D.getD p hd0).r) (o := (D.getD p hd0).o) (l := (D.getD p hd0).l) (by have := hpo.r; omega) hlv hpo.l1 hpo.f hpo.m
                    rw [hA.out.pb, hpo.g, HH.out p hpl] at hld
                    obtain ⟨c0, c1, c2, c3⟩ := hcs wr hA.out
                    have hl1 := hpo.l1
                    have hl2 := hpo.l2
                    generalize D.getD p hd0 = hd at *
                    have HLD := Lib.hid hld
                    have HCS := Lib.hid hcs
                    clear hld hcs hlv hpo
                    go_wp2_with fail
                    refine HLD.out.mono ?_
                    rintro e w6 ⟨v6, rfl, hf6⟩
                    have hg6 : Grew wr w6 := by obtain ⟨_, _, _, _, _, _, h⟩ := hf6; exact h
                    have hA6 := hA.out.grew hg6
                    obtain ⟨d0, d1, d2, d3⟩ := HCS.out w6 hA6
                    have hmb : ∀ x, x ∈ markL z1 len1 p ro hd.l → x < 256 := fun x hx => by simp [markL] at hx; obtain ⟨k, _, rfl⟩ := hx; exact markB_lt _ _ _ _ _
                    have hml : 1 ≤ (markL z1 len1 p ro hd.l).length := by simp [markL]; exact hl1
                    have hrd6 := reads_fresh hf6
                    have cv1 : (convert 49 9 v6).run Try.prog w6.drew = .ok (.string (textOf (markL z1 len1 p ro hd.l))) w6.drew := conv_reads (hrd6.grew (Below.refl _ _).drew) hmb hml
                    have hmk := mark_any w6.drew a1 len1 cap1 z1 (IsRow.grew HM.out (HG1.out.then hA6.st.below).drew) p ro hd.l (by omega) (by omega) hl1 hl2
                    have hcv : ∀ w7 v7, FreshRow 5 w6.drew v7 (u8s (markL z1 len1 p ro hd.l)) w7 → ((convert 49 9 v6).run Try.prog w7 = .ok (.string (textOf (markL z1 len1 p ro hd.l))) w7 ∧ (convert 49 9 v7).run Try.prog w7 = .ok (.string (textOf (markL z1 len1 p ro hd.l))) w7) ∧ ASt w1 w7 pb (.slice (some ⟨gD, 0, none⟩) D.length dcap) S F D := fun w7 v7 hf => by
                      have hg7 : Grew w6.drew w7 := by obtain ⟨_, _, _, _, _, _, h⟩ := hf; exact h
                      have hgr : Grew w6 w6.drew := (Below.refl _ _).drew
                      exact ⟨⟨conv_reads ((hrd6.grew hgr).grew hg7) hmb hml, conv_reads (reads_fresh hf) hmb hml⟩, (hA6.grew hgr).grew hg7⟩
                    generalize textOf (markL z1 len1 p ro hd.l) = tx at *
                    have HMK := Lib.hid hmk
                    have HCV := Lib.hid hcv
                    have HA6 := Lib.hid (hA6.grew ((Below.refl _ w6).drew))
                    have htx : (tx.toList != tx.toList) = false := by simp
                    have HA6 := Lib.hid (hA6.grew ((Below.refl _ w6).drew))
                    have htx : (tx.toList != tx.toList) = false := by simp
                    have HA6 := Lib.hid (hA6.grew ((Below.refl _ w6).drew))
                    have htx : (tx.toList != tx.toList) = false := by simp
                    have HA6 := Lib.hid (hA6.grew ((Below.refl _ w6).drew))
                    have htx : (tx.toList != tx.toList) = false := by simp
                    clear hmk hcv hrd6 hmb hml hA6 hg6 hf6 c0 c1 c2 c3 HLD hA
                    go_wp2_with fail
                    refine wp_region_held_drew (S := fun w' => ASt w1 w' pb (.slice (some ⟨gD, 0, none⟩) D.length dcap) S F D ∧ (convert 49 9 v6).run Try.prog w' = .ok (.string tx) w') (by kernel_rfl) ⟨HA6.out, cv1⟩ (fun hHeld => ?_)
                    refine wpAnyH_take (i := 0) (v := ?_) rfl (by kernel_rfl) (by kernel_rfl) (by kernel_rfl) (fun _ _ _ h => h) (Or.inl ⟨by rfl, ?_⟩) hHeld ?_
                    rotate_left
                    · (intro wx hSw; obtain ⟨hSa, hSc⟩ := hSw; obtain ⟨e0, e1, e2, e3⟩ := HCS.out wx hSa; clear hSa; first | (go_simp; done) | (go_simp; with_reducible rfl))
                    simp only [Act.put, List.getElem_toArray, List.getElem_cons_zero, List.setIfInBounds_toArray, List.set_cons_zero, List.set_cons_succ]
                    refine wpAnyH_take (i := 1) (v := ?_) rfl (by kernel_rfl) (by kernel_rfl) (by kernel_rfl) (fun _ _ _ h => h) (Or.inl ⟨by rfl, ?_⟩) hHeld ?_
                    rotate_left
                    · (intro wx hSw; obtain ⟨hSa, hSc⟩ := hSw; obtain ⟨e0, e1, e2, e3⟩ := HCS.out wx hSa; clear hSa; first | (go_simp; done) | (go_simp; with_reducible rfl))
                    simp only [Act.put, List.getElem_toArray, List.getElem_cons_zero, List.getElem_cons_succ, List.setIfInBounds_toArray, List.set_cons_zero, List.set_cons_succ]
                    refine wpAnyH_take (i := 2) (v := ?_) rfl (by kernel_rfl) (by kernel_rfl) (by kernel_rfl) (fun _ _ _ h => h) (Or.inl ⟨by rfl, ?_⟩) hHeld ?_
                    rotate_left
                    · (intro wx hSw; obtain ⟨hSa, hSc⟩ := hSw; obtain ⟨e0, e1, e2, e3⟩ := HCS.out wx hSa; clear hSa; first | (go_simp; done) | (go_simp; with_reducible rfl))
                    simp only [Act.put, List.getElem_toArray, List.getElem_cons_zero, List.getElem_cons_succ, List.setIfInBounds_toArray, List.set_cons_zero, List.set_cons_succ]
                    refine wpAnyH_take (i := 3) (v := ?_) rfl (by kernel_rfl) (by kernel_rfl) (by kernel_rfl) (fun _ _ _ h => h) (Or.inl ⟨by rfl, ?_⟩) hHeld ?_
                    rotate_left
                    · (intro wx hSw; obtain ⟨hSa, hSc⟩ := hSw; obtain ⟨e0, e1, e2, e3⟩ := HCS.out wx hSa; clear hSa; first | (go_simp; done) | (go_simp; with_reducible rfl))
                    simp only [Act.put, List.getElem_toArray, List.getElem_cons_zero, List.getElem_cons_succ, List.setIfInBounds_toArray, List.set_cons_zero, List.set_cons_succ]
                    refine wpAnyH_take (i := 4) (v := ?_) rfl (by kernel_rfl) (by kernel_rfl) (by kernel_rfl) (fun _ _ _ h => h) (Or.inl ⟨by rfl, ?_⟩) hHeld ?_
                    rotate_left
                    · (intro wx hSw; obtain ⟨hSa, hSc⟩ := hSw; obtain ⟨e0, e1, e2, e3⟩ := HCS.out wx hSa; clear hSa; first | (go_simp; done) | (go_simp; with_reducible rfl))
                    simp only [Act.put, List.getElem_toArray, List.getElem_cons_zero, List.getElem_cons_succ, List.setIfInBounds_toArray, List.set_cons_zero, List.set_cons_succ]
                    refine wpAnyH_take (i := 5) (v := ?_) rfl (by kernel_rfl) (by kernel_rfl) (by kernel_rfl) (fun _ _ _ h => h) (Or.inl ⟨by rfl, ?_⟩) hHeld ?_
                    rotate_left
                    · (intro wx hSw; obtain ⟨hSa, hSc⟩ := hSw; obtain ⟨e0, e1, e2, e3⟩ := HCS.out wx hSa; clear hSa; first | (go_simp; done) | (go_simp; with_reducible rfl))
                    simp only [Act.put, List.getElem_toArray, List.getElem_cons_zero, List.getElem_cons_succ, List.setIfInBounds_toArray, List.set_cons_zero, List.set_cons_succ]
                    refine wpAnyH_take (i := 6) (v := ?_) rfl (by kernel_rfl) (by kernel_rfl) (by kernel_rfl) (fun _ _ _ h => h) (Or.inl ⟨by rfl, ?_⟩) hHeld ?_
                    rotate_left
                    · (intro wx hSw; obtain ⟨hSa, hSc⟩ := hSw; obtain ⟨e0, e1, e2, e3⟩ := HCS.out wx hSa; clear hSa; first | (go_simp; done) | (go_simp; with_reducible rfl))
                    simp only [Act.put, List.getElem_toArray, List.getElem_cons_zero, List.getElem_cons_succ, List.setIfInBounds_toArray, List.set_cons_zero, List.set_cons_succ]
                    refine wpAnyH_take (i := 7) (v := ?_) rfl (by kernel_rfl) (by kernel_rfl) (by kernel_rfl) (fun _ _ _ h => h) (Or.inl ⟨by rfl, ?_⟩) hHeld ?_
                    rotate_left
                    · (intro wx hSw; obtain ⟨hSa, hSc⟩ := hSw; obtain ⟨e0, e1, e2, e3⟩ := HCS.out wx hSa; clear hSa; first | (go_simp; done) | (go_simp; with_reducible rfl))
                    simp only [Act.put, List.getElem_toArray, List.getElem_cons_zero, List.getElem_cons_succ, List.setIfInBounds_toArray, List.set_cons_zero, List.set_cons_succ]
                    refine wpAnyH_take (i := 8) (v := ?_) rfl (by kernel_rfl) (by kernel_rfl) (by kernel_rfl) (fun _ _ _ h => h) (Or.inl ⟨by rfl, ?_⟩) hHeld ?_
                    rotate_left
                    · (intro wx hSw; obtain ⟨hSa, hSc⟩ := hSw; obtain ⟨e0, e1, e2, e3⟩ := HCS.out wx hSa; clear hSa; first | (go_simp; done) | (go_simp; with_reducible rfl))
                    simp only [Act.put, List.getElem_toArray, List.getElem_cons_zero, List.getElem_cons_succ, List.setIfInBounds_toArray, List.set_cons_zero, List.set_cons_succ]
                    refine wpAnyH_take (i := 9) (v := ?_) rfl (by kernel_rfl) (by kernel_rfl) (by kernel_rfl) (fun _ _ _ h => h) (Or.inl ⟨by rfl, ?_⟩) hHeld ?_
                    rotate_left
                    · (intro wx hSw; obtain ⟨hSa, hSc⟩ := hSw; obtain ⟨e0, e1, e2, e3⟩ := HCS.out wx hSa; clear hSa; first | (go_simp; done) | (go_simp; with_reducible rfl))
                    simp only [Act.put, List.getElem_toArray, List.getElem_cons_zero, List.getElem_cons_succ, List.setIfInBounds_toArray, List.set_cons_zero, List.set_cons_succ]
                    refine wpAnyH_take (i := 10) (v := ?_) rfl (by kernel_rfl) (by kernel_rfl) (by kernel_rfl) (fun _ _ _ h => h) (Or.inl ⟨by rfl, ?_⟩) hHeld ?_
                    rotate_left
                    · (intro wx hSw; obtain ⟨hSa, hSc⟩ := hSw; obtain ⟨e0, e1, e2, e3⟩ := HCS.out wx hSa; clear hSa; first | (go_simp; done) | (go_simp; with_reducible rfl))
                    simp only [Act.put, List.getElem_toArray, List.getElem_cons_zero, List.getElem_cons_succ, List.setIfInBounds_toArray, List.set_cons_zero, List.set_cons_succ]
                    refine wpAnyH_take (i := 11) (v := ?_) rfl (by kernel_rfl) (by kernel_rfl) (by kernel_rfl) (fun _ _ _ h => h) (Or.inl ⟨by rfl, ?_⟩) hHeld ?_
                    rotate_left
                    · (intro wx hSw; obtain ⟨hSa, hSc⟩ := hSw; obtain ⟨e0, e1, e2, e3⟩ := HCS.out wx hSa; clear hSa; first | (go_simp; done) | (go_simp; with_reducible rfl))
                    simp only [Act.put, List.getElem_toArray, List.getElem_cons_zero, List.getElem_cons_succ, List.setIfInBounds_toArray, List.set_cons_zero, List.set_cons_succ]
                    refine wpAnyH_take (i := 12) (v := ?_) rfl (by kernel_rfl) (by kernel_rfl) (by kernel_rfl) (fun _ _ _ h => h) (Or.inl ⟨by rfl, ?_⟩) hHeld ?_
                    rotate_left
                    · (intro wx hSw; obtain ⟨hSa, hSc⟩ := hSw; obtain ⟨e0, e1, e2, e3⟩ := HCS.out wx hSa; clear hSa; first | (go_simp; done) | (go_simp; with_reducible rfl))
                    simp only [Act.put, List.getElem_toArray, List.getElem_cons_zero, List.getElem_cons_succ, List.setIfInBounds_toArray, List.set_cons_zero, List.set_cons_succ]
                    refine wpAnyH_ready (rs := [13]) (by kernel_rfl) (by simp) ?_
                    refine AllReadyH.cons rfl (fun K hK => ?_) AllReadyH.nil
                    go_simp
                    refine HMK.out.mono ?_
                    rintro e w7 ⟨v7, rfl, hf7⟩
                    have hx7 := HCV.out w7 v7 hf7
                    have cv2 := hx7.1.1
                    have cv3 := hx7.1.2
                    have H7 := Lib.hid hx7.2
                    clear hx7 hf7
                    try go_wp2_with fail
                    refine hK.out _ _ ⟨H7.out, cv2⟩ (fun hHeld => ?_)
                    clear hK K
                    try simp only [Act.put, List.setIfInBounds_toArray, List.set_cons_zero, List.set_cons_succ]
                    refine wpAnyH_ready (rs := [14]) (by kernel_rfl) (by simp) ?_
                    refine AllReadyH.cons rfl (fun K hK => ?_) AllReadyH.nil
                    go_simp
                    refine hK.out _ _ hHeld (fun hHeld => ?_)
                    clear hK K
                    try simp only [Act.put, List.setIfInBounds_toArray, List.set_cons_zero, List.set_cons_succ]
                    refine wpAnyH_take (i := 15) (v := ?_) rfl (by kernel_rfl) (by kernel_rfl) (by kernel_rfl) (fun _ _ _ h => h) (Or.inl ⟨by rfl, ?_⟩) hHeld ?_
                    rotate_left
                    · (intro wx hSw; obtain ⟨hSa, hSc⟩ := hSw; obtain ⟨e0, e1, e2, e3⟩ := HCS.out wx hSa; clear hSa; first | (go_simp; done) | (go_simp; with_reducible rfl))
                    simp only [Act.put, List.getElem_toArray, List.getElem_cons_zero, List.getElem_cons_succ, List.setIfInBounds_toArray, List.set_cons_zero, List.set_cons_succ]
                    refine wpAnyH_take (i := 16) (v := ?_) rfl (by kernel_rfl) (by kernel_rfl) (by kernel_rfl) (fun _ _ _ h => h) (Or.inl ⟨by rfl, ?_⟩) hHeld ?_
                    rotate_left
                    · (intro wx hSw; obtain ⟨hSa, hSc⟩ := hSw; obtain ⟨e0, e1, e2, e3⟩ := HCS.out wx hSa; clear hSa; first | (go_simp; done) | (go_simp; with_reducible rfl))
                    simp only [Act.put, List.getElem_toArray, List.getElem_cons_zero, List.getElem_cons_succ, List.setIfInBounds_toArray, List.set_cons_zero, List.set_cons_succ]
                    refine wpAnyH_done (by kernel_rfl) ?_ _
                    all_goals
                      go_wp2
                      go_roundw
                      case rel => first | exact ⟨p + 1, by omega, by go_num, H7.out⟩ | ((repeat apply Exists.intro); exact ⟨⟨p + 1, by omega, (by go_num : Value.int .i64 ((p : Int) + 1) = Value.int .i64 ((p + 1 : Nat) : Int)), H7⟩, rfl⟩)
                      case measure => simp [intOf]; omega
                  · have : p = D.length := by omega
                    subst this
                    go_wp2
                    go_roundw
                    case rel => first | exact ⟨ro + 1, by omega, by go_num, S, hA.out⟩ | ((repeat apply Exists.intro); exact ⟨⟨ro + 1, by omega, (by go_num : Value.int .i64 ((ro : Int) + 1) = Value.int .i64 ((ro + 1 : Nat) : Int)), S, hA⟩, rfl⟩)
                    case measure => simp [intOf]; omega
          · have HB := Lib.hid (HG1.out.then hA1.out.st.below)
            have : ro = 2 := by omega
            subst this
            go_wp2
            go_ret
            exact ⟨rfl, HB.out⟩
end Go.Proofs.Ytaaalfimlpeddaa.regionApart
