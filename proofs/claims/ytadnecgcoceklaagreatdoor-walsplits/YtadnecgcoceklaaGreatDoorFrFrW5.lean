/-
  What Scan answers.
-/
import Derived.Test.YtadnecgcoceklaaGreatDoorFrFrW4
namespace Go.Proofs.YtadnecgcoceklaaGreatDoor.FR
open Go.RowKit

theorem Tryz.info9 : (Tryz.prog.info? 9).map (fun i => (i.zero, i.size, i.bytes)) = some (some (.string ByteArray.empty), 1, 16) := by kernel_rfl
def strV (l : List ByteArray) : List Value := l.map fun s => Value.string s
/-- A text appended to a row of texts of one's own. -/
theorem appT (B : Nat) (w : World) (v : Value) (ys : List ByteArray) (s : ByteArray) (n : Nat) (hown : w.ownsRow B 9 1 v n (strV ys)) (hB : B ≤ w.heap.size) (hl : n ≤ 1000000000) :
    ∃ v' w2, (Builtin.append_ #[23, 23] 23 #[v, .slice (some ⟨w.heap.size, 0, none⟩) 1 1]).run Tryz.prog (w.alloc (.cells #[.string s] 9)) = .ok v' w2 ∧ w2.ownsRow B 9 1 v' (n + 1) (strV (ys ++ [s])) ∧ Below B w w2 ∧ ∀ q, q < w.heap.size → v.ownBlock ≠ some q → v'.ownBlock ≠ some q ∧ w2.heap[q]? = w.heap[q]? := by
  obtain ⟨i0, hi0, hz0, hz1, hz2⟩ := info_parts Tryz.info9
  obtain ⟨v', w2, h1, h2, h3, _, h5⟩ := run_append_own_at (P := Tryz.prog) (w.alloc (.cells #[.string s] 9)) B 23 23 9 i0 (.string ByteArray.empty) 1 16 Tryz.underlying23 hi0 hz0 hz1 hz2 rfl (by decide) v n (strV ys) (hown.alloc _) ⟨w.heap.size, 0, none⟩ 1 1 [.string s] rfl (cell_one_new _ _ _) (by intro u hu; simp at hu; subst hu; rfl) (by unfold maxLen; omega) (by omega) (by simp; omega)
  refine ⟨v', w2, h1, by unfold strV; rw [List.map_append]; exact h2, (below_alloc hB _).grown h3 (by simp; omega) (fun g hg => (hown.lt g hg).1), fun q hq hv => ⟨fun e => ?_, ?_⟩⟩
  · rcases h5 with h5 | h5
    · exact hv (by rw [← h5]; exact e)
    · rw [h5] at e; have := Option.some.inj e; simp at this; omega
  · rw [h3.block q (by simp; omega) (fun e => hv e.symm)]
    exact Below.heap_alloc _ _ _ hq
theorem own_stay {w w' : World} {B n : Nat} {e : TypeId} {v : Value} {xs : List Value} (h : w.ownsRow B e 1 v n xs) (hk : ∀ q, v.ownBlock = some q → w'.heap[q]? = w.heap[q]?) : w'.ownsRow B e 1 v n xs := by
  refine ⟨h.1, ?_⟩
  rcases h.2 with h2 | ⟨g, cap, cur, h1, h2, h3, h4⟩
  · exact .inl h2
  · refine .inr ⟨g, cap, cur, h1, h2, ?_, h4⟩
    rw [hk g (by rw [h1]; rfl)]; exact h3
theorem own_ltE {w : World} {B n q : Nat} {e : TypeId} {v : Value} {xs : List Value} (h : w.ownsRow B e 1 v n xs) (hq : v.ownBlock = some q) : q < w.heap.size := (h.lt q hq).2
/-- A row of one's own, cut to nothing. -/
theorem own_cut {w : World} {B n : Nat} {v : Value} {xs : List Value} (h : w.ownsRow B 5 1 v n xs) : ∃ v0, (∀ wx : World, (Instr.slice 47 v none (some (.int .i64 0)) none).run Tryz.prog wx = .ok v0 wx) ∧ w.ownsRow B 5 1 v0 0 [] ∧ v0.ownBlock = v.ownBlock := by
  rcases h.2 with ⟨rfl, h0⟩ | ⟨g, cap, cur, rfl, h1, h2, h3, h4, h5, h6⟩
  · refine ⟨.slice none 0 0, fun wx => ?_, World.ownsRow_nil _ _ _ _, rfl⟩
    have := run_part_to (w := wx) (a := none) 0 0 0 (Nat.le_refl _)
    exact this
  · refine ⟨.slice (some ⟨g, 0, none⟩) 0 cap, fun wx => ?_, ⟨rfl, .inr ⟨g, cap, cur, rfl, h1, h2, Nat.zero_le _, h4, h5, by simp⟩⟩, rfl⟩
    have := run_part_to (w := wx) (a := some ⟨g, 0, none⟩) n cap 0 (Nat.zero_le _)
    have e : part (some ⟨g, 0, none⟩) cap 0 = some ⟨g, 0, none⟩ := by unfold part; split <;> simp [addr_add]
    rw [e] at this; exact this
def Apart (v u : Value) : Prop := ∀ q, v.ownBlock = some q → u.ownBlock ≠ some q
/-- What is scanned: texts of one's own, and a number. -/
def ScanV (w : World) (S : List (List Nat) × Nat) (e : Ending) (w' : World) : Prop := ∃ v, e = .returned (.tuple #[v, .int .i64 (S.2 : Int)]) ∧ w'.ownsRow w.heap.size 9 1 v S.1.length (strV (S.1.map strOf)) ∧ Below w.heap.size w w'
theorem rec_done (B : Nat) (w : World) (hB : B ≤ w.heap.size) (v4 v5 : Value) (ys : List ByteArray) (rec : List Nat) (n m : Nat) (h4 : w.ownsRow B 9 1 v4 n (strV ys)) (h5 : w.ownsRow B 5 1 v5 m (u8s rec)) (hap : Apart v4 v5) (hb : ∀ x ∈ rec, x < 256) (hn : n ≤ 1000000000) :
    ∃ a5 cap5 v4' v0 w2, v5 = .slice a5 m cap5 ∧ (∀ wx : World, Below w.heap.size w wx → (convert 47 9 (.slice a5 m cap5)).run Tryz.prog wx = .ok (.string (strOf rec)) wx) ∧
      (Builtin.append_ #[23, 23] 23 #[v4, .slice (some ⟨w.heap.size, 0, none⟩) 1 1]).run Tryz.prog (w.alloc (.cells #[.string (strOf rec)] 9)) = .ok v4' w2 ∧ w2.ownsRow B 9 1 v4' (n + 1) (strV (ys ++ [strOf rec])) ∧
      (∀ wx : World, (Instr.slice 47 (.slice a5 m cap5) none (some (.int .i64 0)) none).run Tryz.prog wx = .ok v0 wx) ∧ w2.ownsRow B 5 1 v0 0 [] ∧ Apart v4' v0 ∧ Below B w w2 := by
  have hlm := own_len h5
  obtain ⟨a5, cap5, rfl, hby, hno, _⟩ := byt_of_own h5
  subst hlm
  obtain ⟨v4', w2, h1, h2, h3, h6⟩ := appT B w v4 ys (strOf rec) n h4 hB hn
  obtain ⟨v0, c1, c2, c3⟩ := own_cut h5
  have hst : ∀ q, (Value.slice a5 rec.length cap5).ownBlock = some q → v4'.ownBlock ≠ some q ∧ w2.heap[q]? = w.heap[q]? := fun q hq => h6 q (own_ltE h5 hq) (fun e => hap q e hq)
  exact ⟨a5, cap5, v4', v0, w2, rfl, fun wx hw => conv_bytes (hby.keep hw) hb hno cap5 _ rfl, h1, h2, c1, own_stay c2 (fun q hq => (hst q (by rw [← c3]; exact hq)).2), fun q hq e => (hst q (by rw [← c3]; exact e)).1 hq, h3⟩
theorem follows_cases {k : Nat} {b : Bool} (h : Frm.follows k b = true) : (b = false ∧ (k = 1 ∨ k = 2)) ∨ (b = true ∧ (k = 3 ∨ k = 4)) := by
  unfold Frm.follows at h
  split at h
  · left; rename_i h1; exact ⟨by simpa using h, h1⟩
  · split at h
    · right; rename_i h1; exact ⟨h, h1⟩
    · cases h
set_option maxRecDepth 100000 in
set_option maxHeartbeats 2000000 in
theorem Scan_any (w : World) (a : Option Addr) (cap : Nat) (l : List Nat) (hl : Byt w a l) (hb : ∀ x ∈ l, x < 256) (hc : l.length ≤ cap) (hm : l.length ≤ 100000000) :
    Calls Tryz.prog 44 #[.slice a l.length cap] w (ScanV w (Frm.scanR 0 l 0 [] false)) := by
  obtain ⟨S, hS⟩ : ∃ S, Frm.scanR 0 l 0 [] false = S := ⟨_, rfl⟩
  rw [hS]
  have HL := Lib.hid hl.low
  have HB := Lib.hid hb
  have HS := Lib.hid hS
  clear hl hb hS
  go_enter Tryz.func44, Tryz.ntmps44
  go_wp2_with fail
  go_loopw [4, 5, 6, 7, 8, 9, 10, 11] (fun u4 u5 u6 u7 u8 _ _ _ wr => ∃ (rs : List (List Nat)) (rec : List Nat) (n en : Nat) (bg : Bool), u6 = .int .i64 (n : Int) ∧ u7 = .int .i64 (en : Int) ∧ u8 = .bool bg ∧ n ≤ l.length ∧ en ≤ l.length ∧ rec.length ≤ n ∧ rs.length ≤ n ∧ wr.ownsRow w.heap.size 9 1 u4 rs.length (strV (rs.map strOf)) ∧ wr.ownsRow w.heap.size 5 1 u5 rec.length (u8s rec) ∧ Apart u4 u5 ∧ Below w.heap.size w wr ∧ (∀ x ∈ rec, x < 256) ∧ (bg = false → rec = []) ∧ rs ++ (Frm.scanR n (l.drop n) en rec bg).1 = S.1 ∧ (Frm.scanR n (l.drop n) en rec bg).2 = S.2) (fun _ _ u6 _ _ _ _ _ _ => l.length - (intOf u6).toNat)
  case atStart => exact ⟨[], [], 0, 0, false, rfl, rfl, rfl, Nat.zero_le _, Nat.zero_le _, Nat.le_refl _, Nat.le_refl _, World.ownsRow_nil _ _ _ _, World.ownsRow_nil _ _ _ _, (fun q h => by cases h), Below.refl _ _, (fun x hx => by cases hx), (fun _ => rfl), by rw [List.drop_zero, HS.out]; rfl, by rw [List.drop_zero, HS.out]⟩
  case round =>
    obtain ⟨rs, rec, n, en, bg, rfl, rfl, rfl, hn, hen, hrl, hrsl, ho1, ho2, hap, hbel, hby, hbg, hq1, hq2⟩ := hrel
    have hws := hbel.size
    have HG := Lib.hid (gap_any n (by omega) wr)
    have hg6 := gap_le n
    have HPI := piece_any w.heap.size wr hws a cap (n + Frm.gap n) l (HL.out.keep hbel) HB.out hc (by omega) (by omega)
    rw [Frm.room_gap, ← List.drop_drop] at HPI
    have HP := Lib.hid HPI
    have HO1 := Lib.hid ho1
    have HO2 := Lib.hid ho2
    have HAP := Lib.hid hap
    have HBEL := Lib.hid hbel
    have HBY := Lib.hid hby
    have HBG := Lib.hid hbg
    have HQ1 := Lib.hid hq1
    have HQ2 := Lib.hid hq2
    have hdl : (l.drop n).length = l.length - n := List.length_drop
    have HDB : Hid (∀ x ∈ (l.drop n).drop (Frm.gap n), x < 256) := Lib.hid (fun x hx => HB.out x (List.mem_of_mem_drop (List.mem_of_mem_drop hx)))
    have HDD : Hid (∀ m, ((l.drop n).drop (Frm.gap n)).drop m = l.drop (n + Frm.gap n + m)) := Lib.hid (fun m => by rw [List.drop_drop, List.drop_drop]; congr 1; omega)
    have HDL : Hid (((l.drop n).drop (Frm.gap n)).length = l.length - (n + Frm.gap n)) := Lib.hid (by rw [List.length_drop, hdl]; omega)
    clear hdl HPI ho1 ho2 hap hbel hby hbg hq1 hq2 HS
    generalize hg : Frm.gap n = g at *
    have HGG := Lib.hid hg
    clear hg
    go_wp2_with fail
    refine (HG.out).mono ?_
    rintro e w' ⟨rfl, rfl⟩
    go_wp2_with fail
    refine HP.out.mono ?_
    rintro e X1 ⟨⟨k, pa, pm, pcap, ok, rfl, hcase⟩, hb1⟩
    rcases hcase with ⟨ho, rfl⟩ | ⟨p, ho, rfl, rfl, hpB, hpn⟩
    · have hr := Frm.scan_none (en := en) (rec := rec) (b := bg) (by rw [HGG.out]; exact ho)
      have h1 := HQ1.out
      have h2 := HQ2.out
      rw [hr] at h1 h2
      have HE1 : Hid (rs = S.1) := Lib.hid (by simpa using h1)
      have HE2 : Hid (en = S.2) := Lib.hid h2
      have HB1 := Lib.hid hb1
      clear h1 h2 hr ho hb1 HP
      go_wp2
      go_ret2
      exact ⟨_, by rw [HE2.out]; rfl, by rw [← HE1.out]; exact own_keep HO1.out HB1.out, HBEL.out.trans (HB1.out.mono hws)⟩
    · have HB1 := Lib.hid hb1
      have s1 := hb1.size
      have HF := Lib.hid (follows_any k bg X1)
      obtain ⟨hpl, _⟩ := Frm.pieceAt_len ho
      rw [HDL.out] at hpl
      obtain ⟨hk256, hpb⟩ := Frm.pieceAt_byte HDB.out ho
      cases hfo : Frm.follows k bg with
      | false =>
        have hr := Frm.scan_bad (en := en) (rec := rec) (by rw [HGG.out]; exact ho) hfo
        have h1 := HQ1.out
        have h2 := HQ2.out
        rw [hr] at h1 h2
        have HE1 : Hid (rs = S.1) := Lib.hid (by simpa using h1)
        have HE2 : Hid (en = S.2) := Lib.hid h2
        rw [hfo] at HF
        clear h1 h2 hr ho hb1 HP hfo hpB hpn hpl hpb
        go_wp2_with fail
        refine (HF.out).mono ?_
        rintro e w' ⟨rfl, rfl⟩
        go_wp2
        go_ret2
        exact ⟨_, by rw [HE2.out]; rfl, by rw [← HE1.out]; exact own_keep HO1.out HB1.out, HBEL.out.trans (HB1.out.mono hws)⟩
      | true =>
        rw [hfo] at HF
        obtain ⟨v5, X2, hr5, ho5, hb5, hq5⟩ := appU w.heap.size X1 _ rec p rec.length pa pcap (own_keep HO2.out HB1.out) hpB.byt (fun e => absurd e hpn) (by omega) (by omega)
        have HO4 : Hid (X2.ownsRow w.heap.size 9 1 _ rs.length (strV (rs.map strOf))) := Lib.hid (own_stay (own_keep HO1.out HB1.out) (fun q hq => (hq5 q (own_ltE (own_keep HO1.out HB1.out) hq) (HAP.out q hq)).2))
        have HAP5 : Hid (Apart _ v5) := Lib.hid (fun q hq => (hq5 q (own_ltE (own_keep HO1.out HB1.out) hq) (HAP.out q hq)).1)
        have HO5 := Lib.hid ho5
        have HBX : Hid (Below w.heap.size w X2) := Lib.hid ((HBEL.out.trans (HB1.out.mono hws)).trans hb5)
        have HBYX : Hid (∀ x ∈ rec ++ p, x < 256) := Lib.hid (fun x hx => by
          rcases List.mem_append.1 hx with h | h
          · exact HBY.out x h
          · exact hpb x h)
        have hla : (rec ++ p).length = rec.length + p.length := List.length_append
        have hHO := Lib.hid ho
        have hHF := Lib.hid hfo
        clear ho hb1 hb5 hq5 ho5 hpB hpn hpb HP HO1 HO2 HB1 HDB HAP HG hfo
        rcases follows_cases hHF.out with ⟨rfl, rfl | rfl⟩ | ⟨rfl, rfl | rfl⟩
        · have hr := Frm.scan_last (en := en) (rec := rec) (by rw [HGG.out]; exact hHO.out) hHF.out (by omega)
          rw [HGG.out, HDD.out] at hr
          have HQ3 := Lib.hid HQ1.out
          have HQ4 := Lib.hid HQ2.out
          rw [hr] at HQ3 HQ4
          have hn2 : n + g + (7 + p.length) ≤ l.length := by omega
          obtain ⟨a5, cap5, v4', v0, X3, rfl, hcv, hr4, ho4, hcut, ho0, hap0, hb3⟩ := rec_done w.heap.size X2 (by have := HBX.out.size; omega) _ _ _ _ _ (rec.length + p.length) HO4.out HO5.out HAP5.out HBYX.out (by omega)
          have hcv2 := hcv X2 (Below.refl _ _)
          have HN4 := Lib.hid ho4
          have HN0 := Lib.hid ho0
          have HNA := Lib.hid hap0
          have HN3 : Hid (Below w.heap.size w X3) := Lib.hid (HBX.out.trans hb3)
          clear hr HQ1 HQ2 HDD HDL HO4 HO5 HAP5 ho4 ho0 hap0 hb3 hcv
          go_wp2_with fail
          refine (HF.out).mono ?_
          rintro e w' ⟨rfl, rfl⟩
          go_wp2_with (at_builtin; first | refine wpList_app_run rfl rfl hr5 rfl rfl ?_ | refine wpList_app_run rfl rfl hr4 rfl rfl ?_)
          go_roundw
          case rel => exact ⟨rs ++ [rec ++ p], [], n + g + (7 + p.length), n + g + (7 + p.length), false, by go_num, by go_num, rfl, hn2, hn2, by simp, by simp; omega, by rw [List.map_append, List.length_append]; exact HN4.out, HN0.out, HNA.out, HN3.out, (fun x hx => by cases hx), (fun _ => rfl), by rw [← HQ3.out, List.append_assoc]; rfl, HQ4.out⟩
          case measure => simp [intOf]; omega
        · have hr := Frm.scan_more (en := en) (rec := rec) (by rw [HGG.out]; exact hHO.out) hHF.out (.inl rfl)
          rw [HGG.out, HDD.out] at hr
          have HQ3 := Lib.hid HQ1.out
          have HQ4 := Lib.hid HQ2.out
          rw [hr] at HQ3 HQ4
          have hn2 : n + g + (7 + p.length) ≤ l.length := by omega
          clear hr HQ1 HQ2 HDD HDL
          go_wp2_with fail
          refine (HF.out).mono ?_
          rintro e w' ⟨rfl, rfl⟩
          go_wp2_with (at_builtin; refine wpList_app_run rfl rfl hr5 rfl rfl ?_)
          go_roundw
          case rel => exact ⟨rs, rec ++ p, n + g + (7 + p.length), en, true, by go_num, rfl, rfl, hn2, hen, by omega, by omega, HO4.out, by rw [hla]; exact HO5.out, HAP5.out, HBX.out, HBYX.out, (fun h => by cases h), HQ3.out, HQ4.out⟩
          case measure => simp [intOf]; omega
        · have hr := Frm.scan_more (en := en) (rec := rec) (by rw [HGG.out]; exact hHO.out) hHF.out (.inr rfl)
          rw [HGG.out, HDD.out] at hr
          have HQ3 := Lib.hid HQ1.out
          have HQ4 := Lib.hid HQ2.out
          rw [hr] at HQ3 HQ4
          have hn2 : n + g + (7 + p.length) ≤ l.length := by omega
          clear hr HQ1 HQ2 HDD HDL
          go_wp2_with fail
          refine (HF.out).mono ?_
          rintro e w' ⟨rfl, rfl⟩
          go_wp2_with (at_builtin; refine wpList_app_run rfl rfl hr5 rfl rfl ?_)
          go_roundw
          case rel => exact ⟨rs, rec ++ p, n + g + (7 + p.length), en, true, by go_num, rfl, rfl, hn2, hen, by omega, by omega, HO4.out, by rw [hla]; exact HO5.out, HAP5.out, HBX.out, HBYX.out, (fun h => by cases h), HQ3.out, HQ4.out⟩
          case measure => simp [intOf]; omega
        · have hr := Frm.scan_last (en := en) (rec := rec) (by rw [HGG.out]; exact hHO.out) hHF.out (by omega)
          rw [HGG.out, HDD.out] at hr
          have HQ3 := Lib.hid HQ1.out
          have HQ4 := Lib.hid HQ2.out
          rw [hr] at HQ3 HQ4
          have hn2 : n + g + (7 + p.length) ≤ l.length := by omega
          obtain ⟨a5, cap5, v4', v0, X3, rfl, hcv, hr4, ho4, hcut, ho0, hap0, hb3⟩ := rec_done w.heap.size X2 (by have := HBX.out.size; omega) _ _ _ _ _ (rec.length + p.length) HO4.out HO5.out HAP5.out HBYX.out (by omega)
          have hcv2 := hcv X2 (Below.refl _ _)
          have HN4 := Lib.hid ho4
          have HN0 := Lib.hid ho0
          have HNA := Lib.hid hap0
          have HN3 : Hid (Below w.heap.size w X3) := Lib.hid (HBX.out.trans hb3)
          clear hr HQ1 HQ2 HDD HDL HO4 HO5 HAP5 ho4 ho0 hap0 hb3 hcv
          go_wp2_with fail
          refine (HF.out).mono ?_
          rintro e w' ⟨rfl, rfl⟩
          go_wp2_with (at_builtin; first | refine wpList_app_run rfl rfl hr5 rfl rfl ?_ | refine wpList_app_run rfl rfl hr4 rfl rfl ?_)
          go_roundw
          case rel => exact ⟨rs ++ [rec ++ p], [], n + g + (7 + p.length), n + g + (7 + p.length), false, by go_num, by go_num, rfl, hn2, hn2, by simp, by simp; omega, by rw [List.map_append, List.length_append]; exact HN4.out, HN0.out, HNA.out, HN3.out, (fun x hx => by cases hx), (fun _ => rfl), by rw [← HQ3.out, List.append_assoc]; rfl, HQ4.out⟩
          case measure => simp [intOf]; omega
end Go.Proofs.YtadnecgcoceklaaGreatDoor.FR
