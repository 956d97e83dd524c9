/-
  Replay, walked.
-/
import Derived.Test.YtadnecgcoceklaaGreatDoorWalW6
import Derived.Test.YtadnecgcoceklaaGreatDoorMB
namespace Go.Proofs.YtadnecgcoceklaaGreatDoor
open Go.RowKit Go.Maps

theorem Tryz.info9 : (Tryz.prog.info? 9).map (fun i => (i.zero, i.size, i.bytes)) = some (some (.string ByteArray.empty), 1, 16) := by kernel_rfl
theorem strV_one (l : List ByteArray) : ∀ u ∈ FR.strV l, u.oneCell' = true := by
  intro u hu; simp only [FR.strV, List.mem_map] at hu; obtain ⟨_, _, rfl⟩ := hu; rfl
/-- Texts are appended to a row of one's own. -/
theorem app_strs {w : World} {B n : Nat} {v : Value} {ys : List ByteArray} (h : w.ownsRow B 9 1 v n (FR.strV ys)) (hB : B ≤ w.heap.size) {ad : Option Addr} {m cap : Nat} {zs : List ByteArray} (hm : zs.length = m)
    (hz : ∀ i x, (FR.strV zs)[i]? = some x → ∃ b, ad = some ⟨b, 0, none⟩ ∧ b < w.heap.size ∧ w.cell? ⟨b, i, none⟩ = some x) (hnil : ad = none → m = 0 ∧ cap = 0) (hsp : ∀ x, ad = some x → x.spot = none ∧ x.off = 0) (hl : n + m ≤ 2000000000) :
    ∃ v' w', (Builtin.append_ #[23, 23] 23 #[v, .slice ad m cap]).run Tryz.prog w = .ok v' w' ∧ w'.ownsRow B 9 1 v' (n + m) (FR.strV (ys ++ zs)) ∧ Below B w w' := by
  obtain ⟨i0, hi0, hz0, hz1, hz2⟩ := info_parts Tryz.info9
  cases ad with
  | none =>
    obtain ⟨rfl, rfl⟩ := hnil rfl
    have hzs : zs = [] := List.eq_nil_of_length_eq_zero hm
    subst hzs
    have hrun := run_append_owned_none (P := Tryz.prog) (w := w) B 23 23 9 i0 1 Tryz.underlying23 hi0 v n (FR.strV ys) h
    exact ⟨v, w, hrun, by rw [List.append_nil]; exact h, Below.refl _ _⟩
  | some x =>
    obtain ⟨b, off, sp⟩ := x
    obtain ⟨e1, e2⟩ := hsp _ rfl
    simp at e1 e2
    subst e1 e2
    obtain ⟨v', w2, h1, h2, h3, _, h5⟩ := run_append_own_at (P := Tryz.prog) w B 23 23 9 i0 (.string ByteArray.empty) 1 16 Tryz.underlying23 hi0 hz0 hz1 hz2 rfl (by decide) v n (FR.strV ys) h ⟨b, 0, none⟩ m cap (FR.strV zs) (by simp [FR.strV, hm]) (fun j u hu => by
      obtain ⟨b', hb', _, hc⟩ := hz j u hu
      cases hb'
      rw [addr_add, Nat.zero_add]; exact hc) (strV_one zs) (by unfold maxLen; omega) (by omega) (by omega)
    refine ⟨v', w2, h1, ?_, (Below.refl B w).grown h3 (by omega) (fun g hg => (h.lt g hg).1)⟩
    have : FR.strV (ys ++ zs) = FR.strV ys ++ FR.strV zs := by simp [FR.strV]
    rw [this]; exact h2
theorem read_bytes {a : A} (h : a.Ok) (s : Bs) (x n : Int) : (∀ y ∈ a.read s x n, y < 256) ∧ (a.read s x n).length ≤ 1048576 := by
  unfold A.read
  split
  · have hf : (∀ y ∈ (a.file (a.idx s)).1, y < 256) ∧ (a.file (a.idx s)).1.length ≤ 1048576 := by
      unfold A.file
      rw [List.getD_eq_getElem?_getD]
      cases e : a.files[a.idx s]? with
      | none => exact ⟨(fun y hy => by cases hy), Nat.zero_le _⟩
      | some f => exact ⟨(h.fil f (List.mem_of_getElem? e)).2.2, (h.fil f (List.mem_of_getElem? e)).1⟩
    exact ⟨fun y hy => hf.1 y (List.mem_of_mem_drop (List.mem_of_mem_take hy)), by rw [List.length_take, List.length_drop]; omega⟩
  · exact ⟨(fun y hy => by cases hy), Nat.zero_le _⟩
theorem nums_read {a : A} (hE : a.listE = 0) {n : Nat} (h : n ∈ wNums a.list) : (1 ≤ n ∧ n ≤ 999999) ∧ a.readE (wnm n) 0 1048576 = 0 := by
  have hoff : a.off = false := by unfold A.listE at hE; split at hE
                                  · cases hE
                                  · rename_i h1; simpa using h1
  unfold wNums at h
  obtain ⟨s, hs, hn⟩ := List.mem_filterMap.1 h
  unfold A.list at hs
  rw [if_neg (by rw [hoff]; simp)] at hs
  obtain ⟨p, hp, rfl⟩ := List.mem_map.1 hs
  have hne : p.1 ≠ [] := fun e => by
    rw [e] at hn
    simp [numOf, Lib.trimSuffix, Lib.hasSuffix, dotLog, Lib.atoiAll] at hn
  obtain ⟨e1, e2, e3⟩ := numOf_some hn hne
  refine ⟨⟨e2, e3⟩, ?_⟩
  have hl : ∃ i, Dir.look a.now (wnm n) = some i := by
    rw [← e1]
    unfold Dir.look
    cases hf : List.find? (fun q => q.1 == p.1) a.now with
    | none => exact absurd (List.find?_eq_none.1 hf p hp) (by simp)
    | some q => exact ⟨q.2, rfl⟩
  obtain ⟨i, hi⟩ := hl
  have h0 := findE_ok (wnm_nm n) hi
  exact (readE_ok h0 (by omega) hoff).1
theorem wRecs_take {a : A} {L : List Nat} {fr : Int} {i n : Nat} (h : L[i]? = some n) : wRecs a (L.take (i + 1)) fr = wRecs a (L.take i) fr ++ (if fr ≤ (n : Int) then recsOf (a.read (wnm n) 0 1048576) else []) := by
  unfold wRecs
  rw [List.take_add_one, h, List.filter_append, List.flatMap_append]
  congr 1
  show List.flatMap _ (List.filter _ [n]) = _
  by_cases hf : fr ≤ (n : Int)
  · rw [if_pos hf, List.filter_cons_of_pos (by simpa using hf)]; simp
  · rw [if_neg hf, List.filter_cons_of_neg (by simpa using hf)]; rfl
theorem wRecs_le {a : A} {L : List Nat} {fr : Int} (i : Nat) : (wRecs a (L.take i) fr).length ≤ (wRecs a L fr).length := by
  unfold wRecs
  conv => rhs; rw [← List.take_append_drop i L, List.filter_append, List.flatMap_append, List.length_append]
  omega
def RepAns (w : World) (l : List Rec) (E : Int) (e : Ending) (w' : World) : Prop :=
  ∃ ad cap, e = .returned (.tuple #[.slice ad l.length cap, .int .i64 E]) ∧ w'.ownsRow w.heap.size 9 1 (.slice ad l.length cap) l.length (FR.strV (l.map strOf)) ∧ Below w.heap.size w w'
set_option maxRecDepth 100000 in
set_option maxHeartbeats 4000000 in
theorem Replay_any {G : Nat → Prop} {w : World} {pb : Nat} {a : A} (h : Fx G w pb a) (hv : VG G w) (ht : a.top < 1073741824) (fr : Int) (hrc : (wRecs a (wNums a.list) fr).length ≤ 1000000000) :
    Calls Tryz.prog 8 #[bp pb, .int .i64 fr] w (RepAns w (wRecs a (wNums a.list) fr) a.listE) := by
  have HNU := Lib.hid (Numbers_any h hv ht)
  have HF := Lib.hid h
  have HV := Lib.hid hv
  have HOK := Lib.hid h.ok
  have hoff : a.listE ≠ 0 → wNums a.list = [] := fun hz => by
    unfold A.listE at hz; unfold A.list
    split at hz
    · rename_i h1; rw [if_pos h1]; rfl
    · exact absurd rfl hz
  have HRD := Lib.hid (fun hE n hn => nums_read (a := a) hE (n := n) hn)
  have hN30 : (wNums a.list).length < 1073741824 := by
    have h1 : (wNums a.list).length ≤ a.list.length := List.length_filterMap_le _ _
    have h2 : a.list.length ≤ a.now.length := by
      unfold A.list; split
      · exact Nat.zero_le _
      · rw [List.length_map]; exact Nat.le_refl _
    have : a.now.length ≤ a.top := Nat.le_max_left _ _
    omega
  obtain ⟨N, hN⟩ : ∃ N, wNums a.list = N := ⟨_, rfl⟩
  obtain ⟨E, hE⟩ : ∃ E, a.listE = E := ⟨_, rfl⟩
  rw [hN, hE] at HNU hoff HRD
  rw [hN] at hrc hN30
  rw [hN, hE]
  have HRC := Lib.hid hrc
  have HOFF := Lib.hid hoff
  obtain ⟨n, hn⟩ : ∃ n, N.length = n := ⟨_, rfl⟩
  rw [hn] at hN30
  have HLN := Lib.hid hn
  clear h hv ht hN hE hoff hrc
  go_enter Tryz.func8, Tryz.ntmps8
  go_wp2_with fail
  refine HNU.out.mono ?_
  rintro e W1 ⟨ad, cap, rfl, hrow, hbel⟩
  rw [hn] at hrow ⊢
  clear hn
  have HB1 := Lib.hid hbel
  have HF1 := Lib.hid (HF.out.below hbel)
  have HV1 := Lib.hid (HV.out.below hbel)
  have HCELL : Hid (∀ i q : Nat, N[i]? = some q → ∃ b, ad = some ⟨b, 0, none⟩ ∧ b < W1.heap.size ∧ W1.cell? ⟨b, i, none⟩ = some (.int .i64 (q : Int))) := Lib.hid fun i q hq => by
    have hc := fun g hg => World.ownsRow.cells hrow (g := g) hg
    have hx : (i64s (natI N))[i]? = some (.int .i64 (q : Int)) := by simp [i64s, natI, hq]
    have hlt : i < n := by
      have := (List.getElem?_eq_some_iff.1 hq).1
      rw [HLN.out] at this; exact this
    rcases hrow.2 with ⟨he, h0⟩ | ⟨g, cap', cur, he, hB, hg, h1, _⟩
    · omega
    · cases he
      have := hc g rfl i _ hx
      rw [addr_add, Nat.zero_add] at this
      exact ⟨g, rfl, (Array.getElem?_eq_some_iff.1 hg).1, this⟩
  clear hrow hbel HNU
  by_cases hz : E = 0
  · subst hz
    go_wp2_with fail
    go_loopw [8, 25] (fun u8 u25 wr => ∃ (i k : Nat) (ad2 : Option Addr) (cap2 : Nat), u8 = .slice ad2 k cap2 ∧ u25 = .int .i64 i ∧ i ≤ n ∧ k = (wRecs a (N.take i) fr).length ∧ wr.ownsRow W1.heap.size 9 1 (.slice ad2 k cap2) k (FR.strV ((wRecs a (N.take i) fr).map strOf)) ∧ Below W1.heap.size W1 wr) (fun _ u25 _ => n - (intOf u25).toNat)
    case atStart => exact ⟨0, 0, none, 0, rfl, rfl, Nat.zero_le _, rfl, World.ownsRow_nil _ _ _ _, Below.refl _ _⟩
    case round =>
      obtain ⟨i, k, ad2, cap2, rfl, rfl, hin, hk, hrow, hb⟩ := hrel
      have HRW := Lib.hid hrow
      have HBR := Lib.hid hb
      have HK := Lib.hid hk
      have hws := hb.size
      clear hrow hb hk
      by_cases hlt : i < n
      · obtain ⟨q, hq⟩ : ∃ q, N[i]? = some q := ⟨_, List.getElem?_eq_getElem (by rw [HLN.out]; exact hlt)⟩
        obtain ⟨b, rfl, hbl, hc⟩ := HCELL.out i q hq
        have hcr := (HBR.out.cell (p := ⟨b, i, none⟩) hbl).trans hc
        have hblr : b < wr.heap.size := Nat.lt_of_lt_of_le hbl hws
        have hrd := HRD.out (by trivial) q (List.mem_of_getElem? hq)
        obtain ⟨⟨hq1, hq2⟩, hrd⟩ := hrd
        have HRE := Lib.hid hrd
        have HTK := Lib.hid (wRecs_take (a := a) (fr := fr) hq)
        clear hc hrd hq
        by_cases hfr : (q : Int) < fr
        · have d1 : decide ((q : Int) < fr) = true := by simpa using hfr
          have HT2 := Lib.hid (show wRecs a (N.take (i + 1)) fr = wRecs a (N.take i) fr by rw [HTK.out, if_neg (by omega), List.append_nil])
          clear HTK
          go_wp2
          go_roundw
          case rel => exact ⟨i + 1, k, ad2, cap2, rfl, by go_num, by omega, by rw [HT2.out]; exact HK.out, by rw [HT2.out]; exact HRW.out, HBR.out⟩
          case measure => simp [intOf]; omega
        · have d1 : decide ((q : Int) < fr) = false := by simpa using hfr
          have HT2 := Lib.hid (show wRecs a (N.take (i + 1)) fr = wRecs a (N.take i) fr ++ recsOf (a.read (wnm q) 0 1048576) by rw [HTK.out, if_pos (by omega)])
          have HNA := Lib.hid (Name_any (q : Int) ⟨by omega, by omega⟩ wr (HV1.out.below HBR.out).vars)
          rw [wName_in hq1 hq2] at HNA
          clear HTK hfr
          go_wp2_with fail
          refine HNA.out.mono ?_
          rintro e W3 ⟨rfl, hb3⟩
          have HB3 := Lib.hid (HBR.out.trans (hb3.mono hws))
          have HR3 := Lib.hid (own_keep HRW.out hb3)
          have HRD3 := Lib.hid (fx_read (HF1.out.below HB3.out) (strB (wnm q)) 0 1048576)
          rw [strB_list, HRE.out] at HRD3
          obtain ⟨B, hB⟩ : ∃ B, a.read (wnm q) 0 1048576 = B := ⟨_, rfl⟩
          have hBb := read_bytes HOK.out (wnm q) 0 1048576
          rw [hB] at HRD3 hBb HT2
          have HBB := Lib.hid hBb
          clear hb3 HNA hB hBb
          go_wp2_with fail
          refine HRD3.out.mono ?_
          rintro e W4 ⟨ad4, cap4, rfl, hby, hno, hcap4, hnew, hbel4, _⟩
          have HB4 := Lib.hid (HB3.out.trans (hbel4.mono HB3.out.size))
          have HR4 := Lib.hid (own_keep HR3.out hbel4)
          have HSC := Lib.hid (FR.Scan_any W4 ad4 cap4 B hby HBB.out.1 hcap4 (by have := HBB.out.2; omega))
          obtain ⟨bl, hbl4⟩ : ∃ bl, B.length = bl := ⟨_, rfl⟩
          have HSR : Hid (recsOf B = (FR.Frm.scanR 0 B 0 [] false).1) := Lib.hid rfl
          obtain ⟨Z, hZ⟩ : ∃ Z, FR.Frm.scanR 0 B 0 [] false = Z := ⟨_, rfl⟩
          rw [hZ] at HSC HSR
          rw [hbl4] at HSC ⊢
          rw [HSR.out] at HT2
          have hw4 := HB4.out.size
          clear hby hno hcap4 hnew hbel4 HRD3 hZ hbl4
          go_wp2_with fail
          refine HSC.out.mono ?_
          rintro e W5 ⟨v5, rfl, ho5, hb5⟩
          obtain ⟨Z1, Z2⟩ := Z
          dsimp only at ho5 HT2 HSR ⊢
          obtain ⟨zl, hzl⟩ : ∃ zl, Z1.length = zl := ⟨_, rfl⟩
          rw [hzl] at ho5
          obtain ⟨ad5, cap5, rfl, hn5, hc5, hs5, hx5⟩ := slice_of_own ho5 (by simp [FR.strV, hzl])
          have hkl : k + zl ≤ 1000000000 := by
            have h1 := wRecs_le (a := a) (L := N) (fr := fr) (i + 1)
            rw [HT2.out, List.length_append, ← HK.out, hzl] at h1
            have := HRC.out; omega
          have HB5 := Lib.hid (HB4.out.trans (hb5.mono hw4))
          have hw5 := HB5.out.size
          obtain ⟨v6, w6, hrun, hrow6, hb6⟩ := app_strs (own_keep HR4.out hb5) hw5 (zs := Z1.map strOf) (by rw [List.length_map, hzl]) hx5 hn5 (fun x hx => by
            subst hx
            rcases ho5.2 with ⟨he, h0⟩ | ⟨g, cap', cur, he, _⟩
            · cases he
            · cases he; exact ⟨rfl, rfl⟩) (by omega)
          obtain ⟨ad6, cap6, hv, _⟩ := slice_of_own hrow6 (by simp [FR.strV, HK.out, hzl])
          subst hv
          have HRX := Lib.hid hrow6
          have HB6 := Lib.hid (HB5.out.trans hb6)
          have HZL := Lib.hid hzl
          clear ho5 hb5 hn5 hc5 hs5 hx5 hrow6 hb6 HSC hzl hkl
          go_wp2_with (at_builtin; refine wpList_app_run rfl rfl hrun rfl rfl ?_)
          go_roundw
          case rel => exact ⟨i + 1, k + zl, ad6, cap6, rfl, by go_num, by omega, by rw [HT2.out, List.length_append, ← HK.out, HZL.out], by rw [HT2.out, List.map_append]; exact HRX.out, HB6.out⟩
          case measure => simp [intOf]; omega
      · obtain rfl : i = n := by omega
        have HTA := Lib.hid (show N.take i = N by rw [← HLN.out, List.take_length])
        rw [HTA.out] at HRW HK
        go_wp2
        go_ret2
        have hk := HK.out
        subst hk
        exact ⟨ad2, cap2, rfl, own_base HRW.out HB1.out.size, HB1.out.trans (HBR.out.mono HB1.out.size)⟩
  · have hz1 : (E == 0) = false := by simpa using hz
    have HL0 := Lib.hid (HOFF.out hz)
    go_wp2
    go_ret2
    rw [HL0.out]
    exact ⟨none, 0, rfl, World.ownsRow_nil _ _ _ _, HB1.out⟩
end Go.Proofs.YtadnecgcoceklaaGreatDoor
