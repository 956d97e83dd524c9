/-
  Read of package fs.
-/
import Derived.Test.YtadnecgcoceklaaGreatDoorFsFsWC
namespace Go.Proofs.YtadnecgcoceklaaGreatDoor
open Go.RowKit Go.Maps

theorem run_min2 {P : Program} {w : World} (ts : Array TypeId) (t : TypeId) (x y r : Int) (hr : r = min x y) :
    (Builtin.min_ ts t #[.int .i64 x, .int .i64 y]).run P w = .ok (.int .i64 r) w := by
  subst hr
  simp only [Builtin.min_, List.foldlM_cons, List.foldlM_nil, Sem.run_bind, Sem.run_pure, Builtin.min2, Result.andThen]
  repeat' split
  all_goals simp_all
  all_goals omega
theorem run_part_from {w : World} {a : Option Addr} (len cap p : Nat) (z : Int) (hz : z = p) (hp : p ≤ len) :
    (Instr.slice 47 (.slice a len cap) (some (.int .i64 z)) none none).run Tryz.prog w = .ok (.slice (part a cap p) (len - p) (cap - p)) w := by
  subst hz
  have hel : Tryz.prog.elem 47 = 5 := by kernel_rfl
  rw [run_slice_l (P := Tryz.prog) w 47 a len cap (by rw [hel]; exact Tryz.underlying47) .i64 p (by omega) (by omega), hel]
  simp [go_sem, sliced, part]
/-- Bytes of their own, copied. -/
theorem copy_new {w : World} {a : Option Addr} {l : List Nat} (hl : Byt w a l) (ha : a = none → l = []) (c m : Nat) (hm : l.length = m) (hs : l.length ≤ 140737488351232) :
    ∃ v w2, (Builtin.append_ #[47, 47] 47 #[.slice none 0 0, .slice a m c]).run Tryz.prog w = .ok v w2 ∧ w2.ownsRow w.heap.size 5 1 v m (u8s l) ∧ Below w.heap.size w w2 := by
  subst hm
  cases a with
  | none =>
    have h0 := ha rfl
    subst h0
    refine ⟨.slice none 0 0, w, ?_, World.ownsRow_nil _ _ _ _, Below.refl _ _⟩
    simp [Builtin.append_, run_underlying Tryz.underlying47, go_sem]
  | some x =>
    obtain ⟨i0, hi0, hz0, hz1, hz2⟩ := info_parts Tryz.info5
    obtain ⟨v', w', h1, h2, h3, _, h5⟩ := run_append_own_at (P := Tryz.prog) w w.heap.size 47 47 5 i0 (.int .u8 0) 1 1 Tryz.underlying47 hi0 hz0 hz1 hz2 rfl (by decide) (.slice none 0 0) 0 [] (World.ownsRow_nil _ _ _ _) x l.length c (u8s l) (by simp [u8s]) (fun j u hu => by
      rcases hl with rfl | ⟨b', off', e, _, hc⟩
      · simp [u8s] at hu
      · cases e
        have hj : j < l.length := by
          rcases Nat.lt_or_ge j l.length with h | h
          · exact h
          · rw [List.getElem?_eq_none (by simpa [u8s] using h)] at hu; cases hu
        rw [addr_add, hc j hj]
        simp [u8s, hj] at hu; rw [hu]) (u8s_one l) (by unfold maxLen; omega) (by omega) (Nat.le_refl _)
    refine ⟨v', w', h1, by simpa using h2, ⟨h3.os, h3.tape, h3.output, h3.size, fun k hk => h3.block k hk (by simp [Value.ownBlock])⟩⟩

theorem readE_err {a : A} {s : Bs} {x n : Int} (h : a.findE s ≠ 0) : a.readE s x n = a.findE s ∧ a.read s x n = [] := by
  have : a.readE s x n = a.findE s := by unfold A.readE; rw [if_neg h]
  exact ⟨this, by unfold A.read; rw [this, if_neg h]⟩
theorem readE_arg {a : A} {s : Bs} {x n : Int} (h : a.findE s = 0) (h1 : x < 0 ∨ n < 0 ∨ ((a.file (a.idx s)).1.length : Int) < x) : a.readE s x n = 1 ∧ a.read s x n = [] := by
  have : a.readE s x n = 1 := by unfold A.readE; rw [if_pos h, if_pos h1]
  exact ⟨this, by unfold A.read; rw [this]; rfl⟩
theorem readE_off {a : A} {s : Bs} {x n : Int} (h : a.findE s = 0) (h1 : ¬ (x < 0 ∨ n < 0 ∨ ((a.file (a.idx s)).1.length : Int) < x)) (ho : a.off = true) : a.readE s x n = 4 ∧ a.read s x n = [] := by
  have : a.readE s x n = 4 := by unfold A.readE; rw [if_pos h, if_neg h1, ho]; rfl
  exact ⟨this, by unfold A.read; rw [this]; rfl⟩
theorem readE_ok {a : A} {s : Bs} {x n : Int} (h : a.findE s = 0) (h1 : ¬ (x < 0 ∨ n < 0 ∨ ((a.file (a.idx s)).1.length : Int) < x)) (ho : a.off = false) : a.readE s x n = 0 ∧ a.read s x n = ((a.file (a.idx s)).1.drop x.toNat).take n.toNat := by
  have : a.readE s x n = 0 := by unfold A.readE; rw [if_pos h, if_neg h1, ho]; rfl
  exact ⟨this, by unfold A.read; rw [this]; rfl⟩
def ReadP (w : World) (l : List Nat) (E : Int) (e : Ending) (w' : World) : Prop := ∃ v, e = .returned (.tuple #[v, .int .i64 E]) ∧ w'.ownsRow w.heap.size 5 1 v l.length (u8s l) ∧ Below w.heap.size w w'
theorem readP_nil (w : World) (E : Int) : ReadP w [] E (.returned (.tuple #[.slice none 0 0, .int .i64 E])) w := ⟨_, rfl, World.ownsRow_nil _ _ _ _, Below.refl _ _⟩

set_option maxRecDepth 100000 in
set_option maxHeartbeats 1000000 in
theorem read_any {w : World} {pb : Nat} {a : A} {F : Nat → Prop} (h : FsAt w pb a F) (s : ByteArray) (x n : Int) :
    Calls Tryz.prog 39 #[bp pb, .string s, .int .i64 x, .int .i64 n] w (ReadP w (a.read s.data.toList x n) (a.readE s.data.toList x n)) := by
  obtain ⟨ho, g, h⟩ := h
  have hfind := find_any h s
  by_cases h0 : a.findE s.data.toList = 0
  · have hi := ho.idx h0
    unfold findP at hfind
    rw [if_pos h0, h0] at hfind
    have HF := Lib.hid hfind
    have f0 := h.f0 hi.2.2
    have c4 := h.c4
    obtain ⟨ad, cap, hbv, hbyt, hnone, hcap⟩ := byt_of_own (h.hF.r _ hi.2.2).1
    rw [hbv] at f0
    have hsf : a.files.getD (a.idx s.data.toList) ([], 0) = a.file (a.idx s.data.toList) := rfl
    rw [hsf] at f0 hbyt hnone hcap
    have hfl := ho.file (a.idx s.data.toList)
    by_cases h1 : x < 0 ∨ n < 0 ∨ ((a.file (a.idx s.data.toList)).1.length : Int) < x
    · have HV := Lib.hid (readE_arg h0 h1)
      generalize (a.file (a.idx s.data.toList)).1.length = L at *
      generalize a.idx s.data.toList = ix at *
      clear hfind ho h hbv hi h0 hsf hfl hbyt hnone
      by_cases hx : x < 0
      · clear h1
        go_enter Tryz.func39, Tryz.ntmps39
        go_wp2_with fail
        refine HF.out.mono ?_
        rintro e W ⟨rfl, rfl⟩
        go_wp2
        go_ret2
        rw [HV.out.1, HV.out.2]; exact readP_nil _ _
      · by_cases hn : n < 0
        · clear h1
          go_enter Tryz.func39, Tryz.ntmps39
          go_wp2_with fail
          refine HF.out.mono ?_
          rintro e W ⟨rfl, rfl⟩
          go_wp2
          go_ret2
          rw [HV.out.1, HV.out.2]; exact readP_nil _ _
        · have h2 : (L : Int) < x := by omega
          clear h1
          go_enter Tryz.func39, Tryz.ntmps39
          go_wp2_with fail
          refine HF.out.mono ?_
          rintro e W ⟨rfl, rfl⟩
          go_wp2
          go_ret2
          rw [HV.out.1, HV.out.2]; exact readP_nil _ _
    · have hx0 : ¬ x < 0 := by omega
      have hn0 : ¬ n < 0 := by omega
      have hxL : ¬ ((a.file (a.idx s.data.toList)).1.length : Int) < x := by omega
      cases hoff : a.off with
      | true =>
        have HV := Lib.hid (readE_off h0 h1 hoff)
        rw [hoff] at c4
        generalize (a.file (a.idx s.data.toList)).1.length = L at *
        generalize a.idx s.data.toList = ix at *
        clear hfind ho h hbv hi h0 hsf hfl hbyt hnone h1 hoff
        go_enter Tryz.func39, Tryz.ntmps39
        go_wp2_with fail
        refine HF.out.mono ?_
        rintro e W ⟨rfl, rfl⟩
        go_wp2
        go_ret2
        rw [HV.out.1, HV.out.2]; exact readP_nil _ _
      | false =>
        have HV := Lib.hid (readE_ok h0 h1 hoff)
        rw [hoff] at c4
        obtain ⟨p, rfl⟩ := Int.eq_ofNat_of_zero_le (show 0 ≤ x by omega)
        obtain ⟨q, rfl⟩ := Int.eq_ofNat_of_zero_le (show 0 ≤ n by omega)
        generalize hfe : (a.file (a.idx s.data.toList)).1 = fl at *
        have hpL : p ≤ fl.length := by omega
        have r1 := run_part_from (w := w) (a := ad) fl.length cap p (p : Int) rfl hpL
        have r2 := run_min2 (P := Tryz.prog) (w := w) #[3, 3] 3 (q : Int) ((fl.length - p : Nat) : Int) ((min q (fl.length - p) : Nat) : Int) (by omega)
        have r3 := run_part_to (w := w) (a := part ad cap p) (fl.length - p) (cap - p) (min q (fl.length - p)) (by omega)
        have hb2 : Byt w (part (part ad cap p) (cap - p) 0) ((fl.drop p).take q) := by
          have hb1 := hbyt.part cap p fl.length hcap hpL (Nat.le_refl _)
          rw [List.take_length] at hb1
          have hb3 := hb1.part (cap - p) 0 (min q (fl.length - p)) (by simp; omega) (Nat.zero_le _) (by simp; omega)
          have e : ((fl.drop p).take (min q (fl.length - p))).drop 0 = (fl.drop p).take q := by
            rw [List.drop_zero, List.take_eq_take_iff]; simp
          rw [e] at hb3; exact hb3
        obtain ⟨v, w2, hrun, hrow, hbel⟩ := copy_new hb2 (fun e => by
          have := hnone (part_none (part_none e)); rw [this]; simp) (cap - p) (min q (fl.length - p)) (by simp) (by simp; have := hfl.1; omega)
        have HE := Lib.hid (show ReadP w (a.read s.data.toList (p : Int) (q : Int)) (a.readE s.data.toList (p : Int) (q : Int)) (.returned (.tuple #[v, .int .i64 0])) w2 by
          rw [HV.out.1, HV.out.2]
          refine ⟨v, rfl, ?_, hbel⟩
          have e : ((fl.drop ((p : Int)).toNat).take ((q : Int)).toNat).length = min q (fl.length - p) := by simp
          rw [e]; exact hrow)
        obtain ⟨L, hL⟩ : ∃ L, fl.length = L := ⟨_, rfl⟩
        rw [hL] at f0 r1 r2 r3 hrun hpL hxL hcap
        generalize L - p = k at *
        generalize min q k = mn at *
        generalize a.idx s.data.toList = ix at *
        clear hfind ho h hbv hi h0 hsf hfl hbyt hnone h1 hoff hfe hb2 hrow hbel hL HV
        go_enter Tryz.func39, Tryz.ntmps39
        go_wp2_with fail
        refine HF.out.mono ?_
        rintro e W ⟨rfl, rfl⟩
        go_wp2_with (at_builtin; refine wpList_app_run rfl rfl hrun rfl rfl ?_)
        go_ret2
        exact HE.out
  · have HV := Lib.hid (readE_err (x := x) (n := n) h0)
    unfold findP at hfind
    rw [if_neg h0] at hfind
    generalize hE : a.findE s.data.toList = E at *
    have hE6 := findE_err a s.data.toList (by rw [hE]; exact h0)
    rw [hE] at hE6
    have HF := Lib.hid hfind
    clear hfind ho h hE
    rcases hE6 with rfl | rfl
    all_goals
      go_enter Tryz.func39, Tryz.ntmps39
      go_wp2_with fail
      refine HF.out.mono ?_
      rintro e W ⟨rfl, rfl⟩
      go_wp2
      go_ret2
      rw [HV.out.1, HV.out.2]; exact readP_nil _ _
end Go.Proofs.YtadnecgcoceklaaGreatDoor

