/-
  What the laws ask of a log: bytes that are made are appended; a crash; logged.
-/
import Derived.Test.YtadnecgcoceklaaGreatDoorWalW8
import Derived.Test.YtadnecgcoceklaaGreatDoorMB
import Derived.Test.YtadnecgcoceklaaGreatDoorFrFrRoomsW
import Derived.Test.YtadnecgcoceklaaGreatDoorFrFrFr
import Derived.Test.YtadnecgcoceklaaGreatDoorMD
import Derived.Lib.SlBytesConst
namespace Go.Proofs.YtadnecgcoceklaaGreatDoor
open Go.RowKit Go.Maps

section
variable {G G' : Nat → Prop} {w w' w2 : World} {lb pb num lim : Nat} {a a' : A}
theorem Lx.grown (h : Lx G w lb pb num lim a) (hb : Below w.heap.size w w') : Lx (fun k => G k ∨ (w.heap.size ≤ k ∧ k < w'.heap.size)) w' lb pb num lim a :=
  ⟨(hb.block lb h.lt).trans h.at_, (h.fx.grown hb).mono (fun k hk => by
    rcases hk with (hk | hk) | hk
    · exact .inl (.inl hk)
    · exact .inr hk
    · exact .inl (.inr hk)), (fun hg => by
    rcases hg with hg | hg
    · exact h.out hg
    · have := h.lt; omega), (h.vg.below hb).mono fun k hk => .inl hk⟩
theorem Lx.shrink (h : Lx G' w lb pb num lim a) (hG : ∀ k, G k → G' k) (hv : VG G w) : Lx G w lb pb num lim a :=
  ⟨h.at_, h.fx.mono (fun k hk => by
    rcases hk with hk | hk
    · exact .inl (hG k hk)
    · exact .inr hk), fun hg => h.out (hG lb hg), hv⟩
theorem append_new (h : Lx G w lb pb num lim a) (h1 : 1 ≤ num) (h2 : num ≤ 999999) (ht : a.top + 1 < 1073741824) (hb : Below w.heap.size w w2) {bb off n cap : Nat} {rec : Rec} (hl : Byt w2 (some ⟨bb, off, none⟩) rec) (hbb : w.heap.size ≤ bb ∧ bb < w2.heap.size) (hn : rec.length = n) (hx : ∀ x ∈ rec, x < 256) (hc : n ≤ cap) (hn2 : n ≤ 4611686018427387904) (sync : Bool) :
    Calls Tryz.prog 11 #[bp lb, .slice (some ⟨bb, off, none⟩) n cap, .bool sync] w2 fun e w' => e = .returned (.int .i64 (wAppend a num lim rec sync).1) ∧ Lx G w' lb pb (wAppend a num lim rec sync).2.2 lim (wAppend a num lim rec sync).2.1 ∧ Stay G w w' := by
  refine (wAppend_any (h.grown hb) h1 h2 ht hn hl hx hc (fun e => by cases e) (fun b o e => by cases e; exact .inr hbb) hn2 sync).mono ?_
  rintro e w' ⟨he, hl', hs⟩
  have hs' : Stay G w2 w' := hs.mono fun k hk => .inl hk
  exact ⟨he, hl'.shrink (fun k hk => .inl hk) ((h.vg.below hb).stay hs'), (Stay.of_below hb).trans hs'⟩
theorem append_text (h : Lx G w lb pb num lim a) (h1 : 1 ≤ num) (h2 : num ≤ 999999) (ht : a.top + 1 < 1073741824) (t : ByteArray) (hmx : t.size ≤ 4611686018427387904) (sync : Bool) :
    ∃ cap w2, (convert 9 47 (.string t)).run Tryz.prog w = .ok (.slice (some ⟨w.heap.size, 0, none⟩) t.size cap) w2 ∧ Below w.heap.size w w2 ∧
      Calls Tryz.prog 11 #[bp lb, .slice (some ⟨w.heap.size, 0, none⟩) t.size cap, .bool sync] w2 fun e w' => e = .returned (.int .i64 (wAppend a num lim (natsOf t) sync).1) ∧ Lx G w' lb pb (wAppend a num lim (natsOf t) sync).2.2 lim (wAppend a num lim (natsOf t) sync).2.1 ∧ Stay G w w' := by
  obtain ⟨cap, w2, hr, hc, hby, hb⟩ := conv_new w t w.heap.size rfl
  refine ⟨cap, w2, hr, hb, append_new h h1 h2 ht hb hby ⟨Nat.le_refl _, ?_⟩ (natsOf_length t) (natsOf_byte t) hc hmx sync⟩
  have h1 := run_bytes_of_string (P := Tryz.prog) w 9 47 5 t Tryz.underlying9 Tryz.underlying47 Tryz.underlying5
  rw [hr] at h1
  injection h1 with _ h1
  rw [h1]; simp
theorem lxQ {f : FuncId} {args : Array Value} {w W : World} {r : Int × A × Nat} {z : Int} {n : Nat} (h : Calls Tryz.prog f args W fun e w' => e = .returned (.int .i64 r.1) ∧ Lx G w' lb pb r.2.2 lim r.2.1 ∧ Stay G w w') (h1 : r = (z, a', n)) :
    Calls Tryz.prog f args W fun e w' => e = .returned (.int .i64 z) ∧ Lx G w' lb pb n lim a' ∧ Stay G w w' := by subst h1; exact h
theorem lx_crash (h : Lx G w lb pb num lim a) (ht : a.top < 1073741824) {ad : Option Addr} {cap : Nat} {zs : List Int} (hp : PicksG (fun k => G k ∨ k = lb) w ad zs) {n : Nat} (hn : zs.length = n) :
    Calls Tryz.prog 26 #[bp pb, .slice ad n cap] w fun e w' => e = .returned (.tuple #[]) ∧ Lx G w' lb pb num lim (a.crash zs) ∧ Stay G w w' := by
  refine (fx_crash h.fx ht hp hn).mono ?_
  rintro e w' ⟨he, h1, h2⟩
  exact ⟨he, h.next h1 h2, h2.mono fun k hk => .inl hk⟩
theorem KI.top {lo m k : Nat} {ix : Nat → Nat} {fl : Nat → Fil} {R : Nat → List Rec} {cur : List Rec} (h : KI a lo m ix fl R cur k) : a.top = m + 1 := by
  unfold A.top
  rw [h.last, h.wait, h.wd.now, wDir_length]; simp
theorem run_make_row (n : Nat) (hn : n ≤ 1000000) (wx : World) : (Instr.makeSlice 47 (.int .i64 (n : Int)) (.int .i64 (n : Int))).run Tryz.prog wx = .ok (.slice (some ⟨wx.heap.size, 0, none⟩) n n) (wx.alloc (.cells (madeCells #[.int .u8 0] n) 5)) := FR.run_make_zs n hn wx
end
/-- What logged does, plainly. -/
theorem logged_plain : ∃ a1 a2 a3 a5, wNewR (A.new 10000) 1 100 = (0, a1) ∧ wAppend a1 1 100 (FR.zs 200) false = (0, a2, 1) ∧ wAppend a2 1 100 [120] true = (0, a3, 2) ∧ (a3.crash []).listE = 0 ∧ wRecs (a3.crash []) (wNums (a3.crash []).list) 2 = [[120]] ∧
    wDrop (a3.crash []) 2 = (0, a5, 1) ∧ a1.top = 1 ∧ a2.top = 1 ∧ a3.top = 2 := by
  obtain ⟨s0, s1, s2, ix, fl, s3, s4, s5⟩ := KI.start 10000 1 (by omega) (by omega)
  have hnew : wNewR (A.new 10000) 1 100 = (0, (wBegin (A.new 10000) 1).2) := by
    unfold wNewR
    rw [if_neg (by omega)]
    exact Prod.ext s0 rfl
  generalize (wBegin (A.new 10000) 1).2 = a1 at *
  have hA := s3.app (rec := FR.zs 200) (FR.zs_byte 200) (by rw [FR.zs_len]; omega) (by omega) (by omega) (t := 0) (by rw [s2]; omega) (Nat.le_of_eq s4) (by omega) 100 false
  rw [Nat.add_zero] at hA
  obtain ⟨r1, hr1⟩ : ∃ r, wAppend a1 1 100 (FR.zs 200) false = r := ⟨_, rfl⟩
  rw [hr1] at hA
  obtain ⟨z1, a2, n1⟩ := r1
  rcases hA with ⟨p0, p1, p2, ⟨p3, p4, fl2, k2, p5, _, _, p6, _⟩ | ⟨p3, _⟩⟩ | ⟨_, p1, _⟩
  · dsimp only at p0 p1 p2 p4 p5
    subst p0 p4
    have hon2 := p1 s1
    have hr2 := p2.trans s2
    have ht1 := s3.top
    have hlen : 100 ≤ (fl2 0).1.length := by
      rw [p5.op.by_]
      show 100 ≤ (FR.Frm.frameL 0 (FR.zs 200) ++ []).length
      rw [List.append_nil, FR.frame_len, FR.zs_len]; omega
    have ht2 := p5.top
    have hB := p5.app (rec := [120]) (by intro x hx; simp at hx; omega) (by show 1 ≤ 900; omega) (by omega) (by omega) (t := 1828) (by rw [hr2]; omega) p6 (by omega) 100 true
    rw [Nat.add_zero] at hB
    obtain ⟨r2, hr2'⟩ : ∃ r, wAppend a2 1 100 [120] true = r := ⟨_, rfl⟩
    rw [hr2'] at hB
    obtain ⟨z2, a3, n2⟩ := r2
    rcases hB with ⟨q0, q1, q2, ⟨q3, _⟩ | ⟨q3, q4, ix3, fl3, k3, q5, q6, q7, _⟩⟩ | ⟨_, q1, _⟩
    · exact absurd hlen q3
    · dsimp only at q0 q1 q2 q4 q5
      subst q0 q4
      have ht3 := q5.top
      have hk := q6 rfl
      subst hk
      have hK := KI.crash_full (cur := [[120]]) q5 []
      have hon := (crash_on a3 []).1
      have q7' : tot 2 fl3 ≤ 1828 + 1828 := q7
      have hb : ∀ p, p < 2 → (fl3 p).1.length ≤ 1048576 := fun p hp => by have := tot_one (fl := fl3) (n := 2) hp; omega
      have hrec := hK.wd.recs hon.1 hb 2
      obtain ⟨a5, d1, _, _⟩ := hK.wd.drop hon (bl := 2) (by omega) (by omega)
      refine ⟨a1, a2, a3, a5, hnew, hr1, hr2', by unfold A.listE; rw [hon.1]; rfl, ?_, d1, ht1, ht2, ht3⟩
      rw [hrec]
      have hf : (List.range (0 + 1 + 1)).filter (fun p => decide ((2 : Int) ≤ ((1 + p : Nat) : Int))) = [1] := by decide
      rw [hf]
      simp [hK.op.by_, recs_lay]
    · exact absurd hon2 q1
  · rw [s5] at p3; exact absurd p3 (by decide)
  · exact absurd s1 p1
end Go.Proofs.YtadnecgcoceklaaGreatDoor
