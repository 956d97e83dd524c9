/-
  A piece that is read.
-/
import Derived.Test.YtadnecgcoceklaaGreatDoorFrFrW2
namespace Go.Proofs.YtadnecgcoceklaaGreatDoor.FR
open Go.RowKit

theorem run_part_from {w : World} {a : Option Addr} (len cap p : Nat) (z : Int) (hz : z = p) (hp : p ≤ len) (_hl : len ≤ cap) :
    (Instr.slice 47 (.slice a len cap) (some (.int .i64 z)) none none).run Tryz.prog w = .ok (.slice (part a cap p) (len - p) (cap - p)) w := by
  subst hz
  have hel : Tryz.prog.elem 47 = 5 := by kernel_rfl
  rw [run_slice_l (P := Tryz.prog) w 47 a len cap (by rw [hel]; exact Tryz.underlying47) .i64 p (by omega) (by omega), hel]
  simp [go_sem, sliced, part]
theorem run_part_u {w : World} {a : Option Addr} (len cap q : Nat) (hq : q ≤ cap) :
    (Instr.slice 47 (.slice a len cap) none (some (.int .u64 (q : Int))) none).run Tryz.prog w = .ok (.slice (part a cap 0) q cap) w := by
  have hel : Tryz.prog.elem 47 = 5 := by kernel_rfl
  rw [run_slice_h (P := Tryz.prog) w 47 a len cap (by rw [hel]; exact Tryz.underlying47) .u64 q (by omega) (by omega), hel]
  simp [go_sem, sliced, part]
theorem BytB.part_zero {B : Nat} {w : World} {a : Option Addr} {l : List Nat} (h : BytB B w a l) (cap : Nat) : BytB B w (YtadnecgcoceklaaGreatDoor.part a cap 0) l := by
  rcases h with h | ⟨b, off, rfl, hlt, hc⟩
  · exact .inl h
  · refine .inr ⟨b, off, ?_, hlt, hc⟩
    unfold YtadnecgcoceklaaGreatDoor.part; split
    · rfl
    · simp [addr_add]
theorem part_some {a : Option Addr} {cap p : Nat} (h : a ≠ none) : part a cap p ≠ none := fun e => h (part_none e)
/-- What piece tells. -/
def PieceV (B : Nat) (o : Option (Nat × List Nat)) (e : Ending) (w' : World) : Prop :=
  ∃ (k : Nat) (a : Option Addr) (m cap : Nat) (ok : Bool), e = .returned (.tuple #[.int .u8 (k : Int), .slice a m cap, .bool ok]) ∧
    ((o = none ∧ ok = false) ∨ ∃ p, o = some (k, p) ∧ ok = true ∧ m = p.length ∧ BytB B w' a p ∧ a ≠ none)
set_option maxRecDepth 100000 in
set_option maxHeartbeats 1000000 in
theorem piece_any (B : Nat) (w : World) (hB : B ≤ w.heap.size) (a : Option Addr) (cap n : Nat) (l : List Nat) (hl : BytB B w a l) (hb : ∀ x ∈ l, x < 256) (hc : l.length ≤ cap) (hm : l.length ≤ 1000000000) (hn : n ≤ 2000000000) :
    Calls Tryz.prog 81 #[.slice a l.length cap, .int .i64 (n : Int)] w fun e w' => PieceV B (Frm.pieceAt (Frm.room n) (l.drop n)) e w' ∧ Below w.heap.size w w' := by
  by_cases h7 : l.length < n + 7
  · have HO : Hid (Frm.pieceAt (Frm.room n) (l.drop n) = none) := Lib.hid (Frm.pieceAt_short (by rw [List.length_drop]; omega))
    clear hl hb
    go_enter Tryz.func81, Tryz.ntmps81
    go_wp2
    go_ret3
    exact ⟨⟨0, none, 0, 0, false, rfl, .inl ⟨HO.out, rfl⟩⟩, Below.refl _ _⟩
  · obtain ⟨b, off, rfl, hbB, hblt, hcell⟩ : ∃ b off, a = some ⟨b, off, none⟩ ∧ b < B ∧ b < w.heap.size ∧ ∀ i (_ : i < l.length), w.cell? ⟨b, off + i, none⟩ = some (.int .u8 (l[i] : Int)) := by
      rcases hl with h | h
      · subst h; simp at h7
      · exact h
    have hl' : BytB B w (some ⟨b, off, none⟩) l := .inr ⟨b, off, rfl, hbB, hblt, hcell⟩
    -- the head
    have hs1 : ∀ wx : World, (Instr.slice 47 (.slice (some ⟨b, off, none⟩) l.length cap) (some (.int .i64 (n : Int))) (some (.int .i64 ((n : Int) + 7))) none).run Tryz.prog wx = .ok (.slice (some ⟨b, off + n, none⟩) 7 (cap - n)) wx := fun wx => by
      have h := run_part (w := wx) (a := some ⟨b, off, none⟩) l.length cap n (n + 7) ((n : Int) + 7) (by omega) (by omega) (by omega)
      rw [h, show n + 7 - n = 7 by omega]
      unfold part; rw [if_neg (by omega)]; simp [addr_add]
    have hs2 : ∀ wx : World, (Instr.slice 47 (.slice (some ⟨b, off, none⟩) l.length cap) (some (.int .i64 ((n : Int) + 7))) none none).run Tryz.prog wx = .ok (.slice (part (some ⟨b, off, none⟩) cap (n + 7)) (l.length - (n + 7)) (cap - (n + 7))) wx := fun wx =>
      run_part_from (w := wx) l.length cap (n + 7) ((n : Int) + 7) (by omega) (by omega) hc
    have hs3 : ∀ wx : World, (Instr.slice 47 (.slice (some ⟨b, off + n, none⟩) 7 (cap - n)) none (some (.int .i64 4)) none).run Tryz.prog wx = .ok (.slice (some ⟨b, off + n, none⟩) 4 (cap - n)) wx := fun wx => by
      have h := run_part_to (w := wx) (a := some ⟨b, off + n, none⟩) 7 (cap - n) 4 (by omega)
      have e : part (some ⟨b, off + n, none⟩) (cap - n) 0 = some ⟨b, off + n, none⟩ := by unfold part; split <;> simp [addr_add]
      rw [e] at h; exact h
    have hs4 : ∀ wx : World, (Instr.slice 47 (.slice (some ⟨b, off + n, none⟩) 7 (cap - n)) (some (.int .i64 4)) (some (.int .i64 6)) none).run Tryz.prog wx = .ok (.slice (some ⟨b, off + n + 4, none⟩) 2 (cap - n - 4)) wx := fun wx => by
      have h := run_part (w := wx) (a := some ⟨b, off + n, none⟩) 7 (cap - n) 4 6 6 (by rfl) (by omega) (by omega)
      have e : part (some ⟨b, off + n, none⟩) (cap - n) 4 = some ⟨b, off + n + 4, none⟩ := by unfold part; rw [if_neg (by omega)]; simp [addr_add]
      rw [e] at h; exact h
    obtain ⟨L, hL⟩ : ∃ L, l.drop n = L := ⟨_, rfl⟩
    have hLl : L.length = l.length - n := by rw [← hL, List.length_drop]
    have hLg : ∀ i (h : i < L.length), L[i] = l[n + i]'(by omega) := by
      intro i h; subst hL; rw [List.getElem_drop]
    have hLb : ∀ x ∈ L, x < 256 := by intro x hx; rw [← hL] at hx; exact hb x (List.mem_of_mem_drop hx)
    have hb4 : Byt w (some ⟨b, off + n, none⟩) (L.take 4) := .inr ⟨b, off + n, rfl, hblt, fun i hi => by
      rw [List.length_take] at hi
      rw [List.getElem_take, hLg i (by omega), Nat.add_assoc]; exact hcell (n + i) (by omega)⟩
    have hb2 : Byt w (some ⟨b, off + n + 4, none⟩) ((L.take 6).drop 4) := .inr ⟨b, off + n + 4, rfl, hblt, fun i hi => by
      rw [List.length_drop, List.length_take] at hi
      rw [List.getElem_drop, List.getElem_take, hLg (4 + i) (by omega), show off + n + 4 + i = off + (n + (4 + i)) by omega]; exact hcell (n + (4 + i)) (by omega)⟩
    have hk6 : w.cell? ⟨b, off + n + 6, none⟩ = some (.int .u8 ((L.getD 6 0 : Nat) : Int)) := by
      rw [List.getD_eq_getElem?_getD, List.getElem?_eq_getElem (by omega), Option.getD_some, hLg 6 (by omega), Nat.add_assoc]; exact hcell (n + 6) (by omega)
    have HW4 := Lib.hid (fun nq => whole_any (w.drewN nq) (some ⟨b, off + n, none⟩) (cap - n) 4 (L.take 4) (by rw [List.length_take]; omega) (hb4.drewN nq) (fun x hx => hLb x (List.mem_of_mem_take hx)) (by omega))
    have HW2 := Lib.hid (fun nq => whole_any (w.drewN nq) (some ⟨b, off + n + 4, none⟩) (cap - n - 4) 2 ((L.take 6).drop 4) (by rw [List.length_drop, List.length_take]; omega) (hb2.drewN nq) (fun x hx => hLb x (List.mem_of_mem_take (List.mem_of_mem_drop hx))) (by omega))
    have hc16 : acc8 ((L.take 6).drop 4) 2 < 65536 := acc8_lt _ (fun x hx => hLb x (List.mem_of_mem_take (List.mem_of_mem_drop hx))) 2
    have hs32 : acc8 (L.take 4) 4 < 4294967296 := acc8_lt _ (fun x hx => hLb x (List.mem_of_mem_take hx)) 4
    have hK : L.getD 6 0 < 256 := by
      rw [List.getD_eq_getElem?_getD, List.getElem?_eq_getElem (by omega), Option.getD_some]; exact hLb _ (List.getElem_mem _)
    have hL7 : L.drop 7 = l.drop (n + 7) := by rw [← hL, List.drop_drop]
    have HPA : Hid (Frm.pieceAt (Frm.room n) L = if Frm.room n < acc8 ((L.take 6).drop 4) 2 ∨ L.length < 7 + acc8 ((L.take 6).drop 4) 2 then none
      else if acc8 (L.take 4) 4 = Frm.sumN (L.getD 6 0) ((L.drop 7).take (acc8 ((L.take 6).drop 4) 2)) then some (L.getD 6 0, (L.drop 7).take (acc8 ((L.take 6).drop 4) 2)) else none) := Lib.hid (by
        unfold Frm.pieceAt; rw [if_neg (by omega)])
    have HRM := Lib.hid (fun nq => Room_any n (by omega) (w.drewN nq))
    have hk6 : ∀ nq, (w.drewN nq).cell? ⟨b, off + n + 6, none⟩ = some (.int .u8 ((L.getD 6 0 : Nat) : Int)) := fun nq => hk6
    have hrm := Frm.room_le n
    rw [hL]
    obtain ⟨ar, har⟩ : ∃ ar, part (some ⟨b, off, none⟩) cap (n + 7) = ar := ⟨_, rfl⟩
    have harn : ar ≠ none := by rw [← har]; exact part_some (by simp)
    have harB : BytB B w ar (l.drop (n + 7)) := by
      rw [← har]
      exact (hl'.part cap (n + 7) l.length hc (by omega) (Nat.le_refl _)).sub (by rw [List.take_length])
    rw [har] at hs2
    obtain ⟨rl, hrl⟩ : ∃ rl, l.length - (n + 7) = rl := ⟨_, rfl⟩
    have hLrl : L.length = 7 + rl := by omega
    rw [hrl] at hs2
    rw [hL7] at HPA
    have hdl : (l.drop (n + 7)).length = rl := by rw [List.length_drop, hrl]
    have hdb : ∀ x ∈ l.drop (n + 7), x < 256 := fun x hx => hb x (List.mem_of_mem_drop hx)
    generalize l.drop (n + 7) = R at *
    generalize acc8 ((L.take 6).drop 4) 2 = ct at *
    generalize acc8 (L.take 4) 4 = s4 at *
    generalize L.getD 6 0 = K at *
    generalize Frm.room n = rm at *
    obtain ⟨cr, hcr⟩ : ∃ cr, cap - (n + 7) = cr := ⟨_, rfl⟩
    rw [hcr] at hs2
    have hrc : rl ≤ cr := by omega
    have HL := Lib.hid hLrl
    clear hcell hl' hb hl hL hLl hLg hLb hb4 hb2 har hL7 hLrl
    by_cases g1 : rm < ct
    · have HO : Hid (Frm.pieceAt rm L = none) := Lib.hid (by rw [HPA.out, if_pos (.inl g1)])
      clear HPA hdb harB
      go_enter Tryz.func81, Tryz.ntmps81
      go_wp2_with fail
      go_quiet (fail)
      go_wp2_with fail
      refine (HW4.out nq).mono ?_
      rintro e w' ⟨rfl, rfl⟩
      go_wp2_with fail
      refine (HW2.out nq).mono ?_
      rintro e w' ⟨rfl, rfl⟩
      have hk6' := hk6 nq
      go_wp2_with fail
      refine (HRM.out nq).mono ?_
      rintro e w' ⟨rfl, rfl⟩
      go_wp2
      go_ret3
      exact ⟨⟨0, none, 0, 0, false, rfl, .inl ⟨HO.out, rfl⟩⟩, below_drewN _ _ _⟩
    · by_cases g2 : rl < ct
      · have HO : Hid (Frm.pieceAt rm L = none) := Lib.hid (by rw [HPA.out, if_pos (.inr (by have := HL.out; omega))])
        clear HPA hdb harB
        go_enter Tryz.func81, Tryz.ntmps81
        go_wp2_with fail
        go_quiet (fail)
        go_wp2_with fail
        refine (HW4.out nq).mono ?_
        rintro e w' ⟨rfl, rfl⟩
        go_wp2_with fail
        refine (HW2.out nq).mono ?_
        rintro e w' ⟨rfl, rfl⟩
        have hk6' := hk6 nq
        go_wp2_with fail
        refine (HRM.out nq).mono ?_
        rintro e w' ⟨rfl, rfl⟩
        go_wp2
        go_ret3
        exact ⟨⟨0, none, 0, 0, false, rfl, .inl ⟨HO.out, rfl⟩⟩, below_drewN _ _ _⟩
      · have hsp : ∀ wx : World, (Instr.slice 47 (.slice ar rl cr) none (some (.int .u64 (ct : Int))) none).run Tryz.prog wx = .ok (.slice (part ar cr 0) ct cr) wx := fun wx => run_part_u (w := wx) rl cr ct (by omega)
        have hpl : (R.take ct).length = ct := by rw [List.length_take]; omega
        have hpn : part ar cr 0 ≠ none := part_some harn
        have hpB : BytB B w (part ar cr 0) (R.take ct) := (harB.part cr 0 ct (by omega) (by omega) (by omega)).sub (by simp)
        have hpb : ∀ x ∈ R.take ct, x < 256 := fun x hx => hdb x (List.mem_of_mem_take hx)
        have HPA2 : Hid (Frm.pieceAt rm L = if s4 = Frm.sumN K (R.take ct) then some (K, R.take ct) else none) := Lib.hid (by rw [HPA.out, if_neg (by have := HL.out; omega)])
        have HSM := Lib.hid (fun nq => sum_piece K hK (w.drewN nq) (part ar cr 0) cr (R.take ct) (hpB.keep (below_drewN B w nq)).byt hpb (by unfold maxLen; omega))
        have hsn := Frm.sumN_lt K (R.take ct)
        rw [hpl] at HSM
        generalize part ar cr 0 = ap at *
        generalize Frm.sumN K (R.take ct) = sn at *
        have HPB := Lib.hid hpB
        have HPN := Lib.hid hpn
        have HPL := Lib.hid hpl
        clear HPA hdb harB hpB hpb hpn hpl harn
        obtain ⟨eqv, heqv⟩ : ∃ eqv : Bool, ((s4 : Int) == (sn : Int)) = eqv := ⟨_, rfl⟩
        have HEQ : Hid (eqv = decide (s4 = sn)) := Lib.hid (by rw [← heqv, Bool.eq_iff_iff]; simp; omega)
        go_enter Tryz.func81, Tryz.ntmps81
        go_wp2_with fail
        go_quiet (fail)
        go_wp2_with fail
        refine (HW4.out nq).mono ?_
        rintro e w' ⟨rfl, rfl⟩
        go_wp2_with fail
        refine (HW2.out nq).mono ?_
        rintro e w' ⟨rfl, rfl⟩
        have hk6' := hk6 nq
        go_wp2_with fail
        refine (HRM.out nq).mono ?_
        rintro e w' ⟨rfl, rfl⟩
        go_wp2_with fail
        refine (HSM.out nq).mono ?_
        rintro e W1 ⟨rfl, b1⟩
        have HB1 := Lib.hid b1
        clear b1
        go_wp2
        go_ret3
        refine ⟨⟨K, ap, ct, cr, eqv, rfl, ?_⟩, (below_drewN _ _ _).trans HB1.out⟩
        rw [HPA2.out]
        by_cases g3 : s4 = sn
        · rw [if_pos g3]
          exact .inr ⟨_, rfl, by rw [HEQ.out, decide_eq_true g3], HPL.out.symm, HPB.out.keep (((below_drewN _ _ _).trans HB1.out).mono hB), HPN.out⟩
        · rw [if_neg g3]
          exact .inl ⟨rfl, by rw [HEQ.out, decide_eq_false g3]⟩
end Go.Proofs.YtadnecgcoceklaaGreatDoor.FR
