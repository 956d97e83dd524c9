/-
  What Decode, DocEncode and DocDecode answer.
-/
import Derived.Test.YtaeilfpaaogllaaIkDec
namespace Go.Proofs.Ytaeilfpaaogllaa
open Go.RowKit

/-- What bytes tell. -/
def decV (l : List Nat) : ByteArray × Int × Int × Int :=
  if l.length < 8 then (⟨#[]⟩, 0, 0, 2) else verR (strOf (l.take (l.length - 8))) (acc8 (l.drop (l.length - 8)) 8)
theorem run_part_from {w : World} {a : Option Addr} (len cap p : Nat) (z : Int) (hz : z = p) (hp : p ≤ len) (_hl : len ≤ cap) :
    (Instr.slice 24 (.slice a len cap) (some (.int .i64 z)) none none).run Try.prog w = .ok (.slice (part a cap p) (len - p) (cap - p)) w := by
  subst hz
  have hel : Try.prog.elem 24 = 5 := by kernel_rfl
  rw [run_slice_l (P := Try.prog) w 24 a len cap (by rw [hel]; exact Try.underlying24) .i64 p (by omega) (by omega), hel]
  simp [go_sem, sliced, part]
theorem run_part_to' {w : World} {a : Option Addr} (len cap q : Nat) (z : Int) (hz : z = q) (hq : q ≤ cap) :
    (Instr.slice 24 (.slice a len cap) none (some (.int .i64 z)) none).run Try.prog w = .ok (.slice (part a cap 0) q cap) w := by
  subst hz; exact run_part_to len cap q hq
set_option maxRecDepth 100000 in
set_option maxHeartbeats 800000 in
theorem decode_any (w : World) (a : Option Addr) (cap n : Nat) (l : List Nat) (hn : l.length = n) (hl : Byt w a l) (hb : ∀ x ∈ l, x < 256) (hnil : a = none → l = []) (hc : n ≤ cap) (hm : n ≤ 140737488351232) :
    Calls Try.prog 13 #[.slice a n cap] w fun e w' => e = .returned (verT (decV l)) ∧ Below w.heap.size w w' := by
  by_cases h8 : n < 8
  · have HV : Hid (decV l = (⟨#[]⟩, 0, 0, 2)) := Lib.hid (by unfold decV; rw [if_pos (by omega)])
    go_enter Try.func13, Try.ntmps13
    go_wp2
    refine bodyPost_ret (v := .tuple #[.agg #[.string ⟨#[]⟩, .int .i64 0, .int .i64 0], .int .i64 2]) (by simp [results, Try.results13, go_sem]) rfl ⟨by rw [HV.out]; rfl, bel1 _ _⟩
  · have hp1 : Byt w (part a cap (n - 8)) (l.drop (n - 8)) := by
      have := hl.part cap (n - 8) n (by omega) (by omega) (by omega)
      rwa [List.take_of_length_le (by omega)] at this
    have hp2 : Byt w (part a cap 0) (l.take (n - 8)) := by
      have := hl.part cap 0 (n - 8) (by omega) (by omega) (by omega)
      rwa [List.drop_zero] at this
    have hd8 : (l.drop (n - 8)).length = 8 := by rw [List.length_drop]; omega
    have hdb : ∀ x ∈ l.drop (n - 8), x < 256 := fun x hx => hb x (List.mem_of_mem_drop hx)
    have htb : ∀ x ∈ l.take (n - 8), x < 256 := fun x hx => hb x (List.mem_of_mem_take hx)
    have hvl : decV l = verR (strOf (l.take (n - 8))) (acc8 (l.drop (n - 8)) 8) := by unfold decV; rw [if_neg (by omega), hn]
    have hpn : part a cap 0 = none → l.take (n - 8) = [] := fun h => by rw [hnil (part_none h)]; simp
    have s1 := fun wx => run_part_from (w := wx) (a := a) n cap (n - 8) ((n : Int) - 8) (by omega) (by omega) hc
    have s2 := fun wx => run_part_to' (w := wx) (a := a) n cap (n - 8) ((n : Int) - 8) (by omega) (by omega)
    rw [show n - (n - 8) = 8 by omega] at s1
    have htl : (l.take (n - 8)).length = n - 8 := by rw [List.length_take]; omega
    generalize part a cap (n - 8) = pa at *
    generalize part a cap 0 = pb at *
    generalize l.drop (n - 8) = M at *
    generalize l.take (n - 8) = Kl at *
    have HVL := Lib.hid hvl
    have HP1 := Lib.hid hp1
    have HDB := Lib.hid hdb
    have HK : Hid (∀ wx, Below w.heap.size w wx → Calls Try.prog 26 #[.slice pb (n - 8) cap, .int .u64 (acc8 M 8 : Int)] wx fun e w' => e = .returned (verT (verR (strOf Kl) (acc8 M 8))) ∧ Below wx.heap.size wx w') := Lib.hid (fun wx hx => version_any wx pb (n - 8) cap Kl (hp2.keep hx) htb hpn htl (acc8 M 8) (acc8_lt M hdb 8))
    clear hvl hp1 hp2 hdb htb hpn hl hb hnil htl
    go_enter Try.func13, Try.ntmps13
    go_wp2_with fail
    clear s1
    have HPW := Lib.hid (HP1.out.keep (bel1 w (.cells #[.string ⟨#[]⟩, .int .i64 0, .int .i64 0] 23)))
    have HRV := Lib.hid (verAt_new w ⟨#[]⟩ 0 0 23)
    have HRF := Lib.hid (frzAt_new w #[.string ⟨#[]⟩, .int .i64 0, .int .i64 0] 23)
    have HWB := Lib.hid (bel1 w (.cells #[.string ⟨#[]⟩, .int .i64 0, .int .i64 0] 23))
    generalize w.alloc (.cells #[.string ⟨#[]⟩, .int .i64 0, .int .i64 0] 23) = wa at *
    go_loop [5, 6, 7, 18] (fun x _ _ i => ∃ k : Nat, k ≤ 8 ∧ x = .int .u64 (acc8 M k : Int) ∧ i = .int .i64 (k : Int)) (fun _ _ _ i => 8 - (intOf i).toNat)
    case atStart => exact ⟨0, by omega, rfl, rfl⟩
    case round =>
      obtain ⟨k, hk, rfl, rfl⟩ := hrel
      by_cases hlt : k < 8
      · obtain ⟨b, off, rfl, hcl⟩ := HPW.out.at (k := k) (by rw [hd8]; exact hlt)
        have hx := HDB.out _ (List.getElem_mem (show k < M.length by rw [hd8]; exact hlt))
        have HO := Lib.hid (or_put8 (acc8 M k) (M[k]'(by rw [hd8]; exact hlt)) k (by omega) (acc8_lt M HDB.out k) hx)
        have HA : Hid (acc8 M (k + 1) = acc8 M k + (M[k]'(by rw [hd8]; exact hlt)) * 2 ^ (8 * k)) := Lib.hid (by
          show acc8 M k + M.getD k 0 * _ = _
          rw [List.getD_eq_getElem?_getD, List.getElem?_eq_getElem (by rw [hd8]; exact hlt)]; rfl)
        generalize M[k]'(by rw [hd8]; exact hlt) = c at *
        go_wp2
        go_round
        case rel => exact ⟨k + 1, by omega, by rw [HA.out, HO.out], by go_num⟩
        case measure => simp [intOf]; omega
      · obtain rfl : k = 8 := by omega
        go_wp2_with fail
        refine (HK.out _ HWB.out).mono ?_
        rintro e w1 ⟨rfl, hb1⟩
        obtain ⟨g0, g1, g2, -⟩ := HRV.out.keep hb1
        obtain ⟨f0, f1, f2⟩ := HRF.out.keep HRV.out.lt hb1
        have HB := Lib.hid (HWB.out.trans (hb1.mono HWB.out.size))
        rw [← HVL.out]
        clear hb1 HK
        generalize hr : decV l = r at *
        have HRR := Lib.hid hr
        clear hr HVL
        obtain ⟨r0, r1, r2, r3⟩ := r
        unfold verT
        simp only
        go_wp2
        refine bodyPost_ret (v := .tuple #[.agg #[.string r0, .int .i64 r1, .int .i64 r2], .int .i64 r3]) (by simp [results, Try.results13, go_sem, g0, g1, g2]) rfl ⟨by rw [HRR.out]; rfl, ?_⟩
        exact ((HB.out.setCell (Nat.le_refl _) _).setCell (Nat.le_refl _) _).setCell (Nat.le_refl _) _
end Go.Proofs.Ytaeilfpaaogllaa
