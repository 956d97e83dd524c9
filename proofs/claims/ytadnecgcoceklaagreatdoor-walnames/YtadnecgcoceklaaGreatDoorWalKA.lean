/-
  A log's next file; Append.
-/
import Derived.Test.YtadnecgcoceklaaGreatDoorWalKI
namespace Go.Proofs.YtadnecgcoceklaaGreatDoor
open Go.RowKit FR.Frm

theorem recs_nil : recsOf [] = [] := recs_lay []
section
variable {a b : A} {lo m : Nat} {ix : Nat → Nat} {fl : Nat → Fil} {R : Nat → List Rec} {cur : List Rec} {k t : Nat}
/-- The next file is there, its name doesn't last yet. -/
theorem CI.pending (h : WD a lo (m + 1) ix fl) (hl : a.last = wDir lo m ix) (hw : a.wait = [.create (wnm (lo + m)) (ix m)]) (hc : ∀ p, p < m → (fl p).2 = (fl p).1.length ∧ recsOf (fl p).1 = R p) (hf : fl m = ([], 0)) (hm : 1 ≤ m) (ht : tot (m + 1) fl ≤ t) :
    CI a lo (toldB m R).length (toldB m R) t (m + 1) := fun zs => by
  obtain ⟨K, hK, e1, e2, e3⟩ := crash_eq a zs
  rw [hw] at hK
  have hK1 : K ≤ 1 := by simpa using hK
  have hcl : ∀ p, p < m + 1 → (fl p).2 = (fl p).1.length := fun p hp => by
    by_cases e : p = m
    · subst e; rw [hf]; rfl
    · exact (hc p (by omega)).1
  have htm : tot m fl ≤ t := by rw [tot_succ] at ht; omega
  rcases (show K = 0 ∨ K = 1 by omega) with rfl | rfl
  · have e0 : lastK a 0 = wDir lo m ix := hl
    rw [e0] at e1 e2
    obtain ⟨gl, hg, hq⟩ := h.crash (n' := m) (by omega) e1 e2
    have hgp : ∀ p, p < m → gl p = fl p := fun p hp => by
      obtain ⟨q, hq⟩ := hq p hp
      rw [hq, cutQ_done (hcl p (by omega))]
    exact ⟨m, ix, gl, R, hm, by omega, hg, fun p hp => by rw [hgp p hp]; exact hc p hp, by rw [tot_congr fun p hp => by rw [hgp p hp]]; exact htm, _, Nat.le_refl _, Nat.le_refl _, List.take_length.symm⟩
  · have e0 : lastK a 1 = wDir lo (m + 1) ix := by
      rw [lastK_succ (c := .create (wnm (lo + m)) (ix m)) (by rw [hw]; rfl)]
      show Dir.put (lastK a 0) _ _ = _
      have : lastK a 0 = wDir lo m ix := hl
      have hh := h.hi
      rw [this, wDir_put (by omega)]
      exact wDir_congr fun p hp => by split; next e => rw [e]
                                      next e => rfl
    rw [e0] at e1 e2
    obtain ⟨gl, hg, hq⟩ := h.crash (n' := m + 1) (Nat.le_refl _) e1 e2
    have hgp : ∀ p, p < m + 1 → gl p = fl p := fun p hp => by
      obtain ⟨q, hq⟩ := hq p hp
      rw [hq, cutQ_done (hcl p hp)]
    refine ⟨m + 1, ix, gl, fun p => if p = m then [] else R p, by omega, Nat.le_refl _, hg, fun p hp => ?_, by rw [tot_congr fun p hp => by rw [hgp p hp]]; exact ht, (toldB m R).length, Nat.le_refl _, Nat.le_refl _, ?_⟩
    · rw [hgp p hp]
      dsimp only
      by_cases e : p = m
      · subst e; rw [if_pos rfl, hf]; exact ⟨rfl, recs_nil⟩
      · rw [if_neg e]; exact hc p (by omega)
    · rw [toldB_succ, if_pos rfl, List.append_nil, toldB_congr (R' := R) (fun p hp => by rw [if_neg (by omega)]), List.take_length]
theorem KI.begin (h : WD a lo m ix fl) (hl : a.last = a.now) (hw : a.wait = []) (hc : ∀ p, p < m → (fl p).2 = (fl p).1.length ∧ recsOf (fl p).1 = R p) (hi : lo + m < 1000000) (hm : m < 400) :
    ((wBegin a (lo + m)).1 = 0 ∧ (On a → On (wBegin a (lo + m)).2) ∧ (wBegin a (lo + m)).2.room = a.room ∧
      ∃ ix' fl', KI (wBegin a (lo + m)).2 lo m ix' fl' R [] 0 ∧ tot (m + 1) fl' = tot m fl ∧ fl' m = ([], 0) ∧ ∀ p, p < m → fl' p = fl p) ∨
    ((wBegin a (lo + m)).1 = 4 ∧ ¬ On a ∧ (wBegin a (lo + m)).2.room = a.room ∧
      (((wBegin a (lo + m)).2.now = a.now ∧ (wBegin a (lo + m)).2.last = a.last ∧ (wBegin a (lo + m)).2.wait = a.wait ∧ (wBegin a (lo + m)).2.files = a.files) ∨
       ∃ ix' fl', WD (wBegin a (lo + m)).2 lo (m + 1) ix' fl' ∧ (wBegin a (lo + m)).2.last = wDir lo m ix' ∧ (wBegin a (lo + m)).2.wait = [.create (wnm (lo + m)) (ix' m)] ∧ (∀ p, p < m → fl' p = fl p) ∧ fl' m = ([], 0) ∧ tot (m + 1) fl' = tot m fl)) := by
  unfold wBegin
  rcases h.create hm hi with ⟨h0, b, hbq, e1, e2, e3, e4, e5, e6⟩ | ⟨h4, hn, e1, e2, e3, e4, e5⟩
  · rw [if_pos h0]
    have hb := (h.same e1 e4).created hi
    have hcon : On a → On ((a.create (wnm (lo + m))).2) := by rw [hbq]; exact fun ho => e6 ho
    have hrc : (a.create (wnm (lo + m))).2.room = a.room := by rw [hbq]; exact e5
    have hwd : WD (a.create (wnm (lo + m))).2 lo (m + 1) (fun p => if p = m then b.files.length else ix p) (fun p => if p = m then ([], 0) else fl p) := by rw [hbq]; exact hb
    have hlast : (a.create (wnm (lo + m))).2.last = wDir lo m (fun p => if p = m then b.files.length else ix p) := by
      rw [hbq]
      show b.last = _
      rw [e2, hl, h.now]
      exact wDir_congr fun p hp => by rw [if_neg (by omega)]
    have hwait : (a.create (wnm (lo + m))).2.wait = [.create (wnm (lo + m)) b.files.length] := by
      rw [hbq]
      show b.wait ++ [_] = _
      rw [e3, hw]; rfl
    have htot : tot (m + 1) (fun p => if p = m then (([], 0) : Fil) else fl p) = tot m fl := by
      rw [tot_succ, if_pos rfl, tot_congr (gl := fl) (fun p hp => by rw [if_neg (by omega)])]; rfl
    generalize (a.create (wnm (lo + m))).2 = c at *
    rcases pow_try c (fun a => { a with last := a.now, wait := [] }) with ⟨g0, d, hd, f1, f2, f3, f4, f5, f6⟩ | ⟨g4, hn, f1, f2, f3, f4, f5⟩
    · refine .inl ⟨g0, fun ho => ?_, ?_, (fun p => if p = m then b.files.length else ix p), (fun p => if p = m then ([], 0) else fl p), ⟨?_, ?_, ?_, fun p hp => ?_, ?_, (fun r hr => by cases hr)⟩, htot, if_pos rfl, fun p hp => if_neg (by omega)⟩
      · show On (c.try _).2
        rw [hd]; exact f6 (hcon ho)
      · show (c.try _).2.room = _
        rw [hd]; show d.room = _; rw [f5, hrc]
      · show WD (c.try _).2 _ _ _ _
        rw [hd]; exact hwd.same f1 f4
      · show (c.try _).2.last = (c.try _).2.now
        rw [hd]
      · show (c.try _).2.wait = []
        rw [hd]
      · rw [if_neg (by omega)]; exact hc p hp
      · rw [if_pos rfl]; exact ⟨rfl, Nat.le_refl _, Nat.le_refl _, Nat.le_refl _⟩
    · refine .inr ⟨g4, fun ho => hn (hcon ho), f5.trans hrc, .inr ⟨_, _, hwd.same f1 f4, f2.trans hlast, f3.trans (by rw [hwait, if_pos rfl]), fun p hp => if_neg (by omega), if_pos rfl, htot⟩⟩
  · rw [if_neg (by rw [h4]; decide)]
    exact .inr ⟨h4, hn, e5, .inl ⟨e1, e2, e3, e4⟩⟩
theorem KI.roll (h : KI a lo m ix fl R cur k) (hi : lo + m + 1 < 1000000) (hm : m + 1 < 400) (ht : tot (m + 1) fl ≤ t) :
    ((wGoOn a (lo + m)).1 = 0 ∧ (wGoOn a (lo + m)).2.2 = lo + (m + 1) ∧ (On a → On (wGoOn a (lo + m)).2.1) ∧ (wGoOn a (lo + m)).2.1.room = a.room ∧
      ∃ ix' fl', KI (wGoOn a (lo + m)).2.1 lo (m + 1) ix' fl' (upd R m cur) [] 0 ∧ tot (m + 2) fl' ≤ t ∧ fl' (m + 1) = ([], 0) ∧ ∀ p, p < m + 1 → (fl' p).1 = (fl p).1) ∨
    ((wGoOn a (lo + m)).1 = 4 ∧ ¬ On a ∧ (wGoOn a (lo + m)).2.1.room = a.room ∧ CI (wGoOn a (lo + m)).2.1 lo ((toldB m R).length + k) (toldB m R ++ cur) t (m + 2)) := by
  have hk := h.op.k3
  unfold wGoOn
  rw [if_neg (by omega)]
  rcases h.sync with ⟨h0, h1, h2, h3⟩ | ⟨h4, h1, h2, h3⟩
  · rw [if_pos h0]
    generalize (a.sync (wnm (lo + m))).2 = s at *
    have hwd := h3.wd
    have htot : tot (m + 1) (upd fl m ((fl m).1, (fl m).1.length)) ≤ t := Nat.le_trans (Nat.le_of_eq (tot_congr fun p hp => by unfold upd; by_cases e : p = m <;> simp [e])) ht
    have hcl : ∀ p, p < m + 1 → (upd fl m ((fl m).1, (fl m).1.length) p).2 = (upd fl m ((fl m).1, (fl m).1.length) p).1.length ∧ recsOf (upd fl m ((fl m).1, (fl m).1.length) p).1 = upd R m cur p := fun p hp => by
      unfold upd
      by_cases e : p = m
      · subst e; rw [if_pos rfl, if_pos rfl]; exact ⟨rfl, by show recsOf (fl p).1 = _; rw [h.op.by_, recs_lay]⟩
      · rw [if_neg e, if_neg e]; exact h.cl p (by omega)
    have htold : toldB (m + 1) (upd R m cur) = toldB m R ++ cur := by
      rw [toldB_succ, toldB_congr (R' := R) (fun p hp => by unfold upd; rw [if_neg (by omega)])]
      unfold upd; rw [if_pos rfl]
    have hb1 : ∀ p, p < m + 1 → (upd fl m ((fl m).1, (fl m).1.length) p).1 = (fl p).1 := fun p hp => by unfold upd; by_cases e : p = m <;> simp [e]
    rcases KI.begin (m := m + 1) h3.wd h3.last h3.wait hcl (by omega) hm with ⟨g0, g1, g2, ix', fl', g3, g4, g5, g6⟩ | ⟨g4, g1, g2, g3⟩
    · have e : lo + m + 1 = lo + (m + 1) := by omega
      rw [e, if_pos g0]
      exact .inl ⟨rfl, rfl, fun ho => g1 (h1 ho), g2.trans h2, ix', fl', g3, by rw [g4]; exact htot, g5, fun p hp => by rw [g6 p hp]; exact hb1 p hp⟩
    · have e : lo + m + 1 = lo + (m + 1) := by omega
      rw [e, if_neg (by rw [g4]; decide)]
      refine .inr ⟨g4, fun ho => g1 (h1 ho), g2.trans h2, ?_⟩
      rcases g3 with ⟨f1, f2, f3, f4⟩ | ⟨ix', fl', f1, f2, f3, f4, f5, f6⟩
      · have := (h3.same f1 f2 f3 f4).crash htot
        exact (this.less (by omega)).more List.take_length.symm (Nat.le_refl _) (by omega)
      · have := CI.pending (R := upd R m cur) f1 f2 f3 (fun p hp => by rw [f4 p hp]; exact hcl p hp) f5 (by omega) (by rw [f6]; exact htot)
        rw [htold] at this
        exact this.less (by rw [List.length_append]; omega)
  · rw [if_neg (by rw [h4]; decide)]
    exact .inr ⟨h4, h1, h2, (h3.crash ht).more List.take_length.symm (Nat.le_refl _) (by omega)⟩
/-- Append. -/
theorem KI.app (h : KI a lo m ix fl R cur k) {rec : Rec} (hb : ∀ x ∈ rec, x < 256) (hl : rec.length ≤ 900) (hi : lo + m + 1 < 1000000) (hm : m + 1 < 400) (hr : t + 1828 ≤ a.room) (ht : tot (m + 1) fl ≤ t) (ht2 : t + 1828 ≤ 1048576) (lim : Nat) (sync : Bool) :
    ((wAppend a (lo + m) lim rec sync).1 = 0 ∧ (On a → On (wAppend a (lo + m) lim rec sync).2.1) ∧ (wAppend a (lo + m) lim rec sync).2.1.room = a.room ∧
      ((¬ lim ≤ (fl m).1.length ∧ (wAppend a (lo + m) lim rec sync).2.2 = lo + m ∧ ∃ fl' k', KI (wAppend a (lo + m) lim rec sync).2.1 lo m ix fl' R (cur ++ [rec]) k' ∧ k ≤ k' ∧ (sync = true → k' = cur.length + 1) ∧ tot (m + 1) fl' ≤ t + 1828 ∧ ∀ p, p < m → fl' p = fl p) ∨
       (lim ≤ (fl m).1.length ∧ (wAppend a (lo + m) lim rec sync).2.2 = lo + (m + 1) ∧ ∃ ix' fl' k', KI (wAppend a (lo + m) lim rec sync).2.1 lo (m + 1) ix' fl' (upd R m cur) [rec] k' ∧ (sync = true → k' = 1) ∧ tot (m + 2) fl' ≤ t + 1828 ∧ ∀ p, p < m + 1 → (fl' p).1 = (fl p).1))) ∨
    ((wAppend a (lo + m) lim rec sync).1 = 4 ∧ ¬ On a ∧ (wAppend a (lo + m) lim rec sync).2.1.room = a.room ∧ CI (wAppend a (lo + m) lim rec sync).2.1 lo ((toldB m R).length + k) ((toldB m R ++ cur) ++ [rec]) (t + 1828) (m + 2)) := by
  have hk := h.op.k3
  unfold wAppend
  rw [if_neg (by omega)]
  obtain ⟨e1, e2⟩ := h.wd.find (p := m) (by omega)
  have hfm := h.wd.file m (by omega)
  by_cases ho : a.off = false
  · obtain ⟨s1, s2⟩ := sizeE_ok e1 ho
    rw [if_pos s1, s2, e2, hfm]
    by_cases hlim : lim ≤ (fl m).1.length
    · rw [if_pos hlim]
      rcases h.roll hi hm ht with ⟨g0, g1, g2, g3, ix', fl', g4, g5, g6, g7⟩ | ⟨g4, g1, g2, g3⟩
      · rw [if_pos g0, g1]
        generalize (wGoOn a (lo + m)).2.1 = s at *
        have hp := g4.put hb hl (by rw [g3]; exact hr) g5 ht2 sync
        rw [g6] at hp
        have hz : (([], 0) : Fil).1.length = 0 := rfl
        rw [hz] at hp
        have htold : toldB (m + 1) (upd R m cur) = toldB m R ++ cur := by
          rw [toldB_succ, toldB_congr (R' := R) (fun p hp => by unfold upd; rw [if_neg (by omega)])]
          unfold upd; rw [if_pos rfl]
        rcases hp with ⟨p0, p1, p2, fl2, k2, p3, p4, p5, p6, p7⟩ | ⟨p4, p1, p2, p3⟩
        · exact .inl ⟨p0, fun ho => p1 (g2 ho), p2.trans g3, .inr ⟨hlim, rfl, ix', fl2, k2, p3, p5, p6, fun p hp => by rw [p7 p hp]; exact g7 p hp⟩⟩
        · refine .inr ⟨p4, fun ho => p1 (g2 ho), p2.trans g3, ?_⟩
          rw [htold, List.append_nil] at p3
          exact p3.less (by rw [List.length_append]; omega)
      · rw [if_neg (by rw [g4]; decide)]
        exact .inr ⟨g4, g1, g2, g3.more take_pre (by omega) (Nat.le_refl _)⟩
    · rw [if_neg hlim]
      rcases h.put hb hl hr ht ht2 sync with ⟨p0, p1, p2, fl2, k2, p3, p4, p5, p6, p7⟩ | ⟨p4, p1, p2, p3⟩
      · exact .inl ⟨p0, p1, p2, .inl ⟨hlim, rfl, fl2, k2, p3, p4, p5, p6, p7⟩⟩
      · exact .inr ⟨p4, p1, p2, p3.more List.take_length.symm (Nat.le_refl _) (by omega)⟩
  · have ho' : a.off = true := by simpa using ho
    obtain ⟨s1, s2⟩ := sizeE_off e1 ho'
    rw [if_neg (by rw [s1]; decide), s1]
    exact .inr ⟨rfl, fun hon => ho hon.1, rfl, (h.crash ht).more take_pre (by omega) (by omega)⟩
end
end Go.Proofs.YtadnecgcoceklaaGreatDoor
