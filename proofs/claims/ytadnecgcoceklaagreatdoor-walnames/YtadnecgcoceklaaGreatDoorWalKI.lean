/-
  A log's files: all but the last one last wholly; what each call makes of them; what a crash leaves.
-/
import Derived.Test.YtadnecgcoceklaaGreatDoorWalCut
namespace Go.Proofs.YtadnecgcoceklaaGreatDoor
open Go.RowKit FR.Frm

structure KI (a : A) (lo m : Nat) (ix : Nat → Nat) (fl : Nat → Fil) (R : Nat → List Rec) (cur : List Rec) (k : Nat) : Prop where
  wd : WD a lo (m + 1) ix fl
  last : a.last = a.now
  wait : a.wait = []
  cl : ∀ p, p < m → (fl p).2 = (fl p).1.length ∧ recsOf (fl p).1 = R p
  op : Opn (fl m) cur k
  byt : ∀ r ∈ cur, ∀ x ∈ r, x < 256
/-- All that was told by the files ahead. -/
def toldB (m : Nat) (R : Nat → List Rec) : List Rec := (List.range m).flatMap R
theorem toldB_succ (m : Nat) (R : Nat → List Rec) : toldB (m + 1) R = toldB m R ++ R m := by
  unfold toldB; rw [List.range_succ, List.flatMap_append]; simp
theorem flatMap_congr' {R R' : Nat → List Rec} : ∀ {l : List Nat}, (∀ p ∈ l, R p = R' p) → l.flatMap R = l.flatMap R'
  | [], _ => rfl
  | a :: l, h => by rw [List.flatMap_cons, List.flatMap_cons, h a (by simp), flatMap_congr' fun p hp => h p (by simp [hp])]
theorem toldB_congr {m : Nat} {R R' : Nat → List Rec} (h : ∀ p, p < m → R p = R' p) : toldB m R = toldB m R' :=
  flatMap_congr' fun p hp => h p (List.mem_range.1 hp)
/-- Whatever the picks, a crash leaves files that tell the first of T, no fewer than S. -/
def CI (a : A) (lo S : Nat) (T : List Rec) (t N : Nat) : Prop :=
  ∀ zs, ∃ n ix fl R, 1 ≤ n ∧ n ≤ N ∧ WD (a.crash zs) lo n ix fl ∧ (∀ p, p < n → (fl p).2 = (fl p).1.length ∧ recsOf (fl p).1 = R p) ∧ tot n fl ≤ t ∧ ∃ j, S ≤ j ∧ j ≤ T.length ∧ toldB n R = T.take j
theorem CI.more {a : A} {lo S : Nat} {T : List Rec} {t N : Nat} (h : CI a lo S T t N) {T' : List Rec} {t' N' : Nat} (hT : T = T'.take T.length) (ht : t ≤ t') (hN : N ≤ N') : CI a lo S T' t' N' := fun zs => by
  obtain ⟨n, ix, fl, R, h1, h2, h3, h4, h5, j, h6, h7, h8⟩ := h zs
  have hl : T.length ≤ T'.length := by
    have := congrArg List.length hT
    rw [List.length_take] at this; omega
  refine ⟨n, ix, fl, R, h1, by omega, h3, h4, by omega, j, h6, by omega, ?_⟩
  rw [h8]
  conv => lhs; rw [hT, List.take_take, Nat.min_eq_left h7]
theorem CI.less {a : A} {lo S : Nat} {T : List Rec} {t N : Nat} (h : CI a lo S T t N) {S' : Nat} (hS : S' ≤ S) : CI a lo S' T t N := fun zs => by
  obtain ⟨n, ix, fl, R, h1, h2, h3, h4, h5, j, h6, h7⟩ := h zs
  exact ⟨n, ix, fl, R, h1, h2, h3, h4, h5, j, by omega, h7⟩
theorem take_pre {T U : List Rec} : T = (T ++ U).take T.length := by rw [List.take_left']; rfl
section
variable {a b : A} {lo m : Nat} {ix : Nat → Nat} {fl : Nat → Fil} {R : Nat → List Rec} {cur : List Rec} {k t : Nat}
theorem KI.same (h : KI a lo m ix fl R cur k) (e1 : b.now = a.now) (e2 : b.last = a.last) (e3 : b.wait = a.wait) (e4 : b.files = a.files) : KI b lo m ix fl R cur k :=
  ⟨h.wd.same e1 e4, by rw [e1, e2]; exact h.last, by rw [e3]; exact h.wait, h.cl, h.op, h.byt⟩
theorem KI.crash (h : KI a lo m ix fl R cur k) (ht : tot (m + 1) fl ≤ t) : CI a lo ((toldB m R).length + k) (toldB m R ++ cur) t (m + 1) := fun zs => by
  obtain ⟨K, hK, e1, e2, e3⟩ := crash_eq a zs
  have hK0 : K = 0 := by rw [h.wait] at hK; simpa using hK
  subst hK0
  have e0 : lastK a 0 = wDir lo (m + 1) ix := by
    show a.last = _
    rw [h.last, h.wd.now]
  rw [e0] at e1 e2
  obtain ⟨gl, hg, hq⟩ := h.wd.crash (Nat.le_refl _) e1 e2
  obtain ⟨q, hqm⟩ := hq m (by omega)
  obtain ⟨c1, c2, j, c3, c4, c5⟩ := h.op.cut h.byt q
  have hgp : ∀ p, p < m → gl p = fl p := fun p hp => by
    obtain ⟨q, hq⟩ := hq p (by omega)
    rw [hq, cutQ_done (h.cl p hp).1]
  refine ⟨m + 1, ix, gl, fun p => if p = m then cur.take j else R p, by omega, Nat.le_refl _, hg, fun p hp => ?_, ?_, (toldB m R).length + j, by omega, by rw [List.length_append]; omega, ?_⟩
  · dsimp only
    by_cases e : p = m
    · subst e; rw [if_pos rfl, hqm]; exact ⟨c1, c5⟩
    · rw [if_neg e, hgp p (by omega)]; exact h.cl p (by omega)
  · refine Nat.le_trans (tot_le fun p hp => ?_) ht
    by_cases e : p = m
    · subst e; rw [hqm]; exact c2
    · rw [hgp p (by omega)]; exact Nat.le_refl _
  · rw [toldB_succ, if_pos rfl, toldB_congr (R' := R) (fun p hp => by rw [if_neg (by omega)])]
    rw [List.take_length_add_append]
theorem Opn.app {f : Fil} {cur : List Rec} {k : Nat} (h : Opn f cur k) (rec : Rec) : Opn (f.1 ++ frameL f.1.length rec, f.2) (cur ++ [rec]) k := by
  obtain ⟨h1, h2, h3, h4⟩ := h
  refine ⟨?_, ?_, ?_, by rw [List.length_append]; omega⟩
  · show f.1 ++ _ = _
    rw [layL_snoc, ← h1, Nat.zero_add]
  · show endN 0 (cur ++ [rec]) k ≤ f.2
    have : endN 0 (cur ++ [rec]) k = endN 0 cur k := by unfold endN; rw [List.take_append_of_le_length h4]
    omega
  · show f.2 ≤ (f.1 ++ _).length
    rw [List.length_append]; omega
theorem Opn.sync {f : Fil} {cur : List Rec} {k : Nat} (h : Opn f cur k) : Opn (f.1, f.1.length) cur cur.length :=
  ⟨h.by_, by show endN 0 cur cur.length ≤ f.1.length; rw [endN_all, h.by_]; exact Nat.le_refl _, Nat.le_refl _, Nat.le_refl _⟩
theorem KI.setLast (h : KI a lo m ix fl R cur k) (g : Fil → Fil) {cur' : List Rec} {k' : Nat} (ho : Opn (g (fl m)) cur' k') (hb : ∀ r ∈ cur', ∀ x ∈ r, x < 256) :
    KI (a.setFile (a.idx (wnm (lo + m))) (g (a.file (a.idx (wnm (lo + m)))))) lo m ix (upd fl m (g (fl m))) R cur' k' :=
  ⟨h.wd.setAt (by omega) g, h.last, h.wait, fun p hp => by unfold upd; rw [if_neg (by omega)]; exact h.cl p hp, by unfold upd; rw [if_pos rfl]; exact ho, hb⟩
theorem tot_upd {n : Nat} {fl : Nat → Fil} {f : Fil} {d : Nat} {p : Nat} (hf : f.1.length ≤ (fl p).1.length + d) : tot n (upd fl p f) ≤ tot n fl + d := by
  induction n with
  | zero => show (0 : Nat) ≤ _; omega
  | succ n ih =>
    rw [tot_succ, tot_succ]
    by_cases e : n = p
    · subst e
      have h1 : tot n (upd fl n f) = tot n fl := tot_congr fun q hq => by unfold upd; rw [if_neg (by omega)]
      have h2 : upd fl n f n = f := by unfold upd; rw [if_pos rfl]
      rw [h1, h2]; omega
    · have h2 : upd fl p f n = fl n := by unfold upd; rw [if_neg e]
      rw [h2]; omega
theorem KI.sync (h : KI a lo m ix fl R cur k) :
    ((a.sync (wnm (lo + m))).1 = 0 ∧ (On a → On (a.sync (wnm (lo + m))).2) ∧ (a.sync (wnm (lo + m))).2.room = a.room ∧ KI (a.sync (wnm (lo + m))).2 lo m ix (upd fl m ((fl m).1, (fl m).1.length)) R cur cur.length) ∨
    ((a.sync (wnm (lo + m))).1 = 4 ∧ ¬ On a ∧ (a.sync (wnm (lo + m))).2.room = a.room ∧ KI (a.sync (wnm (lo + m))).2 lo m ix fl R cur k) := by
  rcases h.wd.sync (p := m) (by omega) with ⟨h0, b, hb, e1, e2, e3, e4, e5, e6⟩ | ⟨h4, hn, e1, e2, e3, e4, e5⟩
  · refine .inl ⟨h0, ?_, ?_, ?_⟩
    · rw [hb]; exact fun ho => e6 ho
    · rw [hb]; exact e5
    · rw [hb]
      exact (h.same e1 e2 e3 e4).setLast (fun f => (f.1, f.1.length)) h.op.sync h.byt
  · exact .inr ⟨h4, hn, e5, h.same e1 e2 e3 e4⟩
/-- A record more at the end, synced or not. -/
theorem KI.put (h : KI a lo m ix fl R cur k) {rec : Rec} (hb : ∀ x ∈ rec, x < 256) (hl : rec.length ≤ 900) (hr : t + 1828 ≤ a.room) (ht : tot (m + 1) fl ≤ t) (ht2 : t + 1828 ≤ 1048576) (sync : Bool) :
    ((wPut a (lo + m) (fl m).1.length rec sync).1 = 0 ∧ (On a → On (wPut a (lo + m) (fl m).1.length rec sync).2) ∧ (wPut a (lo + m) (fl m).1.length rec sync).2.room = a.room ∧
      ∃ fl' k', KI (wPut a (lo + m) (fl m).1.length rec sync).2 lo m ix fl' R (cur ++ [rec]) k' ∧ k ≤ k' ∧ (sync = true → k' = cur.length + 1) ∧ tot (m + 1) fl' ≤ t + 1828 ∧ ∀ p, p < m → fl' p = fl p) ∨
    ((wPut a (lo + m) (fl m).1.length rec sync).1 = 4 ∧ ¬ On a ∧ (wPut a (lo + m) (fl m).1.length rec sync).2.room = a.room ∧ CI (wPut a (lo + m) (fl m).1.length rec sync).2 lo ((toldB m R).length + k) ((toldB m R ++ cur) ++ [rec]) (t + 1828) (m + 1)) := by
  have hfl := frameL_len (fl m).1.length rec
  have h1 := tot_one (fl := fl) (n := m + 1) (p := m) (by omega)
  have hbc : ∀ r ∈ cur ++ [rec], ∀ x ∈ r, x < 256 := fun r hr' => by
    rcases List.mem_append.1 hr' with h' | h'
    · exact h.byt r h'
    · simp at h'; subst h'; exact hb
  unfold wPut
  rcases h.wd.append (p := m) (l := frameL (fl m).1.length rec) (by omega) (by omega) (by omega) with ⟨h0, b, hbq, e1, e2, e3, e4, e5, e6⟩ | ⟨h4, hn, e1, e2, e3, e4, e5⟩
  · have hK : KI (a.append (wnm (lo + m)) (frameL (fl m).1.length rec)).2 lo m ix (upd fl m ((fl m).1 ++ frameL (fl m).1.length rec, (fl m).2)) R (cur ++ [rec]) k := by
      rw [hbq]
      exact (h.same e1 e2 e3 e4).setLast (fun f => (f.1 ++ frameL (fl m).1.length rec, f.2)) (h.op.app rec) hbc
    have htt : tot (m + 1) (upd fl m ((fl m).1 ++ frameL (fl m).1.length rec, (fl m).2)) ≤ t + 1828 := by
      have := tot_upd (n := m + 1) (fl := fl) (p := m) (f := ((fl m).1 ++ frameL (fl m).1.length rec, (fl m).2)) (d := 1828) (by show ((fl m).1 ++ _).length ≤ _; rw [List.length_append]; omega)
      omega
    have hroom : (a.append (wnm (lo + m)) (frameL (fl m).1.length rec)).2.room = a.room := by rw [hbq]; exact e5
    have hon : On a → On (a.append (wnm (lo + m)) (frameL (fl m).1.length rec)).2 := by rw [hbq]; exact fun ho => e6 ho
    by_cases hs : sync = true
    · rw [if_pos ⟨h0, hs⟩]
      rcases hK.sync with ⟨g0, g1, g2, g3⟩ | ⟨g4, g1, g2, g3⟩
      · refine .inl ⟨g0, fun ho => g1 (hon ho), by rw [g2, hroom], _, _, g3, by rw [List.length_append]; have := h.op.k3; omega, fun _ => by rw [List.length_append]; rfl, ?_, fun p hp => by unfold upd; rw [if_neg (by omega), if_neg (by omega)]⟩
        refine Nat.le_trans (Nat.le_of_eq (tot_congr fun p hp => ?_)) htt
        unfold upd
        by_cases e : p = m <;> simp [e]
      · refine .inr ⟨g4, fun ho => g1 (hon ho), by rw [g2, hroom], ?_⟩
        rw [List.append_assoc]
        exact g3.crash htt
    · rw [if_neg (fun h' => hs h'.2)]
      exact .inl ⟨h0, hon, hroom, _, _, hK, Nat.le_refl _, fun h' => absurd h' hs, htt, fun p hp => by unfold upd; rw [if_neg (by omega)]⟩
  · rw [if_neg (fun h' => by rw [h4] at h'; exact absurd h'.1 (by decide))]
    refine .inr ⟨h4, hn, e5, ?_⟩
    exact ((h.same e1 e2 e3 e4).crash (t := t) ht).more take_pre (by omega) (Nat.le_refl _)
end
end Go.Proofs.YtadnecgcoceklaaGreatDoor
