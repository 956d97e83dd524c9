/-
  Texts laid together: WalKP WalSP WalQP.
-/
import Derived.Test.YtadnecgcoceklaaGreatDoorWalL1
/-
  What WalKeeps does with a log, plainly: the records that are sure, those that wait, and what a crash leaves.
-/
namespace Go.Proofs.YtadnecgcoceklaaGreatDoor
open Go.RowKit FR.Frm

/-- Behind i turns: the log's files tell the sure records and those that wait. -/
structure KS (a : A) (i num : Nat) (S V : List Rec) : Prop where
  ex : ∃ m ix fl R cur k, KI a 1 m ix fl R cur k ∧ num = 1 + m ∧ S ++ V = toldB m R ++ cur ∧ S.length ≤ (toldB m R).length + k ∧ tot (m + 1) fl ≤ 1828 * i ∧ m ≤ 2 * i
  room : a.room = 4194304
  cnt : (S ++ V).length ≤ i
/-- What a crash will leave. -/
structure CS (a : A) (i : Nat) (S V : List Rec) : Prop where
  ci : ∃ S0, S.length ≤ S0 ∧ CI a 1 S0 (S ++ V) (1828 * i) (2 * i)
  top : a.top < 1000
  room : a.room = 4194304
  cnt : (S ++ V).length ≤ i
theorem KS.top {a : A} {i num : Nat} {S V : List Rec} (h : KS a i num S V) (hi : i ≤ 60) : a.top < 300 ∧ 1 ≤ num ∧ num < 300 := by
  obtain ⟨m, ix, fl, R, cur, k, h1, h2, h3, h4, h5, h6⟩ := h.ex
  have := h1.top
  omega
theorem wPut_top (a : A) (n p : Nat) (rec : Rec) (sync : Bool) : (wPut a n p rec sync).2.top = a.top := by
  unfold wPut
  split
  · rw [sync_top, append_top]
  · rw [append_top]
theorem wAppend_top (a : A) (num lim : Nat) (rec : Rec) (sync : Bool) : (wAppend a num lim rec sync).2.1.top ≤ a.top + 1 := by
  have h1 := wGoOn_top a num
  unfold wAppend
  split
  · show a.top ≤ _; omega
  · split
    · split
      · split
        · show (wPut _ _ _ _ _).2.top ≤ _; rw [wPut_top]; exact h1
        · exact h1
      · show (wPut _ _ _ _ _).2.top ≤ _; rw [wPut_top]; omega
    · show a.top ≤ _; omega
theorem KS.next {a : A} {i num : Nat} {S V : List Rec} (h : KS a i num S V) : KS a (i + 1) num S V := by
  obtain ⟨⟨m, ix, fl, R, cur, k, h1, h2, h3, h4, h5, h6⟩, hr, hc⟩ := h
  exact ⟨⟨m, ix, fl, R, cur, k, h1, h2, h3, h4, by omega, by omega⟩, hr, by omega⟩
theorem KS.arm {a : A} {i num : Nat} {S V : List Rec} (h : KS a i num S V) (n : Int) : KS (a.arm n) i num S V := by
  obtain ⟨⟨m, ix, fl, R, cur, k, h1, h2, h3, h4, h5, h6⟩, hr, hc⟩ := h
  exact ⟨⟨m, ix, fl, R, cur, k, h1.same rfl rfl rfl rfl, h2, h3, h4, h5, h6⟩, hr, hc⟩
theorem KS.crash {a : A} {i num : Nat} {S V : List Rec} (h : KS a i num S V) (hi : i < 60) : CS a (i + 1) S V := by
  obtain ⟨⟨m, ix, fl, R, cur, k, h1, h2, h3, h4, h5, h6⟩, hr, hc⟩ := h
  refine ⟨⟨_, h4, ?_⟩, by have := h1.top; omega, hr, by omega⟩
  rw [h3]
  exact (h1.crash h5).more List.take_length.symm (by omega) (by omega)
theorem KS.sync {a : A} {i num : Nat} {S V : List Rec} (h : KS a i num S V) : ∃ z a', a.sync (wnm num) = (z, a') ∧ ((z = 0 ∧ KS a' (i + 1) num (S ++ V) []) ∨ (z = 4 ∧ KS a' i num S V)) := by
  obtain ⟨⟨m, ix, fl, R, cur, k, h1, h2, h3, h4, h5, h6⟩, hr, hc⟩ := h
  subst h2
  refine ⟨_, _, rfl, ?_⟩
  rcases h1.sync with ⟨g0, g1, g2, g3⟩ | ⟨g4, g1, g2, g3⟩
  · refine .inl ⟨g0, ⟨m, ix, _, R, cur, cur.length, g3, rfl, by rw [List.append_nil]; exact h3, by rw [h3, List.length_append]; exact Nat.le_refl _, ?_, by omega⟩, g2.trans hr, by rw [List.append_nil]; omega⟩
    refine Nat.le_trans (Nat.le_of_eq (tot_congr fun p hp => ?_)) (Nat.le_trans h5 (by omega))
    unfold upd
    by_cases e : p = m <;> simp [e]
  · exact .inr ⟨g4, ⟨m, ix, fl, R, cur, k, g3, rfl, h3, h4, h5, h6⟩, g2.trans hr, hc⟩
theorem KS.app {a : A} {i num : Nat} {S V : List Rec} (h : KS a i num S V) (hi : i < 60) {rec : Rec} (hb : ∀ x ∈ rec, x < 256) (hl : rec.length ≤ 900) (lim : Nat) (sync : Bool) :
    ∃ z a' num', wAppend a num lim rec sync = (z, a', num') ∧ ((z = 0 ∧ KS a' (i + 1) num' S (V ++ [rec]) ∧ (sync = true → KS a' (i + 1) num' (S ++ (V ++ [rec])) [])) ∨ (z = 4 ∧ CS a' (i + 1) S (V ++ [rec]))) := by
  obtain ⟨⟨m, ix, fl, R, cur, k, h1, h2, h3, h4, h5, h6⟩, hr, hc⟩ := h
  subst h2
  have hA := h1.app (t := 1828 * i) hb hl (by omega) (by omega) (by omega) h5 (by omega) lim sync
  obtain ⟨r, hr'⟩ : ∃ r, wAppend a (1 + m) lim rec sync = r := ⟨_, rfl⟩
  rw [hr'] at hA ⊢
  have htp := wAppend_top a (1 + m) lim rec sync
  rw [hr'] at htp
  have ht0 := h1.top
  obtain ⟨z, a', num'⟩ := r
  refine ⟨z, a', num', rfl, ?_⟩
  dsimp only at hA htp
  have hk := h1.op.k3
  have hcn : (S ++ (V ++ [rec])).length ≤ i + 1 := by rw [← List.append_assoc, List.length_append]; simp only [List.length_singleton]; omega
  rcases hA with ⟨g0, g1, g2, ⟨g3, g4, fl', k', g5, g6, g7, g8, g9⟩ | ⟨g3, g4, ix', fl', k', g5, g6, g7, g8⟩⟩ | ⟨g0, g1, g2, g3⟩
  · refine .inl ⟨g0, ⟨⟨m, ix, fl', R, cur ++ [rec], k', g5, g4, by rw [← List.append_assoc, h3, List.append_assoc], by omega, by omega, by omega⟩, g2.trans hr, hcn⟩, fun hs => ⟨⟨m, ix, fl', R, cur ++ [rec], k', g5, g4, by rw [List.append_nil, ← List.append_assoc, h3, List.append_assoc], ?_, by omega, by omega⟩, g2.trans hr, by rw [List.append_nil]; exact hcn⟩⟩
    rw [g7 hs, ← List.append_assoc, h3, List.append_assoc]
    simp
  · have htold : toldB (m + 1) (upd R m cur) = toldB m R ++ cur := by
      rw [toldB_succ, toldB_congr (R' := R) (fun p hp => by unfold upd; rw [if_neg (by omega)])]
      unfold upd; rw [if_pos rfl]
    refine .inl ⟨g0, ⟨⟨m + 1, ix', fl', _, [rec], k', g5, g4, by rw [htold, ← List.append_assoc, h3], by rw [htold, List.length_append]; omega, by omega, by omega⟩, g2.trans hr, hcn⟩, fun hs => ⟨⟨m + 1, ix', fl', _, [rec], k', g5, g4, by rw [htold, List.append_nil, ← List.append_assoc, h3], ?_, by omega, by omega⟩, g2.trans hr, by rw [List.append_nil]; exact hcn⟩⟩
    rw [g6 hs, htold, ← List.append_assoc, h3]
    simp
    omega
  · refine .inr ⟨g0, ⟨_, h4, ?_⟩, by omega, g2.trans hr, hcn⟩
    rw [← List.append_assoc, h3]
    exact g3.more List.take_length.symm (by omega) (by omega)
/-- Behind the crash: what is told, and the log that is begun anew. -/
theorem CS.crash {a : A} {i : Nat} {S V : List Rec} (h : CS a i S V) (hi : i ≤ 60) (zs : List Int) (lim : Nat) (hl1 : 1 ≤ lim) (hl2 : lim ≤ 600) :
    (a.crash zs).listE = 0 ∧ (a.crash zs).top < 300 ∧ ∃ n, 1 ≤ n ∧ n < 300 ∧ wNums (a.crash zs).list = (List.range n).map (fun p => 1 + p) ∧
      ∃ j, S.length ≤ j ∧ j ≤ (S ++ V).length ∧ wRecs (a.crash zs) (wNums (a.crash zs).list) 0 = (S ++ V).take j ∧
      ∃ a', wNewR (a.crash zs) ((n : Int) + 1) lim = (0, a') ∧ KS a' i (n + 1) ((S ++ V).take j) [] := by
  obtain ⟨⟨S0, hS0, hci⟩, _, hr, hc⟩ := h
  obtain ⟨n, ix, fl, R, h1, h2, h3, h4, h5, j, h6, h7, h8⟩ := hci zs
  obtain ⟨c1, c2, c3, c4⟩ := crash_on a zs
  have hb : ∀ p, p < n → (fl p).1.length ≤ 1048576 := fun p hp => by have := tot_one (fl := fl) hp; omega
  have htop : (a.crash zs).top < 300 := by
    unfold A.top
    rw [c3, c4, h3.now, wDir_length]
    simp; omega
  refine ⟨by unfold A.listE; rw [c1.1]; rfl, htop, n, h1, by omega, h3.nums c1.1, j, by omega, h7, ?_, ?_⟩
  · rw [h3.recs_all c1.1 hb (by omega), ← h8]
    unfold toldB
    exact flatMap_congr' fun p hp => (h4 p (List.mem_range.1 hp)).2
  · rcases KI.begin (R := R) h3 c3 c4 h4 (by omega) (by omega) with ⟨g0, g1, g2, ix', fl', g3, g4, g5, _⟩ | ⟨_, hn, _⟩
    · have e : (((n : Int) + 1).toNat) = 1 + n := by omega
      refine ⟨(wBegin (a.crash zs) (1 + n)).2, ?_, ⟨n, ix', fl', R, [], 0, g3, by omega, by rw [List.append_nil, List.append_nil]; exact h8.symm, by rw [← h8]; exact Nat.le_refl _, by rw [g4]; exact h5, by omega⟩, g2.trans (c2.trans hr), by rw [List.append_nil, List.length_take]; omega⟩
      unfold wNewR
      rw [if_neg (by omega), e]
      exact Prod.ext g0 rfl
    · exact absurd c1 hn
/-- The start. -/
theorem KS.start (lim : Nat) (hl1 : 1 ≤ lim) (hl2 : lim ≤ 600) : ∃ a', wNewR (A.new 4194304) 1 lim = (0, a') ∧ KS a' 0 1 [] [] := by
  obtain ⟨s0, s1, s2, ix, fl, s3, s4, s5⟩ := KI.start 4194304 1 (by omega) (by omega)
  refine ⟨(wBegin (A.new 4194304) 1).2, ?_, ⟨0, ix, fl, _, [], 0, s3, rfl, rfl, Nat.zero_le _, Nat.le_of_eq s4, by omega⟩, s2, Nat.zero_le _⟩
  unfold wNewR
  rw [if_neg (by omega)]
  exact Prod.ext s0 rfl
end Go.Proofs.YtadnecgcoceklaaGreatDoor

/-
  What WalSyncs and WalSplits do, plainly: the same records in two logs.
-/
namespace Go.Proofs.YtadnecgcoceklaaGreatDoor
open Go.RowKit FR.Frm

/-- Two logs by the same limit, of the same records. -/
structure PS (a b : A) (i num : Nat) (T : List Rec) : Prop where
  ex : ∃ m ix fl jx gl R cur k q, KI a 3 m ix fl R cur k ∧ KI b 3 m jx gl R cur q ∧ num = 3 + m ∧ T = toldB m R ++ cur ∧ tot (m + 1) fl ≤ 1828 * i ∧ tot (m + 1) gl ≤ 1828 * i ∧ m ≤ i ∧ ∀ p, p < m + 1 → (fl p).1 = (gl p).1
  on1 : On a
  on2 : On b
  r1 : a.room = 4194304
  r2 : b.room = 4194304
  cnt : T.length = i
theorem PS.top {a b : A} {i num : Nat} {T : List Rec} (h : PS a b i num T) (hi : i ≤ 40) : a.top < 300 ∧ b.top < 300 ∧ 1 ≤ num ∧ num < 300 := by
  obtain ⟨m, ix, fl, jx, gl, R, cur, k, q, h1, h2, h3, h4, h5, h6, h7, h8⟩ := h.ex
  have := h1.top; have := h2.top
  omega
theorem PS.app {a b : A} {i num : Nat} {T : List Rec} (h : PS a b i num T) (hi : i < 40) {rec : Rec} (hb : ∀ x ∈ rec, x < 256) (hl : rec.length ≤ 900) (lim : Nat) (s1 s2 : Bool) :
    ∃ a' b' num', wAppend a num lim rec s1 = (0, a', num') ∧ wAppend b num lim rec s2 = (0, b', num') ∧ PS a' b' (i + 1) num' (T ++ [rec]) := by
  obtain ⟨⟨m, ix, fl, jx, gl, R, cur, k, q, h1, h2, h3, h4, h5, h6, h7, h8⟩, o1, o2, r1, r2, hc⟩ := h
  subst h3
  have hA := h1.app (t := 1828 * i) hb hl (by omega) (by omega) (by omega) h5 (by omega) lim s1
  have hB := h2.app (t := 1828 * i) hb hl (by omega) (by omega) (by omega) h6 (by omega) lim s2
  obtain ⟨r, hr⟩ : ∃ r, wAppend a (3 + m) lim rec s1 = r := ⟨_, rfl⟩
  obtain ⟨u, hu⟩ : ∃ u, wAppend b (3 + m) lim rec s2 = u := ⟨_, rfl⟩
  rw [hr] at hA ⊢
  rw [hu] at hB ⊢
  obtain ⟨z, a', n1⟩ := r
  obtain ⟨y, b', n2⟩ := u
  dsimp only at hA hB
  have he := h8 m (by omega)
  rcases hA with ⟨g0, g1, g2, hA⟩ | ⟨_, hn, _⟩
  · rcases hB with ⟨k0, k1, k2, hB⟩ | ⟨_, hn, _⟩
    · subst g0 k0
      rcases hA with ⟨c1, c2, fl', k', c3, c4, c5, c6, c7⟩ | ⟨c1, c2, ix', fl', k', c3, c4, c5, c6⟩
      · rcases hB with ⟨d1, d2, gl', q', d3, d4, d5, d6, d7⟩ | ⟨d1, _⟩
        · subst c2 d2
          refine ⟨a', b', _, rfl, rfl, ⟨m, ix, fl', jx, gl', R, cur ++ [rec], k', q', c3, d3, rfl, by rw [h4, List.append_assoc], by omega, by omega, by omega, fun p hp => ?_⟩, g1 o1, k1 o2, g2.trans r1, k2.trans r2, by rw [List.length_append, hc]; rfl⟩
          by_cases e : p = m
          · subst e; rw [c3.op.by_, d3.op.by_]
          · rw [c7 p (by omega), d7 p (by omega)]; exact h8 p hp
        · rw [← he] at d1; exact absurd d1 c1
      · rcases hB with ⟨d1, _⟩ | ⟨d1, d2, jx', gl', q', d3, d4, d5, d6⟩
        · rw [← he] at d1; exact absurd c1 d1
        · subst c2 d2
          have htold : toldB (m + 1) (upd R m cur) = toldB m R ++ cur := by
            rw [toldB_succ, toldB_congr (R' := R) (fun p hp => by unfold upd; rw [if_neg (by omega)])]
            unfold upd; rw [if_pos rfl]
          refine ⟨a', b', _, rfl, rfl, ⟨m + 1, ix', fl', jx', gl', _, [rec], k', q', c3, d3, rfl, by rw [h4, htold], by omega, by omega, by omega, fun p hp => ?_⟩, g1 o1, k1 o2, g2.trans r1, k2.trans r2, by rw [List.length_append, hc]; rfl⟩
          by_cases e : p = m + 1
          · subst e; rw [c3.op.by_, d3.op.by_]
          · rw [c6 p (by omega), d6 p (by omega)]; exact h8 p (by omega)
    · exact absurd o2 hn
  · exact absurd o1 hn
theorem PS.start (lim : Nat) (hl1 : 1 ≤ lim) (hl2 : lim ≤ 900) : ∃ a', wNewR (A.new 4194304) 3 lim = (0, a') ∧ PS a' a' 0 3 [] := by
  obtain ⟨s0, s1, s2, ix, fl, s3, s4, s5⟩ := KI.start 4194304 3 (by omega) (by omega)
  refine ⟨(wBegin (A.new 4194304) 3).2, ?_, ⟨0, ix, fl, ix, fl, _, [], 0, 0, s3, s3, rfl, rfl, Nat.le_of_eq s4, Nat.le_of_eq s4, by omega, fun _ _ => rfl⟩, s1, s1, s2, s2, rfl⟩
  unfold wNewR
  rw [if_neg (by omega)]
  exact Prod.ext s0 rfl
theorem listE_on {a : A} (h : On a) : a.listE = 0 := by unfold A.listE; rw [h.1]; rfl
/-- At the end: the files' names; synced, the files' bytes; behind a crash all is told. -/
theorem PS.last {a b : A} {i num : Nat} {T : List Rec} (h : PS a b i num T) (hi : i ≤ 40) (hok : a.Ok) :
    ∃ (N : List Bs) (a' : A), a.list = N ∧ b.list = N ∧ a.listE = 0 ∧ b.listE = 0 ∧ N.length < 300 ∧ a.sync (wnm num) = (0, a') ∧ a'.top < 300 ∧
      (∀ s, s ∈ N → ∃ l, l.length ≤ 1048576 ∧ (∀ x ∈ l, x < 256) ∧ a'.read s 0 1048576 = l ∧ a'.readE s 0 1048576 = 0 ∧ b.read s 0 1048576 = l ∧ b.readE s 0 1048576 = 0) ∧
      (a'.crash []).listE = 0 ∧ wRecs (a'.crash []) (wNums (a'.crash []).list) 0 = T := by
  obtain ⟨⟨m, ix, fl, jx, gl, R, cur, k, q, h1, h2, h3, h4, h5, h6, h7, h8⟩, o1, o2, r1, r2, hc⟩ := h
  subst h3
  have hl : ∀ {c : A} {kx : Nat → Nat} {hl : Nat → Fil}, On c → WD c 3 (m + 1) kx hl → c.list = (List.range (m + 1)).map fun p => wnm (3 + p) := fun {c kx hl} ho hw => by
    unfold A.list
    rw [if_neg (by rw [ho.1]; simp), hw.now]
    unfold wDir
    rw [List.map_map]; rfl
  rcases h1.sync with ⟨g0, g1, g2, g3⟩ | ⟨_, hn, _⟩
  · have hbd : ∀ p, p < m + 1 → (fl p).1.length ≤ 1048576 := fun p hp => by have := tot_one (fl := fl) hp; omega
    have hfl : ∀ p, (upd fl m ((fl m).1, (fl m).1.length) p).1 = (fl p).1 := fun p => by unfold upd; by_cases e : p = m <;> simp [e]
    have hon := g1 o1
    refine ⟨_, (a.sync (wnm (3 + m))).2, hl o1 h1.wd, hl o2 h2.wd, listE_on o1, listE_on o2, by simp; omega, Prod.ext g0 rfl, by rw [sync_top]; have := h1.top; omega, fun s hs => ?_, listE_on (crash_on _ _).1, ?_⟩
    · obtain ⟨p, hp, rfl⟩ := List.mem_map.1 hs
      have hp := List.mem_range.1 hp
      obtain ⟨e1, e2⟩ := g3.wd.readAt hon.1 hp (by rw [hfl]; exact hbd p hp)
      obtain ⟨e3, e4⟩ := h2.wd.readAt o2.1 hp (by rw [← h8 p hp]; exact hbd p hp)
      refine ⟨(fl p).1, hbd p hp, ?_, by rw [e2, hfl], e1, by rw [e4, h8 p hp], e3⟩
      have := (read_bytes hok (wnm (3 + p)) 0 1048576).1
      rw [(h1.wd.readAt o1.1 hp (hbd p hp)).2] at this
      exact this
    · have hK := g3.crash_full []
      have hon2 := (crash_on (a.sync (wnm (3 + m))).2 []).1
      rw [hK.wd.recs_all hon2.1 (fun p hp => by rw [hfl]; exact hbd p hp) (by omega), hK.told, h4]
  · exact absurd o1 hn
end Go.Proofs.YtadnecgcoceklaaGreatDoor

/-
  What WalSplits does, plainly: the same records in two logs, the second one in a single file.
-/
namespace Go.Proofs.YtadnecgcoceklaaGreatDoor
open Go.RowKit FR.Frm

theorem wDropL_top : ∀ (l : List Nat) (a : A) (b : Int) (k : Nat), (wDropL a l b k).2.1.top ≤ a.top + l.length
  | [], a, b, k => Nat.le_refl _
  | n :: l, a, b, k => by
    unfold wDropL
    split
    · exact Nat.le_add_right _ _
    · have h1 := remove_top a (wnm n)
      split
      · have h2 := wDropL_top l (a.remove (wnm n)).2 b (k + 1)
        rw [List.length_cons]; omega
      · show (a.remove (wnm n)).2.top ≤ _
        rw [List.length_cons]; omega
theorem nums_top (a : A) : (wNums a.list).length ≤ a.top := by
  have h1 : (wNums a.list).length ≤ a.list.length := List.length_filterMap_le _ _
  have h2 : a.list.length ≤ a.now.length := by
    unfold A.list; split
    · exact Nat.zero_le _
    · rw [List.length_map]; exact Nat.le_refl _
  have : a.now.length ≤ a.top := Nat.le_max_left _ _
  omega
theorem wDrop_top (a : A) (b : Int) : (wDrop a b).2.1.top ≤ 2 * a.top := by
  have h1 := wDropL_top (wNums a.list) a b 0
  have h2 := nums_top a
  have h3 := syncDir_top (wDropL a (wNums a.list) b 0).2.1
  unfold wDrop
  split
  · split
    · split
      · show (wDropL a (wNums a.list) b 0).2.1.top ≤ _; omega
      · split
        · show (wDropL a (wNums a.list) b 0).2.1.syncDir.2.top ≤ _; omega
        · show (wDropL a (wNums a.list) b 0).2.1.syncDir.2.top ≤ _; omega
    · show (wDropL a (wNums a.list) b 0).2.1.top ≤ _; omega
  · show a.top ≤ _; omega
structure QS (a b : A) (i num : Nat) (T : List Rec) : Prop where
  ex : ∃ m ix fl jx gl R R2 cur k q, KI a 1 m ix fl R cur k ∧ KI b 7 0 jx gl R2 T q ∧ num = 1 + m ∧ T = toldB m R ++ cur ∧ tot (m + 1) fl ≤ 1828 * i ∧ tot 1 gl ≤ 1828 * i ∧ m ≤ i
  on1 : On a
  on2 : On b
  r1 : a.room = 4194304
  r2 : b.room = 4194304
  cnt : T.length = i
theorem QS.top {a b : A} {i num : Nat} {T : List Rec} (h : QS a b i num T) (hi : i ≤ 40) : a.top < 300 ∧ b.top < 300 ∧ 1 ≤ num ∧ num ≤ 1 + i := by
  obtain ⟨m, ix, fl, jx, gl, R, R2, cur, k, q, h1, h2, h3, h4, h5, h6, h7⟩ := h.ex
  have := h1.top; have := h2.top
  omega
theorem QS.app {a b : A} {i num : Nat} {T : List Rec} (h : QS a b i num T) (hi : i < 40) {rec : Rec} (hb : ∀ x ∈ rec, x < 256) (hl : rec.length ≤ 900) (lim : Nat) (s1 s2 : Bool) :
    ∃ a' b' num', wAppend a num lim rec s1 = (0, a', num') ∧ wAppend b 7 1048576 rec s2 = (0, b', 7) ∧ QS a' b' (i + 1) num' (T ++ [rec]) := by
  obtain ⟨⟨m, ix, fl, jx, gl, R, R2, cur, k, q, h1, h2, h3, h4, h5, h6, h7⟩, o1, o2, r1, r2, hc⟩ := h
  subst h3
  have hA := h1.app (t := 1828 * i) hb hl (by omega) (by omega) (by omega) h5 (by omega) lim s1
  have hB := h2.app (t := 1828 * i) hb hl (by omega) (by omega) (by omega) h6 (by omega) 1048576 s2
  rw [show 7 + 0 = 7 from rfl] at hB
  obtain ⟨r, hr⟩ : ∃ r, wAppend a (1 + m) lim rec s1 = r := ⟨_, rfl⟩
  obtain ⟨u, hu⟩ : ∃ u, wAppend b 7 1048576 rec s2 = u := ⟨_, rfl⟩
  rw [hr] at hA ⊢
  rw [hu] at hB ⊢
  obtain ⟨z, a', n1⟩ := r
  obtain ⟨y, b', n2⟩ := u
  dsimp only at hA hB
  have hg := tot_one (fl := gl) (n := 1) (p := 0) (by omega)
  rcases hB with ⟨k0, k1, k2, hB⟩ | ⟨_, hn, _⟩
  · rcases hB with ⟨d1, d2, gl', q', d3, d4, d5, d6, d7⟩ | ⟨d1, _⟩
    · subst k0 d2
      rcases hA with ⟨g0, g1, g2, hA⟩ | ⟨_, hn, _⟩
      · subst g0
        have hcn : (T ++ [rec]).length = i + 1 := by rw [List.length_append, hc]; rfl
        rcases hA with ⟨c1, c2, fl', k', c3, c4, c5, c6, c7⟩ | ⟨c1, c2, ix', fl', k', c3, c4, c5, c6⟩
        · subst c2
          exact ⟨a', b', _, rfl, rfl, ⟨m, ix, fl', jx, gl', R, R2, cur ++ [rec], k', q', c3, d3, rfl, by rw [h4, List.append_assoc], by omega, Nat.le_trans d6 (by omega), by omega⟩, g1 o1, k1 o2, g2.trans r1, k2.trans r2, hcn⟩
        · subst c2
          have htold : toldB (m + 1) (upd R m cur) = toldB m R ++ cur := by
            rw [toldB_succ, toldB_congr (R' := R) (fun p hp => by unfold upd; rw [if_neg (by omega)])]
            unfold upd; rw [if_pos rfl]
          exact ⟨a', b', _, rfl, rfl, ⟨m + 1, ix', fl', jx, gl', _, R2, [rec], k', q', c3, d3, rfl, by rw [h4, htold], by omega, Nat.le_trans d6 (by omega), by omega⟩, g1 o1, k1 o2, g2.trans r1, k2.trans r2, hcn⟩
      · exact absurd o1 hn
    · omega
  · exact absurd o2 hn
theorem QS.start (lim : Nat) (hl1 : 1 ≤ lim) (hl2 : lim ≤ 900) : ∃ a' b', wNewR (A.new 4194304) 1 lim = (0, a') ∧ wNewR (A.new 4194304) 7 1048576 = (0, b') ∧ QS a' b' 0 1 [] := by
  obtain ⟨s0, s1, s2, ix, fl, s3, s4, s5⟩ := KI.start 4194304 1 (by omega) (by omega)
  obtain ⟨t0, t1, t2, jx, gl, t3, t4, t5⟩ := KI.start 4194304 7 (by omega) (by omega)
  refine ⟨(wBegin (A.new 4194304) 1).2, (wBegin (A.new 4194304) 7).2, ?_, ?_, ⟨0, ix, fl, jx, gl, _, _, [], 0, 0, s3, t3, rfl, rfl, Nat.le_of_eq s4, Nat.le_of_eq t4, by omega⟩, s1, t1, s2, t2, rfl⟩
  · unfold wNewR
    rw [if_neg (by omega)]
    exact Prod.ext s0 rfl
  · unfold wNewR
    rw [if_neg (by omega)]
    exact Prod.ext t0 rfl
theorem filter_from (n bl : Nat) (h1 : 1 ≤ bl) (h2 : bl ≤ n) : (List.range n).filter (fun p => decide ((bl : Int) ≤ ((1 + p : Nat) : Int))) = (List.range (n - (bl - 1))).map (fun p => p + (bl - 1)) := by
  have e : n = (bl - 1) + (n - (bl - 1)) := by omega
  generalize n - (bl - 1) = r at e ⊢
  subst e
  rw [List.range_add, List.filter_append]
  have ha : (List.range (bl - 1)).filter (fun p => decide ((bl : Int) ≤ ((1 + p : Nat) : Int))) = [] := by
    rw [List.filter_eq_nil_iff]
    intro p hp
    have := List.mem_range.1 hp
    simp; omega
  have hb : ((List.range r).map (fun x => bl - 1 + x)).filter (fun p => decide ((bl : Int) ≤ ((1 + p : Nat) : Int))) = (List.range r).map (fun x => bl - 1 + x) := by
    rw [List.filter_eq_self]
    intro p hp
    obtain ⟨q, hq, rfl⟩ := List.mem_map.1 hp
    simp; omega
  rw [ha, hb, List.nil_append]
  exact List.map_congr_left fun p _ => by omega
/-- At the end. -/
theorem QS.last {a b : A} {i num : Nat} {T : List Rec} (h : QS a b i num T) (hi : i ≤ 40) (bl : Nat) (hb1 : 1 ≤ bl) (hb2 : bl ≤ num) :
    a.listE = 0 ∧ b.listE = 0 ∧ wRecs a (wNums a.list) 1 = T ∧ wRecs b (wNums b.list) 0 = T ∧
      ∃ (C : List Rec) (a' : A), wRecs a (wNums a.list) (bl : Int) = C ∧ wDrop a (bl : Int) = (0, a', bl - 1) ∧ a'.listE = 0 ∧ wRecs a' (wNums a'.list) 0 = C ∧ C.length ≤ T.length ∧ T.drop (T.length - C.length) = C ∧ a'.top < 1000 := by
  have htop := (h.top hi).1
  obtain ⟨⟨m, ix, fl, jx, gl, R, R2, cur, k, q, h1, h2, h3, h4, h5, h6, h7⟩, o1, o2, r1, r2, hc⟩ := h
  subst h3
  have hbd : ∀ p, p < m + 1 → (fl p).1.length ≤ 1048576 := fun p hp => by have := tot_one (fl := fl) hp; omega
  have hbg : ∀ p, p < 1 → (gl p).1.length ≤ 1048576 := fun p hp => by have := tot_one (fl := gl) hp; omega
  have hall : ((List.range (m + 1)).flatMap fun p => recsOf (fl p).1) = T := by rw [h1.told, h4]
  obtain ⟨a', d1, d2, d3⟩ := h1.wd.drop o1 (bl := bl) (by omega) (by omega)
  have hsp : T = ((List.range (bl - 1)).flatMap fun p => recsOf (fl p).1) ++ ((List.range (m + 1 - (bl - 1))).flatMap fun p => recsOf (fl (p + (bl - 1))).1) := by
    rw [← hall]
    conv => lhs; rw [show m + 1 = (bl - 1) + (m + 1 - (bl - 1)) by omega, List.range_add, List.flatMap_append, List.flatMap_map]
    congr 1
    exact flatMap_congr' fun p _ => by rw [Nat.add_comm]
  have hC : wRecs a (wNums a.list) (bl : Int) = (List.range (m + 1 - (bl - 1))).flatMap fun p => recsOf (fl (p + (bl - 1))).1 := by
    rw [h1.wd.recs o1.1 hbd, filter_from (m + 1) bl hb1 (by omega), List.flatMap_map]
  have hn : 1 + (m + 1) - bl = m + 1 - (bl - 1) := by omega
  rw [hn] at d3
  have ht' : a'.top < 1000 := by
    have := wDrop_top a (bl : Int)
    rw [d1] at this
    dsimp only at this
    omega
  refine ⟨listE_on o1, listE_on o2, by rw [h1.wd.recs_all o1.1 hbd (by omega)]; exact hall, ?_, _, a', hC, d1, listE_on d2, ?_, ?_, ?_, ht'⟩
  · rw [h2.wd.recs_all o2.1 hbg (by omega), h2.told]; rfl
  · rw [d3.recs_all d2.1 (fun p hp => hbd _ (by omega)) (by omega)]
  · rw [hsp, List.length_append]; omega
  · conv => lhs; rw [hsp, List.length_append, Nat.add_sub_cancel]
    rw [List.drop_left]
end Go.Proofs.YtadnecgcoceklaaGreatDoor

