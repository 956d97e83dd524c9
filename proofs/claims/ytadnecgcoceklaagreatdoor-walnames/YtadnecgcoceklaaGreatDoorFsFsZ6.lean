/-
  Files that were synced, and whose names were (the law FsKeeps): what stays, whatever is done beside.
-/
import Derived.Test.YtadnecgcoceklaaGreatDoorFsFsZ2
namespace Go.Proofs.YtadnecgcoceklaaGreatDoor
open Go.RowKit Go.Maps

theorem look_del_ne {d : Dir} {k k' : Bs} (h : k ≠ k') : Dir.look (Dir.del d k) k' = Dir.look d k' := by
  unfold Dir.look Dir.del
  congr 1
  induction d with
  | nil => rfl
  | cons y r ih =>
    rw [List.filter_cons]
    by_cases hy : y.1 = k
    · have h1 : (!(y.1 == k)) = false := by simp [hy]
      have h2 : (y.1 == k') = false := by rw [beq_eq_false_iff_ne, hy]; exact h
      rw [h1, List.find?_cons, h2]; simpa using ih
    · have h1 : (!(y.1 == k)) = true := by simp [hy]
      rw [h1]
      simp only [if_true, List.find?_cons]
      split
      · rfl
      · exact ih
theorem look_ins_ne {d : Dir} {k k' : Bs} {i : Nat} (h : k ≠ k') : Dir.look (Dir.ins (k, i) d) k' = Dir.look d k' := by
  unfold Dir.look
  congr 1
  have h0 : (k == k') = false := by rw [beq_eq_false_iff_ne]; exact h
  induction d with
  | nil => simp [Dir.ins, h0]
  | cons y r ih =>
    unfold Dir.ins
    split
    · rw [List.find?_cons]; simp only [h0]
    · rw [List.find?_cons, List.find?_cons]
      split
      · rfl
      · exact ih
theorem look_put_ne {d : Dir} {k k' : Bs} {i : Nat} (h : k ≠ k') : Dir.look (Dir.put d k i) k' = Dir.look d k' := by
  unfold Dir.put; rw [look_ins_ne h, look_del_ne h]
/-- A change that leaves a name alone. -/
def Ch.off (c : Ch) (s : Bs) : Prop :=
  match c with
  | .create n _ => n ≠ s
  | .remove n => n ≠ s
theorem Ch.look_off {c : Ch} {d : Dir} {s : Bs} (h : c.off s) : Dir.look (c.on d) s = Dir.look d s := by
  cases c with
  | create n i => exact look_put_ne h
  | remove n => exact look_del_ne h
/-- The first bytes of a file last. -/
def Safe (f : Fil) (s : List Nat) : Prop := s.length ≤ f.2 ∧ f.2 ≤ f.1.length ∧ f.1.take s.length = s
theorem Safe.cut {f : Fil} {s : List Nat} (h : Safe f s) (p : Nat) : Safe (cutF f p) s := by
  obtain ⟨h1, h2, h3⟩ := h
  have hm : p % (f.1.length - f.2 + 1) ≤ f.1.length - f.2 := by have := Nat.mod_lt p (show 0 < f.1.length - f.2 + 1 by omega); omega
  have hl : (f.1.take (f.2 + p % (f.1.length - f.2 + 1))).length = f.2 + p % (f.1.length - f.2 + 1) := by rw [List.length_take]; omega
  have hp : (f.1.take (f.2 + p % (f.1.length - f.2 + 1))).take s.length = s := by rw [List.take_take, Nat.min_eq_left (by omega)]; exact h3
  unfold cutF Safe
  dsimp only
  split
  · refine ⟨by omega, by rw [List.length_set, hl]; exact Nat.le_refl _, ?_⟩
    rw [List.take_set_of_le (by omega)]; exact hp
  · exact ⟨by omega, by rw [hl]; exact Nat.le_refl _, hp⟩
theorem Safe.app {f : Fil} {s : List Nat} (h : Safe f s) (l : List Nat) : Safe (f.1 ++ l, f.2) s := by
  obtain ⟨h1, h2, h3⟩ := h
  refine ⟨h1, by dsimp only; rw [List.length_append]; omega, ?_⟩
  dsimp only
  rw [List.take_append_of_le_length (by omega)]; exact h3
theorem Safe.sync {f : Fil} {s : List Nat} (h : Safe f s) : Safe (f.1, f.1.length) s := ⟨by have := h.1; have := h.2.1; dsimp only; omega, Nat.le_refl _, h.2.2⟩
theorem safe_cutAll {n : Nat} {sure : Nat → List Nat} : ∀ (d : Dir) (fs : List Fil) (zs : List Int), (∀ k, k < n → Safe (fs.getD k ([], 0)) (sure k)) → ∀ k, k < n → Safe ((cutAll d fs zs).getD k ([], 0)) (sure k)
  | [], _, _, h => h
  | p :: d, fs, zs, h => by
    unfold cutAll
    split
    · rename_i hlt
      refine safe_cutAll d _ _ (fun k hk => ?_)
      have hp : p.2 < fs.length := by
        rcases Nat.lt_or_ge p.2 fs.length with h | h
        · exact h
        · rw [List.getD_eq_getElem?_getD, List.getElem?_eq_none h] at hlt; simp at hlt
      by_cases e : p.2 = k
      · subst e; rw [getD_set_eq hp]; exact (h _ hk).cut _
      · rw [getD_set_ne e]; exact h k hk
    · exact safe_cutAll d fs zs h
/-- The n first names and files stay. -/
structure KInv (kp : Nat → Bs) (a : A) (n : Nat) (sure : Nat → List Nat) : Prop where
  now : ∀ k, k < n → Dir.look a.now (kp k) = some k
  last : ∀ k, k < n → Dir.look a.last (kp k) = some k
  wait : ∀ c ∈ a.wait, ∀ k, k < n → c.off (kp k)
  file : ∀ k, k < n → Safe (a.file k) (sure k)
  len : n ≤ a.files.length
section
variable {kp : Nat → Bs} {a : A} {n : Nat} {sure : Nat → List Nat}
theorem KInv.same (h : KInv kp a n sure) {b : A} (e1 : b.now = a.now) (e2 : b.last = a.last) (e3 : b.wait = a.wait) (e4 : b.files = a.files) : KInv kp b n sure :=
  ⟨by rw [e1]; exact h.now, by rw [e2]; exact h.last, by rw [e3]; exact h.wait, fun k hk => by unfold A.file; rw [e4]; exact h.file k hk, by rw [e4]; exact h.len⟩
theorem KInv.spent (h : KInv kp a n sure) : KInv kp a.spent n sure := by
  obtain ⟨_, e2, e3, e4, e5, _⟩ := spent_eq a
  exact h.same e2 e3 e4 e5
theorem KInv.try (h : KInv kp a n sure) {k : A → A} (hk : ∀ b, KInv kp b n sure → KInv kp (k b) n sure) : KInv kp (a.try k).2 n sure := by
  unfold A.try
  split
  · exact hk _ h.spent
  · exact h.spent
theorem KInv.do (h : KInv kp a n sure) {c : Ch} (hc : ∀ k, k < n → c.off (kp k)) : KInv kp (a.do c) n sure :=
  ⟨fun k hk => by show Dir.look (c.on a.now) (kp k) = _; rw [Ch.look_off (hc k hk)]; exact h.now k hk, h.last, fun c' hc' k hk => by
    rcases List.mem_append.1 hc' with h1 | h1
    · exact h.wait c' h1 k hk
    · simp at h1; subst h1; exact hc k hk, h.file, h.len⟩
theorem KInv.newFile (h : KInv kp a n sure) : KInv kp ({ a with files := a.files ++ [([], 0)] } : A) n sure :=
  ⟨h.now, h.last, h.wait, fun k hk => by
    have hl : k < a.files.length := by have := h.len; omega
    show Safe ((a.files ++ [([], 0)]).getD k ([], 0)) _
    rw [List.getD_eq_getElem?_getD, List.getElem?_append_left hl, ← List.getD_eq_getElem?_getD]; exact h.file k hk, by show n ≤ (a.files ++ [([], 0)]).length; rw [List.length_append]; have := h.len; omega⟩
theorem KInv.create (h : KInv kp a n sure) {s : Bs} (hs : ∀ k, k < n → s ≠ kp k) : KInv kp (a.create s).2 n sure := by
  unfold A.create
  split
  · exact h
  · split
    · exact h
    · split
      · exact h
      · exact h.try fun b hb => hb.newFile.do fun k hk => hs k hk
theorem KInv.remove (h : KInv kp a n sure) {s : Bs} (hs : ∀ k, k < n → s ≠ kp k) : KInv kp (a.remove s).2 n sure := by
  unfold A.remove
  split
  · exact h.try fun b hb => hb.do fun k hk => hs k hk
  · exact h
theorem KInv.syncDir (h : KInv kp a n sure) : KInv kp a.syncDir.2 n sure := by
  unfold A.syncDir
  exact h.try fun b hb => ⟨hb.now, hb.now, (fun c hc => by cases hc), hb.file, hb.len⟩
theorem KInv.arm (h : KInv kp a n sure) (z : Int) : KInv kp (a.arm z) n sure := ⟨h.now, h.last, h.wait, h.file, h.len⟩
theorem KInv.setFile (h : KInv kp a n sure) {k : Nat} (hk : k < n) {f : Fil} {s' : List Nat} (hf : Safe f s') : KInv kp (a.setFile k f) n (upd sure k s') := by
  have hl : k < a.files.length := by have := h.len; omega
  refine ⟨h.now, h.last, h.wait, fun j hj => ?_, by show n ≤ (a.files.set k f).length; rw [List.length_set]; exact h.len⟩
  by_cases e : j = k
  · subst e; rw [file_set_eq hl]; unfold upd; rw [if_pos rfl]; exact hf
  · rw [file_set_ne (fun e' => e e'.symm)]; unfold upd; rw [if_neg e]; exact h.file j hj
theorem upd_self (sure : Nat → List Nat) (k : Nat) : upd sure k (sure k) = sure := by funext j; unfold upd; split <;> simp_all
theorem KInv.find (h : KInv kp a n sure) (hn : ∀ k, k < n → isNm (kp k) = true) {k : Nat} (hk : k < n) : a.findE (kp k) = 0 ∧ a.idx (kp k) = k :=
  ⟨findE_ok (hn k hk) (h.now k hk), by unfold A.idx; rw [h.now k hk]; rfl⟩
theorem KInv.append (h : KInv kp a n sure) (hn : ∀ k, k < n → isNm (kp k) = true) {k : Nat} (hk : k < n) (l : List Nat) : KInv kp (a.append (kp k) l).2 n sure := by
  unfold A.append
  split
  · split
    · exact h
    · split
      · exact h
      · refine h.try fun b hb => ?_
        have hi := (hb.find hn hk).2
        rw [hi]
        have := hb.setFile hk ((hb.file k hk).app l)
        rw [upd_self] at this; exact this
  · exact h
theorem KInv.crash (h : KInv kp a n sure) (zs : List Int) : KInv kp (a.crash zs) n sure := by
  obtain ⟨K, hK, e1, e2, e3⟩ := crash_eq a zs
  have hlast : (a.crash zs).last = (a.crash zs).now := rfl
  have hlk : ∀ K, ∀ k, k < n → Dir.look (lastK a K) (kp k) = some k := by
    intro K
    induction K with
    | zero => intro k hk; exact h.last k hk
    | succ K ih =>
      intro k hk
      cases e : a.wait[K]? with
      | none =>
        have : lastK a (K + 1) = lastK a K := by unfold lastK; rw [List.take_add_one, e]; simp
        rw [this]; exact ih k hk
      | some c => rw [lastK_succ e, Ch.look_off (h.wait c (List.mem_of_getElem? e) k hk)]; exact ih k hk
  refine ⟨fun k hk => by rw [e1]; exact hlk K k hk, fun k hk => by rw [hlast, e1]; exact hlk K k hk, (fun c hc => by cases hc), fun k hk => ?_, ?_⟩
  · unfold A.file
    rw [e2]
    exact safe_cutAll _ _ _ h.file k hk
  · rw [e2]
    have key : ∀ (d : Dir) (fs : List Fil) (zs : List Int), (cutAll d fs zs).length = fs.length := by
      intro d
      induction d with
      | nil => intro fs zs; rfl
      | cons p d ih =>
        intro fs zs
        unfold cutAll
        split
        · rw [ih, List.length_set]
        · exact ih fs zs
    rw [key]; exact h.len
/-- Sync of a kept file: it answers OK, and then all its bytes are read and last; or nothing is turned. -/
theorem KInv.sync (h : KInv kp a n sure) (hn : ∀ k, k < n → isNm (kp k) = true) {k : Nat} (hk : k < n) (ho : a.Ok) :
    ((a.sync (kp k)).1 = 0 ∧ ∃ l, (a.sync (kp k)).2.readE (kp k) 0 1048576 = 0 ∧ (a.sync (kp k)).2.read (kp k) 0 1048576 = l ∧ KInv kp (a.sync (kp k)).2 n (upd sure k l)) ∨
    ((a.sync (kp k)).1 = 4 ∧ KInv kp (a.sync (kp k)).2 n sure) := by
  have hf := h.find hn hk
  rw [sync_try hf.1]
  unfold A.try
  rcases spendE_cases a with h0 | h4
  · left
    rw [if_pos h0]
    have hsp := h.spent
    have hi := (hsp.find hn hk).2
    have hoff : a.spent.off = false := by
      unfold A.spendE at h0
      unfold A.spent
      split at h0
      · simp at h0
      · rename_i h1
        rw [if_neg h1]
        split at h0
        · rename_i h2; rw [if_pos h2]; simpa using h1
        · rename_i h2
          rw [if_neg h2]
          split at h0
          · simp at h0
          · rename_i h3; rw [if_neg h3]; simpa using h1
    refine ⟨rfl, (a.spent.file k).1, ?_, ?_, ?_⟩
    all_goals dsimp only
    all_goals rw [hi]
    · have hfs := hsp.setFile hk ((hsp.file k hk).sync)
      have h1 := (hfs.find hn hk)
      exact (readE_ok h1.1 (by omega) hoff).1
    · have hl : k < a.spent.files.length := by have := hsp.len; omega
      have hfs := hsp.setFile hk ((hsp.file k hk).sync)
      have h1 := (hfs.find hn hk)
      rw [(readE_ok h1.1 (by omega) hoff).2, h1.2, file_set_eq hl]
      show ((a.spent.file k).1.drop 0).take 1048576 = _
      rw [List.drop_zero, List.take_of_length_le (ho.spent.file k).1]
    · exact hsp.setFile hk ⟨Nat.le_refl _, Nat.le_refl _, List.take_length⟩
  · right
    rw [if_neg (by rw [h4]; decide)]
    exact ⟨h4, h.spent⟩
/-- What is read of a kept file while the power is on. -/
theorem KInv.read (h : KInv kp a n sure) (hn : ∀ k, k < n → isNm (kp k) = true) {k : Nat} (hk : k < n) (ho : a.off = false) :
    a.readE (kp k) 0 ((sure k).length : Int) = 0 ∧ a.read (kp k) 0 ((sure k).length : Int) = sure k := by
  have hf := h.find hn hk
  have hr := readE_ok (a := a) (s := kp k) (x := 0) (n := ((sure k).length : Int)) hf.1 (by omega) ho
  refine ⟨hr.1, ?_⟩
  rw [hr.2, hf.2]
  show ((a.file k).1.drop 0).take (((sure k).length : Int)).toNat = _
  rw [List.drop_zero, Int.toNat_natCast]
  exact (h.file k hk).2.2
end
end Go.Proofs.YtadnecgcoceklaaGreatDoor

