/-
  What the calls keep: bounds, and that names tell files that are there.
-/
import Derived.Test.YtadnecgcoceklaaGreatDoorFsFsW4
namespace Go.Proofs.YtadnecgcoceklaaGreatDoor
open Go.RowKit Go.Maps

theorem mem_ins {x p : Bs × Nat} : ∀ {d : Dir}, p ∈ Dir.ins x d ↔ p = x ∨ p ∈ d
  | [] => by simp [Dir.ins]
  | y :: r => by
    unfold Dir.ins
    split
    · simp
    · rw [List.mem_cons, mem_ins (d := r), List.mem_cons]; constructor <;> (intro h; rcases h with h | h | h <;> simp [h])
theorem mem_del {p : Bs × Nat} {d : Dir} {k : Bs} : p ∈ Dir.del d k ↔ p ∈ d ∧ p.1 ≠ k := by simp [Dir.del]
theorem mem_put {p : Bs × Nat} {d : Dir} {k : Bs} {i : Nat} : p ∈ Dir.put d k i ↔ p = (k, i) ∨ (p ∈ d ∧ p.1 ≠ k) := by
  unfold Dir.put; rw [mem_ins, mem_del]
theorem look_mem {d : Dir} {k : Bs} {i : Nat} (h : Dir.look d k = some i) : (k, i) ∈ d := by
  unfold Dir.look at h
  rw [Option.map_eq_some_iff] at h
  obtain ⟨p, hp, rfl⟩ := h
  have h1 := List.find?_some hp
  have h2 := List.mem_of_find?_eq_some hp
  have : p.1 = k := by simpa using h1
  rw [← this]; exact h2
theorem on_ok {c : Ch} {d : Dir} {n : Nat} (hc : c.ok n) (hd : ∀ p ∈ d, p.1.length ≤ 24 ∧ p.2 < n) : ∀ p ∈ c.on d, p.1.length ≤ 24 ∧ p.2 < n := by
  intro p hp
  cases c with
  | create s i =>
    rcases mem_put.1 hp with rfl | h
    · exact hc
    · exact hd p h.1
  | remove s => exact hd p (mem_del.1 hp).1
theorem ok_mono {c : Ch} {n m : Nat} (h : c.ok n) (hm : n ≤ m) : c.ok m := by
  cases c with
  | create s i => exact ⟨h.1, Nat.lt_of_lt_of_le h.2 hm⟩
  | remove s => exact h
theorem isNm_short24 {s : Bs} (h : isNm s = true) : s.length ≤ 24 := by
  unfold isNm at h; simp at h; exact h.1.2
section
variable {a : A}
theorem A.Ok.spent (h : a.Ok) : a.spent.Ok := by
  unfold A.spent
  split
  · exact h
  · split
    · exact h
    · split
      · exact ⟨h.room, h.left, h.fil, h.now, h.last, h.wait⟩
      · exact ⟨h.room, by have := h.left; show a.left - 1 ≤ _; omega, h.fil, h.now, h.last, h.wait⟩
theorem spent_eq (a : A) : a.spent.room = a.room ∧ a.spent.now = a.now ∧ a.spent.last = a.last ∧ a.spent.wait = a.wait ∧ a.spent.files = a.files ∧ a.spent.armed = a.armed := by
  unfold A.spent
  split
  · simp
  · split
    · simp
    · split <;> simp
theorem A.Ok.do (h : a.Ok) {c : Ch} (hc : c.ok a.files.length) : (a.do c).Ok :=
  ⟨h.room, h.left, h.fil, on_ok hc h.now, h.last, fun x hx => by
    rcases List.mem_append.1 hx with hx | hx
    · exact h.wait x hx
    · simp at hx; subst hx; exact hc⟩
theorem A.Ok.newFile (h : a.Ok) : ({ a with files := a.files ++ [([], 0)] } : A).Ok := by
  refine ⟨h.room, h.left, fun f hf => ?_, fun p hp => ?_, fun p hp => ?_, fun c hc => ok_mono (h.wait c hc) (by simp)⟩
  · rcases List.mem_append.1 hf with hf | hf
    · exact h.fil f hf
    · simp at hf; subst hf; simp
  · have := h.now p hp; simp; omega
  · have := h.last p hp; simp; omega
theorem A.Ok.setFile (h : a.Ok) {i : Nat} {f : Fil} (h1 : f.1.length ≤ 1048576) (h2 : f.2 ≤ f.1.length) (h3 : ∀ x ∈ f.1, x < 256) : (a.setFile i f).Ok := by
  refine ⟨h.room, h.left, fun x hx => ?_, fun p hp => ?_, fun p hp => ?_, fun c hc => ?_⟩
  · rcases List.mem_or_eq_of_mem_set hx with hx | rfl
    · exact h.fil x hx
    · exact ⟨h1, h2, h3⟩
  · have := h.now p hp; simpa [A.setFile] using this
  · have := h.last p hp; simpa [A.setFile] using this
  · have := h.wait c hc; simpa [A.setFile] using this
theorem A.Ok.file (h : a.Ok) (i : Nat) : (a.file i).1.length ≤ 1048576 ∧ (a.file i).2 ≤ (a.file i).1.length ∧ ∀ x ∈ (a.file i).1, x < 256 := by
  unfold A.file
  rw [List.getD_eq_getElem?_getD]
  cases e : a.files[i]? with
  | none => simp
  | some f => exact h.fil f (List.mem_of_getElem? e)
theorem A.Ok.idx (h : a.Ok) {s : Bs} (hf : a.findE s = 0) : isNm s = true ∧ Dir.look a.now s = some (a.idx s) ∧ a.idx s < a.files.length := by
  unfold A.findE at hf
  split at hf
  · omega
  · rename_i h1
    cases e : Dir.look a.now s with
    | none => rw [e] at hf; simp at hf
    | some i =>
      have hi : a.idx s = i := by unfold A.idx; rw [e]; rfl
      exact ⟨by simpa using h1, by rw [hi], by rw [hi]; exact (h.now _ (look_mem e)).2⟩
theorem A.Ok.lastAll (h : a.Ok) {cs : List Ch} (hc : ∀ c ∈ cs, c.ok a.files.length) : ∀ p ∈ cs.foldl (fun d c => c.on d) a.last, p.1.length ≤ 24 ∧ p.2 < a.files.length := by
  have key : ∀ (cs : List Ch) (d : Dir), (∀ c ∈ cs, c.ok a.files.length) → (∀ p ∈ d, p.1.length ≤ 24 ∧ p.2 < a.files.length) → ∀ p ∈ cs.foldl (fun d c => c.on d) d, p.1.length ≤ 24 ∧ p.2 < a.files.length := by
    intro cs
    induction cs with
    | nil => intro d _ hd; exact hd
    | cons c r ih => intro d hc hd; exact ih (c.on d) (fun c' h' => hc c' (by simp [h'])) (on_ok (hc c (by simp)) hd)
  exact key cs a.last hc h.last
theorem A.Ok.cutN (h : a.Ok) (p : Nat) : (a.cutN p).Ok := by
  have h1 := h.lastAll (cs := a.wait.take (p % (a.wait.length + 1))) (fun c hc => h.wait c (List.mem_of_mem_take hc))
  exact ⟨h.room, h.left, h.fil, h1, h1, fun c hc => by cases hc⟩
end
end Go.Proofs.YtadnecgcoceklaaGreatDoor

