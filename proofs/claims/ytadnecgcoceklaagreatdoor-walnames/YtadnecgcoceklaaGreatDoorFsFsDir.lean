/-
  Names in a map that lies in memory: looked up, put, taken away, counted.
-/
import Derived.Test.YtadnecgcoceklaaGreatDoorFsFsPure
namespace Go.Proofs.YtadnecgcoceklaaGreatDoor
open Go.RowKit Go.Maps Go.ChangeShapes Go.WideShapes Go.MapKept Go.ChangeMaps

def rdP : Value → Option (DataW Nat × List MemPlace)
  | .pointer (some a) => if a.off = 0 ∧ a.spot = none then some (.held a.block, []) else none
  | .pointer none => some (.nil, [])
  | _ => none
theorem rdP_some (b : Nat) : rdP (.pointer (some ⟨b, 0, none⟩)) = some (.held b, []) := by simp [rdP]
theorem rdP_held {v : Value} {b : Nat} {ps : List MemPlace} (h : rdP v = some (.held b, ps)) : v = .pointer (some ⟨b, 0, none⟩) := by
  unfold rdP at h
  split at h
  · split at h
    · rename_i a hc
      obtain ⟨b', o, s⟩ := a
      simp only [Option.some.injEq, Prod.mk.injEq, DataW.held.injEq] at h
      simp only at hc
      rw [hc.1, hc.2, h.1]
    · cases h
  · simp at h
  · cases h
theorem rdP_nil {v : Value} {ps : List MemPlace} (h : rdP v = some (.nil, ps)) : v = .pointer none := by
  unfold rdP at h
  split at h
  · split at h
    · simp at h
    · cases h
  · rfl
  · cases h

def Dir.dat (blk : Nat → Nat) (d : Dir) : DataW Nat := .map (d.map fun p => (.string p.1, .held (blk p.2)))
def ptrOf (blk : Nat → Nat) : Option Nat → Value
  | some i => .pointer (some ⟨blk i, 0, none⟩)
  | none => .pointer none
theorem dat_del (blk : Nat → Nat) (d : Dir) (k : Bs) : (Dir.del d k).dat blk = (d.dat blk).del (.string k) := by
  unfold Dir.dat Dir.del DataW.del
  simp only [List.filter_map]
  congr 1
theorem dat_ins (blk : Nat → Nat) (k : Bs) (i : Nat) (d : Dir) : (Dir.ins (k, i) d).map (fun p => ((Lit.string p.1, DataW.held (blk p.2)) : Lit × DataW Nat)) = DataW.insert (.string k, .held (blk i)) (d.map fun p => (.string p.1, .held (blk p.2))) := by
  induction d with
  | nil => rfl
  | cons y r ih =>
    by_cases h : bytesBefore k y.1 = true
    · have h1 : Dir.ins (k, i) (y :: r) = (k, i) :: y :: r := if_pos h
      rw [h1]
      exact (if_pos (c := (Lit.string k).before (Lit.string y.1) = true) h).symm
    · have h1 : Dir.ins (k, i) (y :: r) = y :: Dir.ins (k, i) r := if_neg h
      rw [h1, List.map_cons, ih]
      exact (if_neg (c := (Lit.string k).before (Lit.string y.1) = true) h).symm
theorem dat_put (blk : Nat → Nat) (d : Dir) (k : Bs) (i : Nat) : (Dir.put d k i).dat blk = (d.dat blk).put (.string k) (.held (blk i)) := by
  have h := dat_del blk d k
  unfold Dir.put Dir.dat DataW.put
  rw [dat_ins]
  unfold Dir.dat DataW.del at h
  injection h with h
  rw [h]
theorem dat_has (blk : Nat → Nat) (d : Dir) (k : Bs) : Maps.has (d.dat blk) (.string k) = (Dir.look d k).isSome := by
  unfold Dir.dat Dir.look
  rw [Maps.has_eq, List.any_map, Option.isSome_map]
  induction d with
  | nil => rfl
  | cons y r ih =>
    simp only [List.any_cons, List.find?_cons, Function.comp, Lit.sameKey]
    by_cases h : (y.1 == k) = true
    · simp [h]
    · have : (y.1 == k) = false := by simpa using h
      rw [this]; simpa [Function.comp, Lit.sameKey] using ih
theorem dat_at (blk : Nat → Nat) (d : Dir) (k : Bs) : (d.dat blk).atKey (.string k) .nil = (match Dir.look d k with | some i => .held (blk i) | none => .nil) := by
  unfold Dir.dat Dir.look DataW.atKey
  simp only [List.find?_map]
  have : ((fun p : Lit × DataW Nat => p.1.sameKey (.string k)) ∘ fun p : Bs × Nat => (Lit.string p.1, DataW.held (blk p.2))) = fun p : Bs × Nat => p.1 == k := rfl
  rw [this]
  cases d.find? (fun p => p.1 == k) <;> rfl
theorem dat_size (blk : Nat → Nat) (d : Dir) : Maps.size (d.dat blk) = d.length := by unfold Dir.dat; rw [Maps.size_eq, List.length_map]

/-- The names d lie in the map of block b; file i lies in block blk i. -/
def DirAt (w : World) (b : Nat) (blk : Nat → Nat) (d : Dir) : Prop := w.ownsMap Tryz.prog 9 rdP b d.length (d.dat blk)
theorem K9 : Keyed Tryz.prog 9 := string_keyed Tryz.underlying9
theorem und65 : Tryz.prog.underlying 90 = some (.map 9 103) := Tryz.underlying90
theorem zeroP (w : World) : (zeroValue 103).run Tryz.prog w = .ok (.pointer none) w := by kernel_rfl
theorem key9 (s : ByteArray) (h : s.size ≤ maxLen) : keyOf Tryz.prog 9 (.string s) = some (.string s.data.toList) := by
  have hu := Tryz.underlying9
  unfold keyOf
  rw [hu]
  simp [mapKey, hu, h]

theorem ownsMap_tight {w : World} {b n : Nat} {D : DataW Nat} (h : w.ownsMap Tryz.prog 9 rdP b n D) : w.ownsMap Tryz.prog 9 rdP b (Maps.size D) D := by
  obtain ⟨es, clock, hb, F, hs, rfl⟩ := h
  exact ⟨es, clock, hb, F, by rw [Maps.size_eq, length_sorted]; simp, rfl⟩
section
variable {w : World} {b : Nat} {blk : Nat → Nat} {d : Dir}
theorem DirAt.lt (h : DirAt w b blk d) : b < w.heap.size := World.ownsMap.lt h
theorem DirAt.of {n : Nat} (h : w.ownsMap Tryz.prog 9 rdP b n (d.dat blk)) : DirAt w b blk d := by
  have := ownsMap_tight h
  rw [dat_size] at this; exact this
theorem DirAt.keep (h : DirAt w b blk d) {w' : World} (hb : w'.heap[b]? = w.heap[b]?) : DirAt w' b blk d := by
  obtain ⟨es, clock, h1, h2⟩ := h
  exact ⟨es, clock, hb.trans h1, h2⟩
theorem DirAt.congr (h : DirAt w b blk d) {blk' : Nat → Nat} (e : ∀ p ∈ d, blk' p.2 = blk p.2) : DirAt w b blk' d := by
  have : d.dat blk' = d.dat blk := by
    unfold Dir.dat
    congr 1
    exact List.map_congr_left (fun p hp => by rw [e p hp])
  unfold DirAt; rw [this]; exact h
theorem DirAt.look (h : DirAt w b blk d) (s : ByteArray) (hs : s.size ≤ maxLen) :
    (Instr.lookup 90 (.map (some b)) (.string s) true).run Tryz.prog w = .ok (.tuple #[ptrOf blk (Dir.look d s.data.toList), .bool (Dir.look d s.data.toList).isSome]) w := by
  obtain ⟨v, ps, hr, hv⟩ := World.ownsMap.look_ok h K9 und65 (zeroP w) (zd := .nil) (zp := []) rfl (key9 s hs)
  rw [dat_has] at hr
  rw [dat_at] at hv
  rw [hr]
  cases he : Dir.look d s.data.toList with
  | none => rw [he] at hv; rw [rdP_nil hv]; rfl
  | some i => rw [he] at hv; rw [rdP_held hv]; rfl
theorem DirAt.look1 (h : DirAt w b blk d) (s : ByteArray) (hs : s.size ≤ maxLen) :
    (Instr.lookup 90 (.map (some b)) (.string s) false).run Tryz.prog w = .ok (ptrOf blk (Dir.look d s.data.toList)) w := by
  obtain ⟨v, ps, hr, hv⟩ := World.ownsMap.lookup h K9 und65 (zeroP w) (zd := .nil) (zp := []) rfl (key9 s hs)
  rw [dat_at] at hv
  rw [hr]
  cases he : Dir.look d s.data.toList with
  | none => rw [he] at hv; rw [rdP_nil hv]; rfl
  | some i => rw [he] at hv; rw [rdP_held hv]; rfl
theorem DirAt.len (h : DirAt w b blk d) (ty : TypeId) : (Builtin.len_ #[90] ty #[.map (some b)]).run Tryz.prog w = .ok (.int .i64 d.length) w := by
  have := World.ownsMap.len h und65 ty
  rw [dat_size] at this; exact this
theorem DirAt.put (h : DirAt w b blk d) (hn : d.length < maxLen) (s : ByteArray) (hs : s.size ≤ maxLen) (i : Nat) :
    ∃ w', (Instr.mapUpdate 90 (.map (some b)) (.string s) (.pointer (some ⟨blk i, 0, none⟩))).run Tryz.prog w = .ok () w' ∧ DirAt w' b blk (Dir.put d s.data.toList i) ∧ Touch b w w' := by
  obtain ⟨w', h1, h2, h3⟩ := World.ownsMap.store h K9 und65 hn (key9 s hs) (rdP_some (blk i))
  refine ⟨w', h1, ?_, ?_⟩
  · rw [← dat_put] at h2; exact DirAt.of h2
  · obtain ⟨es, clock, es', clock', hb, rfl⟩ := h3
    exact ⟨rfl, rfl, rfl, by simp [setBlock], fun k hk => heap_setBlock_other hb _ hk⟩
theorem DirAt.del (h : DirAt w b blk d) (s : ByteArray) (hs : s.size ≤ maxLen) (ty : TypeId) :
    ∃ w', (Builtin.delete_ #[90, 9] ty #[.map (some b), .string s]).run Tryz.prog w = .ok (.tuple #[]) w' ∧ DirAt w' b blk (Dir.del d s.data.toList) ∧ Touch b w w' := by
  obtain ⟨w', h1, h2, h3⟩ := World.ownsMap.drop h K9 und65 (key9 s hs) ty
  refine ⟨w', h1, ?_, ?_⟩
  · rw [← dat_del] at h2; exact DirAt.of h2
  · obtain ⟨es, clock, es', clock', hb, rfl⟩ := h3
    exact ⟨rfl, rfl, rfl, by simp [setBlock], fun k hk => heap_setBlock_other hb _ hk⟩
theorem DirAt.new (w : World) (blk : Nat → Nat) : DirAt (w.alloc (.map #[] 0)) w.heap.size blk [] := World.ownsMap_made w Tryz.prog 9 rdP
/-- The names rise. -/
theorem DirAt.rises (h : DirAt w b blk d) : d.Pairwise fun p q => bytesBefore p.1 q.1 = true := by
  obtain ⟨es, e, hp, _⟩ := World.ownsMap.canon h K9
  unfold Dir.dat at e
  injection e with e
  rw [← e, List.pairwise_map] at hp
  exact hp
end
end Go.Proofs.YtadnecgcoceklaaGreatDoor

