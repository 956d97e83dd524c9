/-
  RegionParts: plain parts, and what is known of the pool on its way.
-/
import Derived.Test.YtaaalfimlpeddaaRegFert
import Derived.Laws.IdiomStrings
namespace Go.Proofs.Ytaaalfimlpeddaa.regionParts
open Go.RowKit

def natsOf (t : ByteArray) : List Nat := t.data.toList.map UInt8.toNat
theorem natsOf_length (t : ByteArray) : (natsOf t).length = t.size := by simp [natsOf]
theorem natsOf_byte (t : ByteArray) : ∀ x, x ∈ natsOf t → x < 256 := by
  intro x hx; simp only [natsOf, List.mem_map] at hx; obtain ⟨c, _, rfl⟩ := hx; exact c.toNat_lt
def textOf (bs : List Nat) : ByteArray := ⟨(bs.map fun x => UInt8.ofNat x).toArray⟩
theorem text_nats (s : ByteArray) : textOf (natsOf s) = s := by
  apply ByteArray.ext
  have h : ((fun c => UInt8.ofNat c) ∘ UInt8.toNat) = id := by funext x; simp
  simp [textOf, natsOf, h]
theorem reads_fresh {w w' : World} {v : Value} {bs : List Nat} (h : FreshRow 5 w v (u8s bs) w') : ReadsB w' v bs := by
  obtain ⟨g, cap, hv, _, _, hown, _⟩ := h
  have hl : (u8s bs).length = bs.length := by simp [u8s]
  rw [hl] at hv
  exact ⟨some ⟨g, 0, none⟩, cap, hv, fun _ => ⟨_, rfl, World.ownsRow.cells hown (g := g) (by rw [hv]; rfl)⟩⟩
theorem conv_reads {W : World} {v : Value} {bs : List Nat} (h : ReadsB W v bs) (hb : ∀ x, x ∈ bs → x < 256) (h1 : 1 ≤ bs.length) : (convert 49 9 v).run Try.prog W = .ok (.string (textOf bs)) W := by
  obtain ⟨sp, c, hv, hs⟩ := h
  obtain ⟨ad, rfl, hc⟩ := hs (by omega)
  have := run_convert_bytes_back (P := Try.prog) W 49 9 5 ad c (bs.map fun x => UInt8.ofNat x) Try.underlying49 Try.underlying5 Try.underlying9 (fun j hj => by
    have hj' : j < bs.length := by simpa using hj
    have := hc j (.int .u8 bs[j]) (by simp [u8s, hj'])
    rw [this]
    have hlt := hb bs[j] (by simp)
    simp [UInt8.toNat_ofNat', Nat.mod_eq_of_lt hlt])
  rw [List.length_map] at this
  rw [hv]; exact this
/-- A text's bytes, laid anew. -/
theorem conv_new (wr : World) (s : ByteArray) :
    ∃ v w2, (convert 9 49 (.string s)).run Try.prog wr = .ok v w2 ∧ ReadsB w2 v (natsOf s) ∧ Grew wr w2 := by
  have h := run_bytes_of_string (P := Try.prog) wr 9 49 5 s Try.underlying9 Try.underlying49 Try.underlying5
  refine ⟨_, _, h, ⟨some ⟨wr.heap.size, 0, none⟩, _, by rw [natsOf_length], fun _ => ⟨_, rfl, fun j u hu => ?_⟩⟩, ((Below.refl _ wr).drew).alloc (by simp) _⟩
  simp only [u8s, List.getElem?_map, Option.map_eq_some_iff] at hu
  obtain ⟨x, hx, rfl⟩ := hu
  obtain ⟨hj, rfl⟩ := List.getElem?_eq_some_iff.1 hx
  rw [natsOf_length] at hj
  have hadd : (⟨wr.heap.size, 0, none⟩ : Addr).add j = ⟨wr.heap.size, j, none⟩ := by unfold Addr.add; split <;> simp_all
  have e : (wr.drew.alloc (.cells (bytesRow s (grownCap wr s.size 0 5)) 5 ((bytesRow s (grownCap wr s.size 0 5)).size, (bytesRow s (grownCap wr s.size 0 5)).size + 1))).heap[wr.heap.size]? = some (.cells (bytesRow s (grownCap wr s.size 0 5)) 5 ((bytesRow s (grownCap wr s.size 0 5)).size, (bytesRow s (grownCap wr s.size 0 5)).size + 1)) := by
    show (wr.heap.push _)[wr.heap.size]? = _
    simp
  rw [hadd, cell_of_row _ _ _ _ _ _ e]
  unfold bytesRow
  have hd : j < s.data.size := hj
  rw [Array.getElem?_append_left (by simpa using hd)]
  simp [natsOf]
  exact ⟨s.data[j], Array.getElem?_eq_getElem hd, rfl⟩
theorem take_nats (t : ByteArray) (n : Nat) : natsOf (t.extract 0 n) = (natsOf t).take n := by
  unfold natsOf
  rw [ByteArray.data_extract, Array.toList_extract, List.extract_eq_take_drop, List.drop_zero, ← List.map_take]; simp
theorem drop_nats (t : ByteArray) (n : Nat) : natsOf (t.extract n t.size) = (natsOf t).drop n := by
  unfold natsOf
  rw [ByteArray.data_extract, Array.toList_extract, List.extract_eq_take_drop, ← List.map_drop, List.take_of_length_le (by simp)]
/-- What is known of the pool behind the two pieces. -/
structure PSt (w0 wr : World) (pb n ko A K : Nat) (S : Ps) (F : Nat → Prop) : Prop where
  st : St w0 wr S F
  pb : S.pb = pb
  sz : S.size = 128
  nn : S.n = 2
  lv : S.live 0 = true
  gn : S.gen 0 = 1
  fl : S.fill 0 = ko + n
  a0 : S.addr 0 0 = 0
  ak : S.addr 0 ko = ko
  s0 : (S.sl 0).getD 0 0 = 0
  sn : 1 ≤ (S.sl 0).length
  hA : HAt wr A 0 1 0 n
  hK : HAt wr K 0 1 ko n
  fA : ¬ F A
  fK : ¬ F K
section
variable {w0 wr w' : World} {pb n ko A K : Nat} {S : Ps} {F : Nat → Prop}
theorem PSt.grew (h : PSt w0 wr pb n ko A K S F) (hg : Grew wr w') : PSt w0 w' pb n ko A K S F :=
  ⟨h.st.grew hg, h.pb, h.sz, h.nn, h.lv, h.gn, h.fl, h.a0, h.ak, h.s0, h.sn, h.hA.grew hg, h.hK.grew hg, h.fA, h.fK⟩
theorem PSt.stored (h : PSt w0 wr pb n ko A K S F) {a : Nat} {bs : List Nat} (hS : St w0 w' (S.stored a bs) F) (hM : Moves F wr F w') : PSt w0 w' pb n ko A K (S.stored a bs) F :=
  ⟨hS, h.pb, h.sz, h.nn, h.lv, h.gn, h.fl, h.a0, h.ak, h.s0, h.sn, h.hA.moves hM h.fA, h.hK.moves hM h.fK, h.fA, h.fK⟩
/-- A store into the first piece. -/
theorem PSt.store0 (h : PSt w0 wr pb n ko A K S F) (hn : 1 ≤ n) (hn2 : n ≤ 128) {at_ : Nat} {v : Value} {bs : List Nat} (hv : ReadsB wr v bs) (hb : ∀ x, x ∈ bs → x < 256) (hat : at_ + bs.length ≤ n) :
    Calls Try.prog 22 #[.pointer (some ⟨pb, 0, none⟩), Hv 0 1 0 n, .int .i64 at_, v] wr fun e w' => e = .returned (.int .i64 0) ∧ PSt w0 w' pb n ko A K (S.stored at_ bs) F ∧ Moves F wr F w' := by
  have hs := h.st.store (i := 0) (o := 0) (l := n) (at_ := at_) (by omega) h.lv hn (by rw [h.fl]; omega) (by rw [h.sz]; omega) hv hb hat
  rw [h.pb, h.gn, h.a0, Nat.zero_add] at hs
  exact hs.mono fun e w' ⟨he, hS, hM⟩ => ⟨he, h.stored hS hM, hM⟩
/-- A store into the second one. -/
theorem PSt.storeK (h : PSt w0 wr pb n ko A K S F) (hn : 1 ≤ n) (hk : ko % 128 + n ≤ 128) {v : Value} {bs : List Nat} (hv : ReadsB wr v bs) (hb : ∀ x, x ∈ bs → x < 256) (hat : bs.length ≤ n) :
    Calls Try.prog 22 #[.pointer (some ⟨pb, 0, none⟩), Hv 0 1 ko n, .int .i64 0, v] wr fun e w' => e = .returned (.int .i64 0) ∧ PSt w0 w' pb n ko A K (S.stored ko bs) F ∧ Moves F wr F w' := by
  have hs := h.st.store (i := 0) (o := ko) (l := n) (at_ := 0) (by omega) h.lv hn (by rw [h.fl]; omega) (by rw [h.sz]; exact hk) hv hb (by omega)
  rw [h.pb, h.gn, h.ak, Nat.add_zero] at hs
  exact hs.mono fun e w' ⟨he, hS, hM⟩ => ⟨he, h.stored hS hM, hM⟩
theorem PSt.load0 (h : PSt w0 wr pb n ko A K S F) (hn : 1 ≤ n) (hn2 : n ≤ 128) :
    Calls Try.prog 20 #[.pointer (some ⟨pb, 0, none⟩), Hv 0 1 0 n] wr fun e w' => ∃ v, e = .returned (.tuple #[v, .int .i64 0]) ∧ FreshRow 5 wr v (u8s (S.bytesAt 0 n)) w' := by
  have hs := load_ok h.st.at_ h.st.ok (i := 0) (o := 0) (l := n) (by omega) h.lv hn (by rw [h.fl]; omega) (by rw [h.sz]; omega)
  rw [h.pb, h.gn, h.a0] at hs
  exact hs
theorem PSt.loadK (h : PSt w0 wr pb n ko A K S F) (hn : 1 ≤ n) (hk : ko % 128 + n ≤ 128) :
    Calls Try.prog 20 #[.pointer (some ⟨pb, 0, none⟩), Hv 0 1 ko n] wr fun e w' => ∃ v, e = .returned (.tuple #[v, .int .i64 0]) ∧ FreshRow 5 wr v (u8s (S.bytesAt ko n)) w' := by
  have hs := load_ok h.st.at_ h.st.ok (i := 0) (o := ko) (l := n) (by omega) h.lv hn (by rw [h.fl]; omega) (by rw [h.sz]; exact hk)
  rw [h.pb, h.gn, h.ak] at hs
  exact hs
end
/-- The bytes behind the three stores. -/
theorem bytes_three (bt : Nat → Nat) (D : List Nat) (n c ko f s : Nat) (P Q : List Nat) (hD : D.length = n) (hc : c ≤ n) (hko : n ≤ ko)
    (h : (f = 0 ∧ s = c ∧ P = D.take c ∧ Q = D.drop c) ∨ (f = c ∧ s = 0 ∧ P = D.drop c ∧ Q = D.take c)) (k : Nat) :
    (k < n → putBt (putBt (putBt bt f P) s Q) ko D k = D.getD k 0) ∧ (ko ≤ k → k < ko + n → putBt (putBt (putBt bt f P) s Q) ko D k = D.getD (k - ko) 0) := by
  have gt : ∀ j, j < c → (D.take c).getD j 0 = D.getD j 0 := fun j hj => by
    rw [List.getD_eq_getElem?_getD, List.getD_eq_getElem?_getD, List.getElem?_take, if_pos hj]
  have gd : ∀ j, (D.drop c).getD j 0 = D.getD (c + j) 0 := fun j => by
    rw [List.getD_eq_getElem?_getD, List.getD_eq_getElem?_getD, List.getElem?_drop]
  have lt : (D.take c).length = c := by rw [List.length_take]; omega
  have ld : (D.drop c).length = n - c := by rw [List.length_drop]; omega
  constructor
  · intro hk
    unfold putBt
    rw [if_neg (by omega)]
    rcases h with ⟨rfl, rfl, rfl, rfl⟩ | ⟨rfl, rfl, rfl, rfl⟩
    · by_cases h1 : k < s
      · rw [if_neg (by omega), if_pos (by omega), Nat.sub_zero, gt k h1]
      · rw [if_pos (by omega), gd, show s + (k - s) = k by omega]
    · by_cases h1 : k < f
      · rw [if_pos (by omega), Nat.sub_zero, gt k h1]
      · rw [if_neg (by omega), if_pos (by omega), gd, show f + (k - f) = k by omega]
  · intro h1 h2
    unfold putBt
    rw [if_pos (by omega)]
theorem bytesAt_is (S : Ps) (D : List Nat) (a : Nat) (h : ∀ k, k < D.length → S.bt (a + k) = D.getD k 0) : S.bytesAt a D.length = D := by
  apply List.ext_getElem
  · simp [Ps.bytesAt]
  · intro i h1 h2
    simp only [Ps.bytesAt, List.getElem_map, List.getElem_range]
    rw [h i h2, List.getD_eq_getElem?_getD, List.getElem?_eq_getElem h2]; rfl
end Go.Proofs.Ytaaalfimlpeddaa.regionParts
