/-
  What Load and Store of package region do, said of a pool that lies in memory.
-/
import Derived.Test.YtaaalfimlpeddaaRegW6
import Derived.Laws.CopyOwn
namespace Go.Proofs.Ytaaalfimlpeddaa
open Go.RowKit

/-- What holds of every pool. -/
structure Ps.Ok (S : Ps) : Prop where
  s1 : 64 ≤ S.size
  s2 : S.size ≤ 65536
  s3 : S.size * S.n ≤ 4194304
  s4 : 1 ≤ S.n
  s5 : S.n ≤ 4096
  v1 : ∀ i, i < 256 → ∀ j, j ∈ S.sl i → j < S.n
  v2 : ∀ i, i < 256 → S.fill i ≤ (S.sl i).length * S.size
  v3 : ∀ i, i < 256 → (S.sl i).Nodup
  v4 : ∀ i k, i < 256 → k < 256 → i ≠ k → ∀ j, j ∈ S.sl i → j ∉ S.sl k
  v5 : ∀ i, i < 256 → ∀ j, j ∈ S.sl i → S.tk j = true
  v6 : ∀ j, j < S.n → S.tk j = true → ∃ i, i < 256 ∧ S.live i = true ∧ j ∈ S.sl i
  v7 : ∀ i, i < 256 → S.live i = false → S.sl i = []
  v8 : ∀ j, S.bt j < 256

theorem nodup_le : ∀ (n : Nat) (l : List Nat), l.Nodup → (∀ j, j ∈ l → j < n) → l.length ≤ n
  | 0, l, _, h => by cases l with
    | nil => simp
    | cons a t => exact absurd (h a (by simp)) (by omega)
  | n + 1, l, hd, h => by
    have h1 := nodup_le n (l.erase n) (hd.erase n) (fun j hj => by
      have hm := List.mem_of_mem_erase hj
      have := h j hm
      have hne : j ≠ n := fun e => by subst e; exact (List.Nodup.not_mem_erase hd) hj
      omega)
    by_cases hn : n ∈ l
    · have := List.length_erase_of_mem hn; omega
    · rw [List.erase_of_not_mem hn] at h1; omega

theorem Ps.Ok.len {S : Ps} (h : S.Ok) {i : Nat} (hi : i < 256) : (S.sl i).length ≤ S.n := nodup_le S.n _ (h.v3 i hi) (h.v1 i hi)
theorem Ps.Ok.lenSize {S : Ps} (h : S.Ok) {i : Nat} (hi : i < 256) : (S.sl i).length * S.size ≤ 4194304 := by
  have h1 := Nat.mul_le_mul_right S.size (h.len hi)
  have h2 := h.s3
  rw [Nat.mul_comm] at h2; omega
theorem Ps.Ok.fillLe {S : Ps} (h : S.Ok) {i : Nat} (hi : i < 256) : S.fill i ≤ 4194304 := Nat.le_trans (h.v2 i hi) (h.lenSize hi)

/-- Which error a handle brings. -/
def Ps.good (S : Ps) (i : Nat) (o l : Int) : Bool := decide (1 ≤ l) && decide (0 ≤ o) && decide (o + l ≤ (S.fill i : Int)) && decide (o % (S.size : Int) + l ≤ (S.size : Int))
def Ps.perr (S : Ps) (r g o l : Int) : Int := if S.has r && ((S.gen r.toNat : Int) == g) then (if S.good r.toNat o l then 0 else 1) else 3
/-- Where a piece's bytes lie. -/
def Ps.addr (S : Ps) (i o : Nat) : Nat := (S.sl i).getD (o / S.size) 0 * S.size + o % S.size
def u8s (l : List Nat) : List Value := l.map fun x : Nat => Value.int .u8 x
def Ps.bytesAt (S : Ps) (a l : Nat) : List Nat := (List.range l).map fun k => S.bt (a + k)

theorem has_nat {S : Ps} {r : Int} (h : S.has r = true) : ∃ i : Nat, r = i ∧ i < 256 ∧ S.live i = true := by
  simp [Ps.has] at h
  obtain ⟨i, rfl⟩ := Int.eq_ofNat_of_zero_le h.1.1
  exact ⟨i, rfl, by omega, by simpa using h.2⟩
theorem has_of {S : Ps} {i : Nat} (hi : i < 256) (h : S.live i = true) : S.has (i : Int) = true := by
  simp [Ps.has, h]; omega

theorem piece_err {w : World} {S : Ps} {F : Nat → Prop} (hS : PoolAt w S F) (hO : S.Ok) (r g o l z : Int) (hl : l ≤ 9223372036854775807) (hz : S.perr r g o l = z) (hz0 : z ≠ 0) :
    Calls Try.prog 39 #[.pointer (some ⟨S.pb, 0, none⟩), Hv r g o l] w fun e w' => e = .returned (.tuple #[.slice none 0 0, .int .i64 z]) ∧ Grew w w' := by
  cases hh : S.has r
  · have : z = 3 := by rw [← hz]; simp [Ps.perr, hh]
    rw [this]; exact piece_miss hS r g o l hh
  · obtain ⟨i, rfl, hi, hlv⟩ := has_nat hh
    by_cases hg : (S.gen i : Int) = g
    · subst hg
      have hgd : S.good i o l = false := by
        cases hg2 : S.good i o l
        · rfl
        · exact absurd (by rw [← hz]; simp [Ps.perr, hh, hg2]) hz0
      have : z = 1 := by rw [← hz]; simp [Ps.perr, hh, hgd]
      rw [this]
      have hs1 := hO.s1
      by_cases hb : l < 1 ∨ o < 0 ∨ (S.fill i : Int) - l < o
      · exact piece_arg1 hS i o l hi hlv (hO.fillLe hi) hl hb
      · obtain ⟨o', rfl⟩ := Int.eq_ofNat_of_zero_le (show 0 ≤ o by omega)
        obtain ⟨l', rfl⟩ := Int.eq_ofNat_of_zero_le (show 0 ≤ l by omega)
        have e : ((o' : Int) % (S.size : Int)) = ((o' % S.size : Nat) : Int) := (Int.natCast_emod _ _).symm
        simp only [Ps.good, e] at hgd
        refine piece_arg2 hS i o' l' (o' % S.size) hi hlv (hO.fillLe hi) hO.s1 hO.s2 (by omega) (by omega) rfl ?_
        simp only [Bool.and_eq_false_iff, decide_eq_false_iff_not] at hgd
        omega
    · have : z = 3 := by rw [← hz]; simp [Ps.perr, hg]
      rw [this]; exact piece_stale hS i g o l hi hlv hg

theorem good_nat {S : Ps} {i : Nat} {o l : Int} (h : S.good i o l = true) : ∃ o' l' : Nat, o = o' ∧ l = l' ∧ 1 ≤ l' ∧ o' + l' ≤ S.fill i ∧ o' % S.size + l' ≤ S.size := by
  simp only [Ps.good, Bool.and_eq_true, decide_eq_true_eq] at h
  obtain ⟨o', rfl⟩ := Int.eq_ofNat_of_zero_le h.1.1.2
  obtain ⟨l', rfl⟩ := Int.eq_ofNat_of_zero_le (show 0 ≤ l by omega)
  have e : ((o' : Int) % (S.size : Int)) = ((o' % S.size : Nat) : Int) := (Int.natCast_emod _ _).symm
  rw [e] at h
  exact ⟨o', l', rfl, rfl, by omega, by omega, by omega⟩

theorem good_slab {S : Ps} (hO : S.Ok) {i o l : Nat} (hi : i < 256) (h1 : 1 ≤ l) (h2 : o + l ≤ S.fill i) : o / S.size < (S.sl i).length ∧ (S.sl i).getD (o / S.size) 0 < S.n ∧ (S.sl i).getD (o / S.size) 0 ∈ S.sl i := by
  have hq : o / S.size < (S.sl i).length := by
    have := hO.v2 i hi
    exact (Nat.div_lt_iff_lt_mul (by have := hO.s1; omega)).2 (by omega)
  have hm : (S.sl i).getD (o / S.size) 0 ∈ S.sl i := by
    rw [List.getD_eq_getElem?_getD, List.getElem?_eq_getElem hq]; simp
  exact ⟨hq, hO.v1 i hi _ hm, hm⟩

theorem piece_good {w : World} {S : Ps} {F : Nat → Prop} (hS : PoolAt w S F) (hO : S.Ok) {i o l : Nat} (hi : i < 256) (hlv : S.live i = true) (h1 : 1 ≤ l) (h2 : o + l ≤ S.fill i) (h3 : o % S.size + l ≤ S.size) :
    Calls Try.prog 39 #[.pointer (some ⟨S.pb, 0, none⟩), Hv i (S.gen i) o l] w fun e w' =>
      (∃ c, e = .returned (.tuple #[.slice (some ⟨S.bb, S.addr i o, none⟩) l c, .int .i64 0]) ∧ l ≤ c) ∧ Grew w w' := by
  obtain ⟨hq, hj, _⟩ := good_slab hO hi h1 h2
  refine (piece_ok hS i o l _ _ _ _ hi hlv (hO.fillLe hi) hO.s1 hO.s2 hO.s3 h1 h2 rfl h3 rfl hq rfl hj rfl).mono ?_
  rintro e w' ⟨rfl, hg⟩
  refine ⟨⟨_, rfl, ?_⟩, hg⟩
  have : ((S.sl i).getD (o / S.size) 0 + 1) * S.size ≤ S.n * S.size := Nat.mul_le_mul_right _ hj
  rw [Nat.add_mul, Nat.one_mul, Nat.mul_comm S.n] at this
  omega

/-- New memory that holds these cells; nothing that was there has turned. -/
def FreshRow (e : TypeId) (w : World) (v : Value) (xs : List Value) (w' : World) : Prop :=
  ∃ g cap, v = .slice (some ⟨g, 0, none⟩) xs.length cap ∧ w.heap.size ≤ g ∧ g < w'.heap.size ∧ w'.ownsRow w.heap.size e 1 v xs.length xs ∧ Grew w w'

set_option maxRecDepth 100000 in
set_option maxHeartbeats 800000 in
theorem load_err {w : World} {S : Ps} {F : Nat → Prop} (hS : PoolAt w S F) (hO : S.Ok) (r g o l z : Int) (hl : l ≤ 9223372036854775807) (hz : S.perr r g o l = z) (hz0 : z ≠ 0) :
    Calls Try.prog 20 #[.pointer (some ⟨S.pb, 0, none⟩), Hv r g o l] w fun e w' => e = .returned (.tuple #[.slice none 0 0, .int .i64 z]) ∧ Grew w w' := by
  have hf := piece_err (hS.alloc (.cells #[.int .i64 r, .int .i64 g, .int .i64 o, .int .i64 l] 41)) hO r g o l z hl hz hz0
  have HF := Lib.hid hf
  clear hf hS hO hz hz0 hl
  go_enter Try.func20, Try.ntmps20
  go_wp2_with fail
  refine HF.out.mono ?_
  rintro e w1 ⟨rfl, hg1⟩
  have HG := Lib.hid ((Grew.alloc w (.cells #[.int .i64 r, .int .i64 g, .int .i64 o, .int .i64 l] 41)).then hg1)
  clear hg1
  go_wp2_with fail
  refine (copyOf_nil _).mono ?_
  rintro e w2 ⟨rfl, rfl⟩
  go_wp2
  go_ret2
  exact ⟨rfl, HG.out⟩

theorem bytes_news {w : World} {S : Ps} {F : Nat → Prop} (hS : PoolAt w S F) {a l : Nat} (h : a + l ≤ S.size * S.n) : ∀ j u, (u8s (S.bytesAt a l))[j]? = some u → w.cell? ((⟨S.bb, a, none⟩ : Addr).add j) = some u := by
  intro j u hu
  have hj : j < l := by
    have := (List.getElem?_eq_some_iff.1 hu).1
    simpa [u8s, Ps.bytesAt] using this
  have hadd : (⟨S.bb, a, none⟩ : Addr).add j = ⟨S.bb, a + j, none⟩ := by unfold Addr.add; split <;> simp_all
  rw [hadd, hS.cb (by omega)]
  simpa [u8s, Ps.bytesAt, hj] using hu
theorem u8s_one (l : List Nat) : ∀ u ∈ u8s l, u.oneCell' = true := by
  intro u hu
  simp [u8s] at hu
  obtain ⟨x, _, rfl⟩ := hu
  rfl

theorem addr_le {S : Ps} (hO : S.Ok) {i o l : Nat} (hi : i < 256) (h1 : 1 ≤ l) (h2 : o + l ≤ S.fill i) (h3 : o % S.size + l ≤ S.size) : S.addr i o + l ≤ S.size * S.n := by
  obtain ⟨_, hj, _⟩ := good_slab hO hi h1 h2
  have : ((S.sl i).getD (o / S.size) 0 + 1) * S.size ≤ S.n * S.size := Nat.mul_le_mul_right _ hj
  rw [Nat.add_mul, Nat.one_mul, Nat.mul_comm S.n] at this
  unfold Ps.addr; omega

set_option maxRecDepth 100000 in
set_option maxHeartbeats 800000 in
theorem load_ok {w : World} {S : Ps} {F : Nat → Prop} (hS : PoolAt w S F) (hO : S.Ok) {i o l : Nat} (hi : i < 256) (hlv : S.live i = true) (h1 : 1 ≤ l) (h2 : o + l ≤ S.fill i) (h3 : o % S.size + l ≤ S.size) :
    Calls Try.prog 20 #[.pointer (some ⟨S.pb, 0, none⟩), Hv i (S.gen i) o l] w fun e w' => ∃ v, e = .returned (.tuple #[v, .int .i64 0]) ∧ FreshRow 5 w v (u8s (S.bytesAt (S.addr i o) l)) w' := by
  have hf := piece_good (hS.alloc (.cells #[.int .i64 i, .int .i64 (S.gen i), .int .i64 o, .int .i64 l] 41)) hO hi hlv h1 h2 h3
  have HF := Lib.hid hf
  have hal := addr_le hO hi h1 h2 h3
  have hs3 := hO.s3
  have HS := Lib.hid hS
  clear hf hS hO hlv
  go_enter Try.func20, Try.ntmps20
  go_wp2_with fail
  refine HF.out.mono ?_
  rintro e w1 ⟨⟨c, rfl, _⟩, hg1⟩
  have hgw := (Grew.alloc w (.cells #[.int .i64 i, .int .i64 (S.gen i), .int .i64 o, .int .i64 l] 41)).then hg1
  have hS1 := HS.out.grew hgw
  have hcp := copyOf_some w1 ⟨S.bb, S.addr i o, none⟩ l c (u8s (S.bytesAt (S.addr i o) l)) (by simp [u8s, Ps.bytesAt]) (bytes_news hS1 hal) (u8s_one _) (by omega) (by omega)
  have HC := Lib.hid hcp
  have HG := Lib.hid hgw
  clear hcp hS1 hgw hg1
  go_wp2_with fail
  refine HC.out.mono ?_
  rintro e w2 ⟨v, rfl, hv⟩
  have HV := Lib.hid hv
  clear hv
  go_wp2
  go_ret2
  obtain ⟨cap, hv, hown, hgr, hlt⟩ := HV.out
  have hl : (u8s (S.bytesAt (S.addr i o) l)).length = l := by simp [u8s, Ps.bytesAt]
  have hsz := HG.out.size
  refine ⟨_, rfl, w1.heap.size, cap, by rw [hl]; exact hv, hsz, hlt, ?_, HG.out.then ⟨hgr.os, hgr.tape, hgr.output, hgr.size, fun k hk => hgr.block k hk (by simp)⟩⟩
  rw [hl]
  obtain ⟨o1, o2⟩ := hown
  refine ⟨o1, ?_⟩
  rcases o2 with o2 | ⟨g, cp, cur, hv', hb, r⟩
  · exact .inl o2
  · exact .inr ⟨g, cp, cur, hv', Nat.le_trans hsz hb, r⟩
end Go.Proofs.Ytaaalfimlpeddaa
