/-
  Files, as the document tells them: names, files by their numbers, changes that wait; each call as a function.
-/
import Derived.Test.YtadnecgcoceklaaGreatDoorFsFsBase
namespace Go.Proofs.YtadnecgcoceklaaGreatDoor
open Go.RowKit

abbrev Bs := List UInt8
abbrev Dir := List (Bs × Nat)
def Dir.ins (x : Bs × Nat) : Dir → Dir
  | [] => [x]
  | y :: r => if bytesBefore x.1 y.1 then x :: y :: r else y :: Dir.ins x r
def Dir.del (d : Dir) (k : Bs) : Dir := d.filter fun p => !(p.1 == k)
def Dir.put (d : Dir) (k : Bs) (i : Nat) : Dir := Dir.ins (k, i) (Dir.del d k)
def Dir.look (d : Dir) (k : Bs) : Option Nat := (d.find? fun p => p.1 == k).map (·.2)

inductive Ch where
  | create (n : Bs) (i : Nat)
  | remove (n : Bs)
def Ch.on : Ch → Dir → Dir
  | .create n i, d => Dir.put d n i
  | .remove n, d => Dir.del d n

abbrev Fil := List Nat × Nat
structure A where
  room : Nat
  now : Dir
  last : Dir
  wait : List Ch
  off : Bool
  armed : Bool
  left : Nat
  files : List Fil

def A.new (room : Nat) : A := ⟨room, [], [], [], false, false, 0, []⟩
def inNm (c : Nat) : Bool := (decide (97 ≤ c) && decide (c ≤ 122)) || (decide (48 ≤ c) && decide (c ≤ 57)) || c == 46 || c == 45
def isNm (s : Bs) : Bool := decide (1 ≤ s.length) && decide (s.length ≤ 24) && s.all fun c => inNm c.toNat
def A.file (a : A) (i : Nat) : Fil := a.files.getD i ([], 0)
def A.setFile (a : A) (i : Nat) (f : Fil) : A := { a with files := a.files.set i f }
/-- The error of finding a name; 0 where its file is there. -/
def A.findE (a : A) (s : Bs) : Int := if isNm s = false then 6 else match Dir.look a.now s with | none => 7 | some _ => 0
def A.idx (a : A) (s : Bs) : Nat := (Dir.look a.now s).getD 0
def A.spendE (a : A) : Int := if a.off then 4 else if a.armed = false then 0 else if a.left = 0 then 4 else 0
def A.spent (a : A) : A := if a.off then a else if a.armed = false then a else if a.left = 0 then { a with off := true } else { a with left := a.left - 1 }
def A.do (a : A) (c : Ch) : A := { a with now := c.on a.now, wait := a.wait ++ [c] }
def A.used (a : A) : Nat := (a.now.map fun p => (a.file p.2).1.length).sum
/-- A call that has looked for all other errors: the power is asked, then it is done. -/
def A.try (a : A) (k : A → A) : Int × A := if a.spendE = 0 then (0, k a.spent) else (a.spendE, a.spent)

def A.create (a : A) (s : Bs) : Int × A :=
  if isNm s = false then (6, a) else
  match Dir.look a.now s with
  | some _ => (8, a)
  | none => if 400 ≤ a.now.length then (14, a) else a.try fun a => ({ a with files := a.files ++ [([], 0)] }).do (.create s a.files.length)
def A.append (a : A) (s : Bs) (b : List Nat) : Int × A :=
  if a.findE s = 0 then
    if 1048576 < (a.file (a.idx s)).1.length + b.length then (14, a)
    else if a.room < a.used + b.length then (5, a)
    else a.try fun a => a.setFile (a.idx s) ((a.file (a.idx s)).1 ++ b, (a.file (a.idx s)).2)
  else (a.findE s, a)
def A.readE (a : A) (s : Bs) (off n : Int) : Int :=
  if a.findE s = 0 then if off < 0 ∨ n < 0 ∨ ((a.file (a.idx s)).1.length : Int) < off then 1 else if a.off then 4 else 0
  else a.findE s
def A.read (a : A) (s : Bs) (off n : Int) : List Nat := if a.readE s off n = 0 then (((a.file (a.idx s)).1.drop off.toNat).take n.toNat) else []
def A.sizeE (a : A) (s : Bs) : Int := if a.findE s = 0 then if a.off then 4 else 0 else a.findE s
def A.size (a : A) (s : Bs) : Nat := if a.sizeE s = 0 then (a.file (a.idx s)).1.length else 0
def A.sync (a : A) (s : Bs) : Int × A :=
  if a.findE s = 0 then a.try fun a => a.setFile (a.idx s) ((a.file (a.idx s)).1, (a.file (a.idx s)).1.length) else (a.findE s, a)
def A.remove (a : A) (s : Bs) : Int × A :=
  if a.findE s = 0 then a.try fun a => a.do (.remove s) else (a.findE s, a)
def A.syncDir (a : A) : Int × A := a.try fun a => { a with last := a.now, wait := [] }
def A.arm (a : A) (n : Int) : A := { a with armed := decide (0 ≤ n), left := n.toNat }

/-- A pick, as the number of 64 bits. -/
def pk (ps : List Int) : Nat := (ps.headD 0 % 18446744073709551616).toNat
def cutF (f : Fil) (p : Nat) : Fil :=
  let m := p % (f.1.length - f.2 + 1)
  let b := f.1.take (f.2 + m)
  (if p % 2 = 1 ∧ 0 < m then b.set (f.2 + m - 1) (b.getD (f.2 + m - 1) 0 ^^^ 85) else b, f.2 + m)
def cutAll : Dir → List Fil → List Int → List Fil
  | [], fs, _ => fs
  | p :: d, fs, ps =>
    if (fs.getD p.2 ([], 0)).2 < (fs.getD p.2 ([], 0)).1.length then cutAll d (fs.set p.2 (cutF (fs.getD p.2 ([], 0)) (pk ps))) ps.tail
    else cutAll d fs ps
def A.cutN (a : A) (p : Nat) : A :=
  let l := (a.wait.take (p % (a.wait.length + 1))).foldl (fun d c => c.on d) a.last
  { a with now := l, last := l, wait := [] }
def A.crash (a : A) (ps : List Int) : A :=
  let b := a.cutN (pk ps)
  { b with files := cutAll b.now b.files ps.tail, off := false, armed := false, left := 0 }
end Go.Proofs.YtadnecgcoceklaaGreatDoor

