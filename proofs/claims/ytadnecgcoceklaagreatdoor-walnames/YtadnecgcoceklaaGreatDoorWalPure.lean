/-
  A log, as the document tells it: each call as a function of the directory of files.
-/
import Derived.Test.YtadnecgcoceklaaGreatDoorWalNm
import Derived.Test.YtadnecgcoceklaaGreatDoorFsFsX2
import Derived.Test.YtadnecgcoceklaaGreatDoorFrFrPure2
namespace Go.Proofs.YtadnecgcoceklaaGreatDoor
open Go.RowKit

abbrev Rec := List Nat
def wBegin (a : A) (n : Nat) : Int × A := if (a.create (wnm n)).1 = 0 then (a.create (wnm n)).2.syncDir else a.create (wnm n)
def wGoOn (a : A) (num : Nat) : Int × A × Nat :=
  if num = 999999 then (12, a, num)
  else if (a.sync (wnm num)).1 = 0 then
    if (wBegin (a.sync (wnm num)).2 (num + 1)).1 = 0 then (0, (wBegin (a.sync (wnm num)).2 (num + 1)).2, num + 1)
    else ((wBegin (a.sync (wnm num)).2 (num + 1)).1, (wBegin (a.sync (wnm num)).2 (num + 1)).2, num)
  else ((a.sync (wnm num)).1, (a.sync (wnm num)).2, num)
def wPut (a : A) (num p : Nat) (rec : Rec) (sync : Bool) : Int × A :=
  if (a.append (wnm num) (FR.Frm.frameL p rec)).1 = 0 ∧ sync = true then (a.append (wnm num) (FR.Frm.frameL p rec)).2.sync (wnm num) else a.append (wnm num) (FR.Frm.frameL p rec)
def wAppend (a : A) (num lim : Nat) (rec : Rec) (sync : Bool) : Int × A × Nat :=
  if 300000 < rec.length then (14, a, num)
  else if a.sizeE (wnm num) = 0 then
    if lim ≤ a.size (wnm num) then
      if (wGoOn a num).1 = 0 then ((wPut (wGoOn a num).2.1 (wGoOn a num).2.2 0 rec sync).1, (wPut (wGoOn a num).2.1 (wGoOn a num).2.2 0 rec sync).2, (wGoOn a num).2.2)
      else wGoOn a num
    else ((wPut a num (a.size (wnm num)) rec sync).1, (wPut a num (a.size (wnm num)) rec sync).2, num)
  else (a.sizeE (wnm num), a, num)
/-- The numbers of the logs' files. -/
def wNums (l : List Bs) : List Nat := l.filterMap numOf
def recsOf (b : List Nat) : List Rec := (FR.Frm.scanR 0 b 0 [] false).1
/-- The records of the files from a number on. -/
def wRecs (a : A) (l : List Nat) (fr : Int) : List Rec := (l.filter fun n : Nat => decide (fr ≤ (n : Int))).flatMap fun n => recsOf (a.read (wnm n) 0 1048576)
/-- The files below a number go, one by one: how many are gone, the error. -/
def wDropL (a : A) : List Nat → Int → Nat → Int × A × Nat
  | [], _, k => (0, a, k)
  | n :: l, b, k => if b ≤ (n : Int) then (0, a, k) else if (a.remove (wnm n)).1 = 0 then wDropL (a.remove (wnm n)).2 l b (k + 1) else ((a.remove (wnm n)).1, (a.remove (wnm n)).2, k)
def wDrop (a : A) (b : Int) : Int × A × Nat :=
  if a.listE = 0 then
    if (wDropL a (wNums a.list) b 0).1 = 0 then
      if (wDropL a (wNums a.list) b 0).2.2 = 0 then (0, (wDropL a (wNums a.list) b 0).2.1, 0)
      else if (wDropL a (wNums a.list) b 0).2.1.syncDir.1 = 0 then (0, (wDropL a (wNums a.list) b 0).2.1.syncDir.2, (wDropL a (wNums a.list) b 0).2.2)
      else ((wDropL a (wNums a.list) b 0).2.1.syncDir.1, (wDropL a (wNums a.list) b 0).2.1.syncDir.2, 0)
    else ((wDropL a (wNums a.list) b 0).1, (wDropL a (wNums a.list) b 0).2.1, 0)
  else (a.listE, a, 0)
end Go.Proofs.YtadnecgcoceklaaGreatDoor
