/-
  The base of fs and the plain mathematics of frame together.
-/
import Derived.Test.YtadnecgcoceklaaGreatDoorME
import Derived.Test.YtadnecgcoceklaaGreatDoorMA
import Derived.WalkKit
import Derived.WalkSpells
import Derived.WalkLawsBesides
import Derived.BigQuiet
import Derived.Lib.Hide
import Derived.Outline
import Derived.Deep.LoopGhost
import Derived.Deep.QuietTactic
import Derived.Deep.AppendLies
import Derived.Deep.RegionWith
import Derived.Deep.OwnRows
import Derived.Maps.AppendAt
import Derived.Below
import Derived.Laws.IdiomStrings
import Derived.Lib.BufferRead
import Derived.Lib.AppendStr
import Derived.Laws.MakeOwn
import Derived.Deep.RegionLaw
import Derived.Lib.SmallJoins
