/-
  strings.Cut at one blank, as plain lists: the first word, and the rest. No program is named.
-/
import Derived.Lib.IndexMore
import Derived.Deep.Cut
import Derived.Deep.CutRange
import Derived.Deep.AppendLies
import Derived.Lib.ParseIntBTie
import Derived.Deep.CutBlock
import Derived.Deep.RegionHeld3
import Derived.Test.YtjjfgmcgonkicaaGreatDoorP12
import Derived.Test.YtjjfgmcgonkicaaGreatDoorP01
import Derived.Test.YtjjfgmcgonkicaaGreatDoorP02
import Derived.Test.YtjjfgmcgonkicaaGreatDoorP08
import Derived.Test.YtjjfgmcgonkicaaGreatDoorP09
import Derived.Test.YtjjfgmcgonkicaaGreatDoorP31
import Derived.Test.YtjjfgmcgonkicaaGreatDoorP05
import Derived.Test.YtjjfgmcgonkicaaGreatDoorP30
import Derived.Test.YtjjfgmcgonkicaaGreatDoorP07
namespace Go.Proofs.YtjjfgmcgonkicaaGreatDoor
open Go.Lib (index cut)

end Go.Proofs.YtjjfgmcgonkicaaGreatDoor

/-
  'in' of the reference: is a number from one to another one; it touches no memory.
-/
namespace Go.Proofs.YtjjfgmcgonkicaaGreatDoor
open Go.RowKit

end Go.Proofs.YtjjfgmcgonkicaaGreatDoor

/-
  The reference's CheckPoint: whether a point is in range.
-/
namespace Go.Proofs.YtjjfgmcgonkicaaGreatDoor
open Go.RowKit

end Go.Proofs.YtjjfgmcgonkicaaGreatDoor

/-
  The reference's CheckRec: what is wrong with a record.
-/
namespace Go.Proofs.YtjjfgmcgonkicaaGreatDoor
open Go.RowKit

end Go.Proofs.YtjjfgmcgonkicaaGreatDoor

/-
  The reference's RecText: its closure 'say', which lays numbers as texts behind the words that are there.
-/
namespace Go.Proofs.YtjjfgmcgonkicaaGreatDoor
open Go.RowKit

end Go.Proofs.YtjjfgmcgonkicaaGreatDoor

/-
  The reference's RecRead: the record of a text, or what is wrong with it.
-/
namespace Go.Proofs.YtjjfgmcgonkicaaGreatDoor
open Go.RowKit

def lenOf : Value → Nat
  | .slice _ n _ => n
  | _ => 0

end Go.Proofs.YtjjfgmcgonkicaaGreatDoor
