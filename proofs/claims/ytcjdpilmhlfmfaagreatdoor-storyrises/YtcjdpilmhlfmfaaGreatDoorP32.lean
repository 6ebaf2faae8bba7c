/-
  strings.Cut at one blank, as plain lists: the first word, and the rest. No program is named.
-/
import Derived.Lib.IndexMore
import Derived.Deep.Cut
import Derived.Deep.CutRange
import Derived.Deep.AppendLies
import Derived.Lib.ParseIntBTie
import Derived.Deep.CutBlock
import Derived.Deep.RegionHeld3
import Derived.Test.YtcjdpilmhlfmfaaGreatDoorP12
import Derived.Test.YtcjdpilmhlfmfaaGreatDoorP01
import Derived.Test.YtcjdpilmhlfmfaaGreatDoorP02
import Derived.Test.YtcjdpilmhlfmfaaGreatDoorP08
import Derived.Test.YtcjdpilmhlfmfaaGreatDoorP09
import Derived.Test.YtcjdpilmhlfmfaaGreatDoorP31
import Derived.Test.YtcjdpilmhlfmfaaGreatDoorP05
import Derived.Test.YtcjdpilmhlfmfaaGreatDoorP30
import Derived.Test.YtcjdpilmhlfmfaaGreatDoorP07
namespace Go.Proofs.YtcjdpilmhlfmfaaGreatDoor
open Go.Lib (index cut)

end Go.Proofs.YtcjdpilmhlfmfaaGreatDoor

/-
  'in' of the reference: is a number from one to another one; it touches no memory.
-/
namespace Go.Proofs.YtcjdpilmhlfmfaaGreatDoor
open Go.RowKit

end Go.Proofs.YtcjdpilmhlfmfaaGreatDoor

/-
  The reference's CheckPoint: whether a point is in range.
-/
namespace Go.Proofs.YtcjdpilmhlfmfaaGreatDoor
open Go.RowKit

end Go.Proofs.YtcjdpilmhlfmfaaGreatDoor

/-
  The reference's CheckRec: what is wrong with a record.
-/
namespace Go.Proofs.YtcjdpilmhlfmfaaGreatDoor
open Go.RowKit

end Go.Proofs.YtcjdpilmhlfmfaaGreatDoor

/-
  The reference's RecText: its closure 'say', which lays numbers as texts behind the words that are there.
-/
namespace Go.Proofs.YtcjdpilmhlfmfaaGreatDoor
open Go.RowKit

end Go.Proofs.YtcjdpilmhlfmfaaGreatDoor

/-
  The reference's RecRead: the record of a text, or what is wrong with it.
-/
namespace Go.Proofs.YtcjdpilmhlfmfaaGreatDoor
open Go.RowKit

def lenOf : Value → Nat
  | .slice _ n _ => n
  | _ => 0

end Go.Proofs.YtcjdpilmhlfmfaaGreatDoor
