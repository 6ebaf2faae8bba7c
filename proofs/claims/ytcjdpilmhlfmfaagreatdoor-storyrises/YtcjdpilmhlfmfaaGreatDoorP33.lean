/-
  The reference's linesOf: records as far as they are whole; how many bytes these have; what is wrong with the next one.
-/
import Derived.Lib.AppendZeros
import Derived.Test.YtcjdpilmhlfmfaaGreatDoorP31
import Derived.Test.YtcjdpilmhlfmfaaGreatDoorP10
import Derived.Test.YtcjdpilmhlfmfaaGreatDoorP32
import Derived.Test.YtcjdpilmhlfmfaaGreatDoorP30
import Derived.Test.YtcjdpilmhlfmfaaGreatDoorP05
namespace Go.Proofs.YtcjdpilmhlfmfaaGreatDoor
open Go.RowKit

end Go.Proofs.YtcjdpilmhlfmfaaGreatDoor

/-
  slices.Equal at bytes; the reference's SameDisk; the reference's CheckDisk.
-/
namespace Go.Proofs.YtcjdpilmhlfmfaaGreatDoor
open Go.RowKit
open Go.Lib (byteCells)

end Go.Proofs.YtcjdpilmhlfmfaaGreatDoor

/-
  slices.Grow of a nil slice and slices.Concat of two, at bytes: the new row, in new memory.
-/
namespace Go.Proofs.YtcjdpilmhlfmfaaGreatDoor
open Go.RowKit

end Go.Proofs.YtcjdpilmhlfmfaaGreatDoor

/-
  The reference's Synced, of a right disk.
-/
namespace Go.Proofs.YtcjdpilmhlfmfaaGreatDoor
open Go.RowKit
open Go.Lib (byteCells)

theorem few_of {d : Dk} (h : dkE d = 0) : d.safe.length + d.wait.length ≤ 60000 := by
  unfold dkE at h
  split at h
  · cases h
  · omega

end Go.Proofs.YtcjdpilmhlfmfaaGreatDoor

/-
  slices.Grow of a nil slice and slices.Concat of two, at records: the new row, in new memory; the entries stay where they lie.
-/
namespace Go.Proofs.YtcjdpilmhlfmfaaGreatDoor
open Go.RowKit

end Go.Proofs.YtcjdpilmhlfmfaaGreatDoor

/-
  The reference's Recovered, of a right disk.
-/
namespace Go.Proofs.YtcjdpilmhlfmfaaGreatDoor
open Go.RowKit
open Go.Lib (byteCells)

end Go.Proofs.YtcjdpilmhlfmfaaGreatDoor
