/-
  What the types of points and of rows are: zero, cells, bytes.
-/
import Derived.Lib.SliceRun
import Derived.Test.YtcjdpilmhlfmfaaGreatDoorP02
import Derived.Test.YtcjdpilmhlfmfaaGreatDoorP05
import Derived.Test.YtcjdpilmhlfmfaaGreatDoorP01
namespace Go.Proofs.YtcjdpilmhlfmfaaGreatDoor
open Go.RowKit

theorem infoPoint : (Tryz.prog.info? 50).map (fun i => (i.zero, i.size, i.bytes)) = some (some (.agg #[.int .i64 0, .int .i64 0]), 2, 16) := by kernel_rfl

theorem infoR : (Tryz.prog.info? 47).map (fun i => (i.zero, i.size, i.bytes)) = some (some (.agg #[.slice none 0 0, .slice none 0 0]), 2, 48) := by kernel_rfl

end Go.Proofs.YtcjdpilmhlfmfaaGreatDoor

/-
  slices.Clone at points, of a slice that has some: a slice of the call's own with the same points.
-/
namespace Go.Proofs.YtcjdpilmhlfmfaaGreatDoor
open Go.RowKit

end Go.Proofs.YtcjdpilmhlfmfaaGreatDoor
