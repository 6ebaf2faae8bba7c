/-
  Proved: the tied card of WorldRuns: for any world, any list of happenings, WorldRuns returns true and leaves its arguments as they were. Conditions: the listed variables of Go's library start as the program's text lays them; the card ties that to the text.
-/
import Derived.Test.YtoonnbhoiocoeaaGreatDoorS41
set_option maxHeartbeats 40000000
set_option maxRecDepth 100000
set_option linter.unusedVariables false
namespace Go.Proofs.YtoonnbhoiocoeaaGreatDoor
open Go
theorem worldRuns_holds:Rows.WorldRunsCardSaid:=
 Claim7.holds_tied_plain_at .later [] [.data,.data,.data,.data,.sentinel,.sentinel,.pinned] true (true, "e96c21e7a024ac2d5ab7b8eea11900cf120274ab593aec44f212a0813c895b9a") true
  worldRuns.row_holds (fun _ h=>by cases h) (by kernel_rfl) (fun _ h=>by cases h) worldRuns_row_tie rfl ⟨rfl,rfl⟩ (by kernel_rfl) rfl
  (fun f fn hf Sh=>by
   obtain rfl:f=5:=Option.some.inj ((show Tryz.prog.funcNamed "rainbook/rainbooklaw.WorldRuns" =some 5 by kernel_rfl).symm.trans hf) |>.symm
   obtain rfl:fn=Tryz.f5:=(Option.some.inj (Tryz.func5.symm.trans Sh)).symm
   exact⟨by kernel_rfl,fun j t ht=>by
    rw[Tryz.params5] at ht
    have hm:t∈[30,59]:=by simpa using Array.mem_of_getElem? ht
    simp only[List.mem_cons,List.not_mem_nil,or_false] at hm
    rcases hm with rfl|rfl
    .exact(show Tryz.prog.wantsStandIn 30=false by kernel_rfl)
    exact(show Tryz.prog.wantsStandIn 59=false by kernel_rfl)⟩)
  (by kernel_rfl)
#print axioms worldRuns_holds
end Go.Proofs.YtoonnbhoiocoeaaGreatDoor
