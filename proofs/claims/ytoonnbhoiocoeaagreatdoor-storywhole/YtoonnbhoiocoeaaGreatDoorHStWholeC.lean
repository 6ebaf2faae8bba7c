/-
  Proved: the tied card of StoryWhole: for any list of happenings, any number, StoryWhole returns true and leaves its arguments as they were. Conditions: the listed variables of Go's library start as the program's text lays them; the card ties that to the text.
-/
import Derived.Test.YtoonnbhoiocoeaaGreatDoorP40
set_option maxHeartbeats 40000000
set_option maxRecDepth 100000
set_option linter.unusedVariables false
namespace Go.Proofs.YtoonnbhoiocoeaaGreatDoor
open Go
theorem storyWhole_holds:Rows.StoryWholeCardSaid:=
 Claim7.holds_tied_plain_at .later [] [.data,.data,.data,.data,.sentinel,.sentinel,.pinned] true (true, "e96c21e7a024ac2d5ab7b8eea11900cf120274ab593aec44f212a0813c895b9a") true
  storyWhole.row_holds (fun _ h=>by cases h) (by kernel_rfl) (fun _ h=>by cases h) storyWhole_row_tie rfl ⟨rfl,rfl⟩ (by kernel_rfl) rfl
  (fun f fn hf GC=>by
   obtain rfl:f=7:=Option.some.inj ((show Tryz.prog.funcNamed "rainbook/rainbooklaw.StoryWhole" =some 7 by kernel_rfl).symm.trans hf) |>.symm
   obtain rfl:fn=Tryz.f7:=(Option.some.inj (Tryz.func7.symm.trans GC)).symm
   exact⟨by kernel_rfl,fun j t ht=>by
    rw[Tryz.params7] at ht
    have hm:t∈[59,3]:=by simpa using Array.mem_of_getElem? ht
    simp only[List.mem_cons,List.not_mem_nil,or_false] at hm
    rcases hm with rfl|rfl
    .exact(show Tryz.prog.wantsStandIn 59=false by kernel_rfl)
    .exact(show Tryz.prog.wantsStandIn 3=false by kernel_rfl)⟩)
  (by kernel_rfl)
#print axioms storyWhole_holds
end Go.Proofs.YtoonnbhoiocoeaaGreatDoor
