/-
  Proved: the tied card of StoryRises: for any list of happenings, any number, StoryRises returns true and leaves its arguments as they were. Conditions: the listed variables of Go's library start as the program's text lays them; the card ties that to the text.
-/
import Derived.Test.YtcjdpilmhlfmfaaGreatDoorP46
namespace Go.Proofs.YtcjdpilmhlfmfaaGreatDoor
open Go

theorem storyRises_holds : Rows.StoryRisesCardSaid :=
  Claim7.holds_tied_plain_at .later [] [.data, .data, .data, .data, .sentinel, .sentinel, .pinned] true (true, "714ef97fb82db6e50618467598aeb53a646b5a7ec587b8321de57eb57c46cd43") true
    storyRises.row_holds (fun _ h => by cases h) (by kernel_rfl) (fun _ h => by cases h) storyRises_row_tie rfl ⟨rfl, rfl⟩ (by kernel_rfl) rfl
    (fun f fn hf hfn => by
      obtain rfl : f = 6 := Option.some.inj ((show Tryz.prog.funcNamed "rainbook/rainbooklaw.StoryRises" = some 6 by kernel_rfl).symm.trans hf) |>.symm
      obtain rfl : fn = Tryz.f6 := (Option.some.inj (Tryz.func6.symm.trans hfn)).symm
      exact ⟨by kernel_rfl, fun j t ht => by
        rw [Tryz.params6] at ht
        have hm : t ∈ [52, 3] := by simpa using Array.mem_of_getElem? ht
        simp only [List.mem_cons, List.not_mem_nil, or_false] at hm
        rcases hm with rfl | rfl
        · exact (show Tryz.prog.wantsStandIn 52 = false by kernel_rfl)
        · exact (show Tryz.prog.wantsStandIn 3 = false by kernel_rfl)⟩)
    (by kernel_rfl)
#print axioms storyRises_holds
end Go.Proofs.YtcjdpilmhlfmfaaGreatDoor
