/-
  Proved: the tied card of WorldSnap: for any world, any list of happenings, any number, any number, WorldSnap returns true and leaves its arguments as they were. Conditions: the listed variables of Go's library start as the program's text lays them; the card ties that to the text.
-/
import Derived.Test.YtjjfgmcgonkicaaGreatDoorP47
namespace Go.Proofs.YtjjfgmcgonkicaaGreatDoor
open Go

theorem worldSnap_holds : Rows.WorldSnapCardSaid :=
  Claim7.holds_tied_plain_at .later [] [.data, .data, .data, .data, .sentinel, .sentinel, .pinned] true (true, "bd92408826f161da7435c5aa94d78885e6e7fe17690326834f7a15dea7244424") true
    worldSnap.row_holds (fun _ h => by cases h) (by kernel_rfl) (fun _ h => by cases h) worldSnap_row_tie rfl ⟨rfl, rfl⟩ (by kernel_rfl) rfl
    (fun f fn hf hfn => by
      obtain rfl : f = 10 := Option.some.inj ((show Tryz.prog.funcNamed "rainbook/rainbooklaw.WorldSnap" = some 10 by kernel_rfl).symm.trans hf) |>.symm
      obtain rfl : fn = Tryz.f10 := (Option.some.inj (Tryz.func10.symm.trans hfn)).symm
      exact ⟨by kernel_rfl, fun j t ht => by
        rw [Tryz.params10] at ht
        have hm : t ∈ [30, 68, 3] := by simpa using Array.mem_of_getElem? ht
        simp only [List.mem_cons, List.not_mem_nil, or_false] at hm
        rcases hm with rfl | rfl | rfl
        · exact (show Tryz.prog.wantsStandIn 30 = false by kernel_rfl)
        · exact (show Tryz.prog.wantsStandIn 68 = false by kernel_rfl)
        · exact (show Tryz.prog.wantsStandIn 3 = false by kernel_rfl)⟩)
    (by kernel_rfl)
#print axioms worldSnap_holds
end Go.Proofs.YtjjfgmcgonkicaaGreatDoor
