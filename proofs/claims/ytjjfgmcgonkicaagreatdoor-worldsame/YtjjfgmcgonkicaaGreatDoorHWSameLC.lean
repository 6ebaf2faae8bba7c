/-
  Proved: the tied card of WorldSame: for any world, any happening, any number, any number, any number, WorldSame returns true and leaves its arguments as they were. Conditions: the listed variables of Go's library start as the program's text lays them; the card ties that to the text.
-/
import Derived.Test.YtjjfgmcgonkicaaGreatDoorP45
namespace Go.Proofs.YtjjfgmcgonkicaaGreatDoor
open Go

theorem worldSame_holds : Rows.WorldSameCardSaid :=
  Claim7.holds_tied_plain_at .later [] [.data, .data, .data, .data, .sentinel, .sentinel, .pinned] true (true, "bd92408826f161da7435c5aa94d78885e6e7fe17690326834f7a15dea7244424") true
    worldSame.row_holds (fun _ h => by cases h) (by kernel_rfl) (fun _ h => by cases h) worldSame_row_tie rfl ⟨rfl, rfl⟩ (by kernel_rfl) rfl
    (fun f fn hf hfn => by
      obtain rfl : f = 7 := Option.some.inj ((show Tryz.prog.funcNamed "rainbook/rainbooklaw.WorldSame" = some 7 by kernel_rfl).symm.trans hf) |>.symm
      obtain rfl : fn = Tryz.f7 := (Option.some.inj (Tryz.func7.symm.trans hfn)).symm
      exact ⟨by kernel_rfl, fun j t ht => by
        rw [Tryz.params7] at ht
        have hm : t ∈ [30, 33, 3] := by simpa using Array.mem_of_getElem? ht
        simp only [List.mem_cons, List.not_mem_nil, or_false] at hm
        rcases hm with rfl | rfl | rfl
        · exact (show Tryz.prog.wantsStandIn 30 = false by kernel_rfl)
        · exact (show Tryz.prog.wantsStandIn 33 = false by kernel_rfl)
        · exact (show Tryz.prog.wantsStandIn 3 = false by kernel_rfl)⟩)
    (by kernel_rfl)
#print axioms worldSame_holds
end Go.Proofs.YtjjfgmcgonkicaaGreatDoor
