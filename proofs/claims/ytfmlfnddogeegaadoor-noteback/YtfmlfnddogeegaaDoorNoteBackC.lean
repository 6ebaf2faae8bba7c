/-
  Proved: the tied card of NoteBack: for any two records and any text, NoteBack returns true and leaves its arguments as they were. Conditions: the listed variables of Go's library start as the program's text lays them; the card ties that to the text.
-/
import Derived.Test.YtfmlfnddogeegaaDoorNoteBackF
namespace Go.Proofs.YtfmlfnddogeegaaDoor
open Go

theorem noteBack_holds : Rows.NoteBackCardSaid :=
  Claim7.holds_tied_plain_at .later [] [.data, .data, .data, .data, .sentinel, .sentinel, .pinned] true (true, "3b0d838eb2d9c847a748c788717cead88f1becb999d40c9400de8c73dc313638") true
    noteBack.row_holds (fun _ h => by cases h) (by kernel_rfl) (fun _ h => by cases h) noteBack_row_tie rfl ⟨rfl, rfl⟩ (by kernel_rfl) rfl
    (fun f fn hf hfn => by
      obtain rfl : f = 4 := Option.some.inj ((show Tryd.prog.funcNamed "rainbook/rainbooklaw.NoteBack" = some 4 by kernel_rfl).symm.trans hf) |>.symm
      obtain rfl : fn = Tryd.f4 := (Option.some.inj (Tryd.func4.symm.trans hfn)).symm
      exact ⟨by kernel_rfl, fun j t ht => by
        rw [Tryd.params4] at ht
        have hm : t ∈ [24, 24, 9] := by simpa using Array.mem_of_getElem? ht
        simp only [List.mem_cons, List.not_mem_nil, or_false] at hm
        rcases hm with rfl | rfl | rfl
        · exact (show Tryd.prog.wantsStandIn 24 = false by kernel_rfl)
        · exact (show Tryd.prog.wantsStandIn 24 = false by kernel_rfl)
        · exact (show Tryd.prog.wantsStandIn 9 = false by kernel_rfl)⟩)
    (by kernel_rfl)
#print axioms noteBack_holds
end Go.Proofs.YtfmlfnddogeegaaDoor
