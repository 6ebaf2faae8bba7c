/-
  Proved: the tied card of StoreParts: for any list of records and any number, StoreParts returns true and leaves its arguments as they were. Conditions: the listed variables of Go's library start as the program's text lays them; the card ties that to the text.
-/
import Derived.Test.YtabeihkfjlmepaaGreatDoorP36
namespace Go.Proofs.YtabeihkfjlmepaaGreatDoor
open Go

theorem storeParts_holds : Rows.StorePartsCardSaid :=
  Claim7.holds_tied_plain_at .later [] [.data, .data, .data, .data, .sentinel, .sentinel, .pinned] true (true, "f28d44176fefd434a7eb83d26e7bbf868c2d6540705020973e10dd6eefdce731") true
    storeParts.row_holds (fun _ h => by cases h) (by kernel_rfl) (fun _ h => by cases h) storeParts_row_tie rfl ⟨rfl, rfl⟩ (by kernel_rfl) rfl
    (fun f fn hf hfn => by
      obtain rfl : f = 4 := Option.some.inj ((show Tryz.prog.funcNamed "rainbook/rainbooklaw.StoreParts" = some 4 by kernel_rfl).symm.trans hf) |>.symm
      obtain rfl : fn = Tryz.f4 := (Option.some.inj (Tryz.func4.symm.trans hfn)).symm
      exact ⟨by kernel_rfl, fun j t ht => by
        rw [Tryz.params4] at ht
        have hm : t ∈ [33, 3] := by simpa using Array.mem_of_getElem? ht
        simp only [List.mem_cons, List.not_mem_nil, or_false] at hm
        rcases hm with rfl | rfl
        · exact (show Tryz.prog.wantsStandIn 33 = false by kernel_rfl)
        · exact (show Tryz.prog.wantsStandIn 3 = false by kernel_rfl)⟩)
    (by kernel_rfl)
#print axioms storeParts_holds
end Go.Proofs.YtabeihkfjlmepaaGreatDoor
