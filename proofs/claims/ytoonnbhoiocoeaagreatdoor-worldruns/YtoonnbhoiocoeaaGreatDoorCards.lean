/-
  DERIVED. GIVEN WITH THE SEED: THE CARDS: each row of YtoonnbhoiocoeaaGreatDoorRows.lean that lists a variable, with what it lists TIED to the program's text (the seventh form; the later family's looks); each row that meets fmt, with fmt's text TOLD by the authors' own Lean function (tested against real Go, not proved from fmt's source: count such statements apart). THE CARD IS WHAT COUNTS. Prove the row's statement (the work); the ties are given (YtoonnbhoiocoeaaGreatDoorTie.lean); close each card by the builder's one call (the guide's Derived/Test/ToyasCard.lean, 'card_holds'). Laid BY PROGRAM, IN A SANDBOX (cutbox-door.mjs). By AI agents, Wed Nov 11 2026. No macro, syntax, notation, axiom, sorry.
-/
import Derived.Test.YtoonnbhoiocoeaaGreatDoorRows
import GoSem.ClaimSeven
namespace Go.Proofs.YtoonnbhoiocoeaaGreatDoor
namespace Rows

/-- THE TIED CARD OF 'rainbooklaw.WorldDoes'. -/
def worldDoesCard : Claim7 := { stood := { row := worldDoesRow, standIns := [], harness := (true, "e96c21e7a024ac2d5ab7b8eea11900cf120274ab593aec44f212a0813c895b9a"), looks := true }, kinds := [], alts := [], laidByText := true, laidKinds := [.data, .data, .data, .data, .sentinel, .sentinel, .pinned], laidTests := true, laidLooks := .later }
def WorldDoesCardSaid : Prop := Claim7.holds Tryz.pinned (.plain (OpenSpec.ofChange worldDoesSpec)) worldDoesCard

/-- THE TIED CARD OF 'rainbooklaw.WorldReads'. -/
def worldReadsCard : Claim7 := { stood := { row := worldReadsRow, standIns := [], harness := (true, "e96c21e7a024ac2d5ab7b8eea11900cf120274ab593aec44f212a0813c895b9a"), looks := true }, kinds := [], alts := [], laidByText := true, laidKinds := [.data, .data, .data, .data, .sentinel, .sentinel, .pinned], laidTests := true, laidLooks := .later }
def WorldReadsCardSaid : Prop := Claim7.holds Tryz.pinned (.plain (OpenSpec.ofChange worldReadsSpec)) worldReadsCard

/-- THE TIED CARD OF 'rainbooklaw.WorldRuns'. -/
def worldRunsCard : Claim7 := { stood := { row := worldRunsRow, standIns := [], harness := (true, "e96c21e7a024ac2d5ab7b8eea11900cf120274ab593aec44f212a0813c895b9a"), looks := true }, kinds := [], alts := [], laidByText := true, laidKinds := [.data, .data, .data, .data, .sentinel, .sentinel, .pinned], laidTests := true, laidLooks := .later }
def WorldRunsCardSaid : Prop := Claim7.holds Tryz.pinned (.plain (OpenSpec.ofChange worldRunsSpec)) worldRunsCard

/-- THE TIED CARD OF 'rainbooklaw.StorySays'. -/
def storySaysCard : Claim7 := { stood := { row := storySaysRow, standIns := [], harness := (true, "e96c21e7a024ac2d5ab7b8eea11900cf120274ab593aec44f212a0813c895b9a"), looks := true }, kinds := [], alts := [], laidByText := true, laidKinds := [.data, .data, .data, .data, .sentinel, .sentinel, .pinned], laidTests := true, laidLooks := .later }
def StorySaysCardSaid : Prop := Claim7.holds Tryz.pinned (.plain (OpenSpec.ofChange storySaysSpec)) storySaysCard

/-- THE TIED CARD OF 'rainbooklaw.StoryWhole'. -/
def storyWholeCard : Claim7 := { stood := { row := storyWholeRow, standIns := [], harness := (true, "e96c21e7a024ac2d5ab7b8eea11900cf120274ab593aec44f212a0813c895b9a"), looks := true }, kinds := [], alts := [], laidByText := true, laidKinds := [.data, .data, .data, .data, .sentinel, .sentinel, .pinned], laidTests := true, laidLooks := .later }
def StoryWholeCardSaid : Prop := Claim7.holds Tryz.pinned (.plain (OpenSpec.ofChange storyWholeSpec)) storyWholeCard

/-- THE SECOND FORM's CARD OF 'rainbooklaw.WorldDoes'. -/
def worldDoesUptoCard : Claim7 := { stood := { row := worldDoesUptoRow, standIns := [], harness := (true, "e96c21e7a024ac2d5ab7b8eea11900cf120274ab593aec44f212a0813c895b9a"), looks := true }, kinds := [], alts := [], laidByText := true, laidKinds := [.data, .data, .data, .data, .sentinel, .sentinel, .pinned], laidTests := true, laidLooks := .later }
def WorldDoesUptoCardSaid : Prop := Claim7.holds Tryz.pinned (.plain (OpenSpec.upto worldDoesSpec)) worldDoesUptoCard

/-- THE SECOND FORM's CARD OF 'rainbooklaw.WorldReads'. -/
def worldReadsUptoCard : Claim7 := { stood := { row := worldReadsUptoRow, standIns := [], harness := (true, "e96c21e7a024ac2d5ab7b8eea11900cf120274ab593aec44f212a0813c895b9a"), looks := true }, kinds := [], alts := [], laidByText := true, laidKinds := [.data, .data, .data, .data, .sentinel, .sentinel, .pinned], laidTests := true, laidLooks := .later }
def WorldReadsUptoCardSaid : Prop := Claim7.holds Tryz.pinned (.plain (OpenSpec.upto worldReadsSpec)) worldReadsUptoCard

/-- THE SECOND FORM's CARD OF 'rainbooklaw.WorldRuns'. -/
def worldRunsUptoCard : Claim7 := { stood := { row := worldRunsUptoRow, standIns := [], harness := (true, "e96c21e7a024ac2d5ab7b8eea11900cf120274ab593aec44f212a0813c895b9a"), looks := true }, kinds := [], alts := [], laidByText := true, laidKinds := [.data, .data, .data, .data, .sentinel, .sentinel, .pinned], laidTests := true, laidLooks := .later }
def WorldRunsUptoCardSaid : Prop := Claim7.holds Tryz.pinned (.plain (OpenSpec.upto worldRunsSpec)) worldRunsUptoCard

/-- THE SECOND FORM's CARD OF 'rainbooklaw.StorySays'. -/
def storySaysUptoCard : Claim7 := { stood := { row := storySaysUptoRow, standIns := [], harness := (true, "e96c21e7a024ac2d5ab7b8eea11900cf120274ab593aec44f212a0813c895b9a"), looks := true }, kinds := [], alts := [], laidByText := true, laidKinds := [.data, .data, .data, .data, .sentinel, .sentinel, .pinned], laidTests := true, laidLooks := .later }
def StorySaysUptoCardSaid : Prop := Claim7.holds Tryz.pinned (.plain (OpenSpec.upto storySaysSpec)) storySaysUptoCard

/-- THE SECOND FORM's CARD OF 'rainbooklaw.StoryWhole'. -/
def storyWholeUptoCard : Claim7 := { stood := { row := storyWholeUptoRow, standIns := [], harness := (true, "e96c21e7a024ac2d5ab7b8eea11900cf120274ab593aec44f212a0813c895b9a"), looks := true }, kinds := [], alts := [], laidByText := true, laidKinds := [.data, .data, .data, .data, .sentinel, .sentinel, .pinned], laidTests := true, laidLooks := .later }
def StoryWholeUptoCardSaid : Prop := Claim7.holds Tryz.pinned (.plain (OpenSpec.upto storyWholeSpec)) storyWholeUptoCard
end Rows
end Go.Proofs.YtoonnbhoiocoeaaGreatDoor
