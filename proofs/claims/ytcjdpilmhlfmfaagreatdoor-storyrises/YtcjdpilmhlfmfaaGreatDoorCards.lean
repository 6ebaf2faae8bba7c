/-
  DERIVED. GIVEN WITH THE SEED: THE CARDS: each row of YtcjdpilmhlfmfaaGreatDoorRows.lean that lists a variable, with what it lists TIED to the program's text (the seventh form; the later family's looks); each row that meets fmt, with fmt's text TOLD by the authors' own Lean function (tested against real Go, not proved from fmt's source: count such statements apart). THE CARD IS WHAT COUNTS. Prove the row's statement (the work); the ties are given (YtcjdpilmhlfmfaaGreatDoorTie.lean); close each card by the builder's one call (the guide's Derived/Test/ToyasCard.lean, 'card_holds'). Laid BY PROGRAM, IN A SANDBOX (cutbox-door.mjs). By AI agents, Wed Nov 11 2026. No macro, syntax, notation, axiom, sorry.
-/
import Derived.Test.YtcjdpilmhlfmfaaGreatDoorRows
import GoSem.ClaimSeven
namespace Go.Proofs.YtcjdpilmhlfmfaaGreatDoor
namespace Rows

/-- THE TIED CARD OF 'rainbooklaw.StorySays'. -/
def storySaysCard : Claim7 := { stood := { row := storySaysRow, standIns := [], harness := (true, "714ef97fb82db6e50618467598aeb53a646b5a7ec587b8321de57eb57c46cd43"), looks := true }, kinds := [], alts := [], laidByText := true, laidKinds := [.data, .data, .data, .data, .sentinel, .sentinel, .pinned], laidTests := true, laidLooks := .later }
def StorySaysCardSaid : Prop := Claim7.holds Tryz.pinned (.plain (OpenSpec.ofChange storySaysSpec)) storySaysCard

/-- THE TIED CARD OF 'rainbooklaw.StoryGrows'. -/
def storyGrowsCard : Claim7 := { stood := { row := storyGrowsRow, standIns := [], harness := (true, "714ef97fb82db6e50618467598aeb53a646b5a7ec587b8321de57eb57c46cd43"), looks := true }, kinds := [], alts := [], laidByText := true, laidKinds := [.data, .data, .data, .data, .sentinel, .sentinel, .pinned], laidTests := true, laidLooks := .later }
def StoryGrowsCardSaid : Prop := Claim7.holds Tryz.pinned (.plain (OpenSpec.ofChange storyGrowsSpec)) storyGrowsCard

/-- THE TIED CARD OF 'rainbooklaw.StoryReaders'. -/
def storyReadersCard : Claim7 := { stood := { row := storyReadersRow, standIns := [], harness := (true, "714ef97fb82db6e50618467598aeb53a646b5a7ec587b8321de57eb57c46cd43"), looks := true }, kinds := [], alts := [], laidByText := true, laidKinds := [.data, .data, .data, .data, .sentinel, .sentinel, .pinned], laidTests := true, laidLooks := .later }
def StoryReadersCardSaid : Prop := Claim7.holds Tryz.pinned (.plain (OpenSpec.ofChange storyReadersSpec)) storyReadersCard

/-- THE TIED CARD OF 'rainbooklaw.StoryRises'. -/
def storyRisesCard : Claim7 := { stood := { row := storyRisesRow, standIns := [], harness := (true, "714ef97fb82db6e50618467598aeb53a646b5a7ec587b8321de57eb57c46cd43"), looks := true }, kinds := [], alts := [], laidByText := true, laidKinds := [.data, .data, .data, .data, .sentinel, .sentinel, .pinned], laidTests := true, laidLooks := .later }
def StoryRisesCardSaid : Prop := Claim7.holds Tryz.pinned (.plain (OpenSpec.ofChange storyRisesSpec)) storyRisesCard

/-- THE TIED CARD OF 'rainbooklaw.StoryWhole'. -/
def storyWholeCard : Claim7 := { stood := { row := storyWholeRow, standIns := [], harness := (true, "714ef97fb82db6e50618467598aeb53a646b5a7ec587b8321de57eb57c46cd43"), looks := true }, kinds := [], alts := [], laidByText := true, laidKinds := [.data, .data, .data, .data, .sentinel, .sentinel, .pinned], laidTests := true, laidLooks := .later }
def StoryWholeCardSaid : Prop := Claim7.holds Tryz.pinned (.plain (OpenSpec.ofChange storyWholeSpec)) storyWholeCard

/-- THE TIED CARD OF 'rainbooklaw.WorldDoes'. -/
def worldDoesCard : Claim7 := { stood := { row := worldDoesRow, standIns := [], harness := (true, "714ef97fb82db6e50618467598aeb53a646b5a7ec587b8321de57eb57c46cd43"), looks := true }, kinds := [], alts := [], laidByText := true, laidKinds := [.data, .data, .data, .data, .sentinel, .sentinel, .pinned], laidTests := true, laidLooks := .later }
def WorldDoesCardSaid : Prop := Claim7.holds Tryz.pinned (.plain (OpenSpec.ofChange worldDoesSpec)) worldDoesCard

/-- THE SECOND FORM's CARD OF 'rainbooklaw.StorySays'. -/
def storySaysUptoCard : Claim7 := { stood := { row := storySaysUptoRow, standIns := [], harness := (true, "714ef97fb82db6e50618467598aeb53a646b5a7ec587b8321de57eb57c46cd43"), looks := true }, kinds := [], alts := [], laidByText := true, laidKinds := [.data, .data, .data, .data, .sentinel, .sentinel, .pinned], laidTests := true, laidLooks := .later }
def StorySaysUptoCardSaid : Prop := Claim7.holds Tryz.pinned (.plain (OpenSpec.upto storySaysSpec)) storySaysUptoCard

/-- THE SECOND FORM's CARD OF 'rainbooklaw.StoryGrows'. -/
def storyGrowsUptoCard : Claim7 := { stood := { row := storyGrowsUptoRow, standIns := [], harness := (true, "714ef97fb82db6e50618467598aeb53a646b5a7ec587b8321de57eb57c46cd43"), looks := true }, kinds := [], alts := [], laidByText := true, laidKinds := [.data, .data, .data, .data, .sentinel, .sentinel, .pinned], laidTests := true, laidLooks := .later }
def StoryGrowsUptoCardSaid : Prop := Claim7.holds Tryz.pinned (.plain (OpenSpec.upto storyGrowsSpec)) storyGrowsUptoCard

/-- THE SECOND FORM's CARD OF 'rainbooklaw.StoryReaders'. -/
def storyReadersUptoCard : Claim7 := { stood := { row := storyReadersUptoRow, standIns := [], harness := (true, "714ef97fb82db6e50618467598aeb53a646b5a7ec587b8321de57eb57c46cd43"), looks := true }, kinds := [], alts := [], laidByText := true, laidKinds := [.data, .data, .data, .data, .sentinel, .sentinel, .pinned], laidTests := true, laidLooks := .later }
def StoryReadersUptoCardSaid : Prop := Claim7.holds Tryz.pinned (.plain (OpenSpec.upto storyReadersSpec)) storyReadersUptoCard

/-- THE SECOND FORM's CARD OF 'rainbooklaw.StoryRises'. -/
def storyRisesUptoCard : Claim7 := { stood := { row := storyRisesUptoRow, standIns := [], harness := (true, "714ef97fb82db6e50618467598aeb53a646b5a7ec587b8321de57eb57c46cd43"), looks := true }, kinds := [], alts := [], laidByText := true, laidKinds := [.data, .data, .data, .data, .sentinel, .sentinel, .pinned], laidTests := true, laidLooks := .later }
def StoryRisesUptoCardSaid : Prop := Claim7.holds Tryz.pinned (.plain (OpenSpec.upto storyRisesSpec)) storyRisesUptoCard

/-- THE SECOND FORM's CARD OF 'rainbooklaw.StoryWhole'. -/
def storyWholeUptoCard : Claim7 := { stood := { row := storyWholeUptoRow, standIns := [], harness := (true, "714ef97fb82db6e50618467598aeb53a646b5a7ec587b8321de57eb57c46cd43"), looks := true }, kinds := [], alts := [], laidByText := true, laidKinds := [.data, .data, .data, .data, .sentinel, .sentinel, .pinned], laidTests := true, laidLooks := .later }
def StoryWholeUptoCardSaid : Prop := Claim7.holds Tryz.pinned (.plain (OpenSpec.upto storyWholeSpec)) storyWholeUptoCard

/-- THE SECOND FORM's CARD OF 'rainbooklaw.WorldDoes'. -/
def worldDoesUptoCard : Claim7 := { stood := { row := worldDoesUptoRow, standIns := [], harness := (true, "714ef97fb82db6e50618467598aeb53a646b5a7ec587b8321de57eb57c46cd43"), looks := true }, kinds := [], alts := [], laidByText := true, laidKinds := [.data, .data, .data, .data, .sentinel, .sentinel, .pinned], laidTests := true, laidLooks := .later }
def WorldDoesUptoCardSaid : Prop := Claim7.holds Tryz.pinned (.plain (OpenSpec.upto worldDoesSpec)) worldDoesUptoCard
end Rows
end Go.Proofs.YtcjdpilmhlfmfaaGreatDoor
