/-
  No cell of these rows narrows 'for every input' (looked for: loops, veiled, ifaces, maps, wideKeys, modest, calm, conditions, laid).
  DERIVED. THE GIVEN ROWS OF THIS SEAT. 7 by the template 'for every input the law returns true; each argument reads behind the call as it read before'; 0 by the template 'total and deterministic' (their statements: YtnpikbpngohimaaTotals.lean).
  GIVEN WITH THE SEED: the statements are not yours to turn. If you find one false, say at which input.
  Laid BY PROGRAM, IN A SANDBOX (cutbox-rows.mjs): the forced cells as the released guide's own fill.sh prints them over the translation cbfe9323cfd700ef… (all of the seat's roots in one cut). By AI agents, Wed Nov 11 2026. No macro, syntax, notation, axiom, sorry.
-/
import Derived.Test.YtnpikbpngohimaaChecked
import GoSem.Claim
import GoSem.ClaimJoined
import GoSem.ClaimMapViews
import Derived.JoinedTies
import Derived.KernelRfl
namespace Go.Proofs.Ytnpikbpngohimaa
/- THE CELL 'sum', in the pinned program and in every row, IS THE sha256 OF THE DUMP (.gsa) THAT YtnpikbpngohimaaProg.lean LOADS. Nothing in Lean hashes anything: it is a label: what it is worth is what the hold of that sum in a sandbox is worth. -/
noncomputable def Try.pinned : Pinned := { name := "ytnpikbpngohimaa", sum := "cbfe9323cfd700ef97cb6c6c87f641c4eabd23b15feed0454f49de5c71bfa851", checked := Try.checked }
namespace Rows
def none {H : Type} : Left H := { results := [], args := [] }

/-- 'rainbooklaw.ShelfSays': WHATEVER THE INPUT: true; the input reads as it did. -/
def shelfSaysSpec : ChangeSpec := { name := "shelfSays", fn := fun _ => fun
  | [d1, d2, d3, d4, d5] => { results := [.lit (.bool true)], args := [d1, d2, d3, d4, d5] }
  | _ => none }
def shelfSaysRow : OpenClaim := { program := "ytnpikbpngohimaa", sum := "cbfe9323cfd700ef97cb6c6c87f641c4eabd23b15feed0454f49de5c71bfa851", func := "rainbook/rainbooklaw.ShelfSays", spec := "shelfSays", unfollowed := true, recurses := true, apart := false }
def ShelfSaysSaid : Prop := shelfSaysRow.holds Try.pinned (OpenSpec.ofChange shelfSaysSpec)

/-- ITS FALSE NEIGHBOUR: 'it returns false'. Refute it at one input. -/
def shelfSaysWrong : ChangeSpec := { name := "shelfSays", fn := fun _ => fun
  | [d1, d2, d3, d4, d5] => { results := [.lit (.bool false)], args := [d1, d2, d3, d4, d5] }
  | _ => none }
def ShelfSaysWrongFalsely : Prop := shelfSaysRow.holds Try.pinned (OpenSpec.ofChange shelfSaysWrong)

/-- 'rainbooklaw.ShelfSame': WHATEVER THE INPUT: true; the input reads as it did. -/
def shelfSameSpec : ChangeSpec := { name := "shelfSame", fn := fun _ => fun
  | [d1, d2, d3, d4] => { results := [.lit (.bool true)], args := [d1, d2, d3, d4] }
  | _ => none }
def shelfSameRow : OpenClaim := { program := "ytnpikbpngohimaa", sum := "cbfe9323cfd700ef97cb6c6c87f641c4eabd23b15feed0454f49de5c71bfa851", func := "rainbook/rainbooklaw.ShelfSame", spec := "shelfSame", unfollowed := true, recurses := true, apart := false }
def ShelfSameSaid : Prop := shelfSameRow.holds Try.pinned (OpenSpec.ofChange shelfSameSpec)

/-- ITS FALSE NEIGHBOUR: 'it returns false'. Refute it at one input. -/
def shelfSameWrong : ChangeSpec := { name := "shelfSame", fn := fun _ => fun
  | [d1, d2, d3, d4] => { results := [.lit (.bool false)], args := [d1, d2, d3, d4] }
  | _ => none }
def ShelfSameWrongFalsely : Prop := shelfSameRow.holds Try.pinned (OpenSpec.ofChange shelfSameWrong)

/-- 'rainbooklaw.ShelfAll': WHATEVER THE INPUT: true; the input reads as it did. -/
def shelfAllSpec : ChangeSpec := { name := "shelfAll", fn := fun _ => fun
  | [d1, d2, d3] => { results := [.lit (.bool true)], args := [d1, d2, d3] }
  | _ => none }
def shelfAllRow : OpenClaim := { program := "ytnpikbpngohimaa", sum := "cbfe9323cfd700ef97cb6c6c87f641c4eabd23b15feed0454f49de5c71bfa851", func := "rainbook/rainbooklaw.ShelfAll", spec := "shelfAll", unfollowed := true, recurses := true, apart := false }
def ShelfAllSaid : Prop := shelfAllRow.holds Try.pinned (OpenSpec.ofChange shelfAllSpec)

/-- ITS FALSE NEIGHBOUR: 'it returns false'. Refute it at one input. -/
def shelfAllWrong : ChangeSpec := { name := "shelfAll", fn := fun _ => fun
  | [d1, d2, d3] => { results := [.lit (.bool false)], args := [d1, d2, d3] }
  | _ => none }
def ShelfAllWrongFalsely : Prop := shelfAllRow.holds Try.pinned (OpenSpec.ofChange shelfAllWrong)

/-- 'rainbooklaw.QuerySays': WHATEVER THE INPUT: true; the input reads as it did. -/
def querySaysSpec : ChangeSpec := { name := "querySays", fn := fun _ => fun
  | [d1, d2, d3, d4, d5] => { results := [.lit (.bool true)], args := [d1, d2, d3, d4, d5] }
  | _ => none }
def querySaysRow : OpenClaim := { program := "ytnpikbpngohimaa", sum := "cbfe9323cfd700ef97cb6c6c87f641c4eabd23b15feed0454f49de5c71bfa851", func := "rainbook/rainbooklaw.QuerySays", spec := "querySays", unfollowed := true, recurses := true, apart := false }
def QuerySaysSaid : Prop := querySaysRow.holds Try.pinned (OpenSpec.ofChange querySaysSpec)

/-- ITS FALSE NEIGHBOUR: 'it returns false'. Refute it at one input. -/
def querySaysWrong : ChangeSpec := { name := "querySays", fn := fun _ => fun
  | [d1, d2, d3, d4, d5] => { results := [.lit (.bool false)], args := [d1, d2, d3, d4, d5] }
  | _ => none }
def QuerySaysWrongFalsely : Prop := querySaysRow.holds Try.pinned (OpenSpec.ofChange querySaysWrong)

/-- 'rainbooklaw.QueryParts': WHATEVER THE INPUT: true; the input reads as it did. -/
def queryPartsSpec : ChangeSpec := { name := "queryParts", fn := fun _ => fun
  | [d1, d2, d3, d4, d5, d6] => { results := [.lit (.bool true)], args := [d1, d2, d3, d4, d5, d6] }
  | _ => none }
def queryPartsRow : OpenClaim := { program := "ytnpikbpngohimaa", sum := "cbfe9323cfd700ef97cb6c6c87f641c4eabd23b15feed0454f49de5c71bfa851", func := "rainbook/rainbooklaw.QueryParts", spec := "queryParts", unfollowed := true, recurses := true, apart := false }
def QueryPartsSaid : Prop := queryPartsRow.holds Try.pinned (OpenSpec.ofChange queryPartsSpec)

/-- ITS FALSE NEIGHBOUR: 'it returns false'. Refute it at one input. -/
def queryPartsWrong : ChangeSpec := { name := "queryParts", fn := fun _ => fun
  | [d1, d2, d3, d4, d5, d6] => { results := [.lit (.bool false)], args := [d1, d2, d3, d4, d5, d6] }
  | _ => none }
def QueryPartsWrongFalsely : Prop := queryPartsRow.holds Try.pinned (OpenSpec.ofChange queryPartsWrong)

/-- 'rainbooklaw.ShelfLast': WHATEVER THE INPUT: true; the input reads as it did. -/
def shelfLastSpec : ChangeSpec := { name := "shelfLast", fn := fun _ => fun
  | [d1, d2, d3, d4, d5] => { results := [.lit (.bool true)], args := [d1, d2, d3, d4, d5] }
  | _ => none }
def shelfLastRow : OpenClaim := { program := "ytnpikbpngohimaa", sum := "cbfe9323cfd700ef97cb6c6c87f641c4eabd23b15feed0454f49de5c71bfa851", func := "rainbook/rainbooklaw.ShelfLast", spec := "shelfLast", unfollowed := true, recurses := true, apart := false }
def ShelfLastSaid : Prop := shelfLastRow.holds Try.pinned (OpenSpec.ofChange shelfLastSpec)

/-- ITS FALSE NEIGHBOUR: 'it returns false'. Refute it at one input. -/
def shelfLastWrong : ChangeSpec := { name := "shelfLast", fn := fun _ => fun
  | [d1, d2, d3, d4, d5] => { results := [.lit (.bool false)], args := [d1, d2, d3, d4, d5] }
  | _ => none }
def ShelfLastWrongFalsely : Prop := shelfLastRow.holds Try.pinned (OpenSpec.ofChange shelfLastWrong)

/-- 'rainbooklaw.QueryEach': WHATEVER THE INPUT: true; the input reads as it did. -/
def queryEachSpec : ChangeSpec := { name := "queryEach", fn := fun _ => fun
  | [d1, d2] => { results := [.lit (.bool true)], args := [d1, d2] }
  | _ => none }
def queryEachRow : OpenClaim := { program := "ytnpikbpngohimaa", sum := "cbfe9323cfd700ef97cb6c6c87f641c4eabd23b15feed0454f49de5c71bfa851", func := "rainbook/rainbooklaw.QueryEach", spec := "queryEach", unfollowed := true, recurses := true, apart := false }
def QueryEachSaid : Prop := queryEachRow.holds Try.pinned (OpenSpec.ofChange queryEachSpec)

/-- ITS FALSE NEIGHBOUR: 'it returns false'. Refute it at one input. -/
def queryEachWrong : ChangeSpec := { name := "queryEach", fn := fun _ => fun
  | [d1, d2] => { results := [.lit (.bool false)], args := [d1, d2] }
  | _ => none }
def QueryEachWrongFalsely : Prop := queryEachRow.holds Try.pinned (OpenSpec.ofChange queryEachWrong)

/- THE SECOND FORM. 'bulk': how many values and letters a reading holds, each counted each time it is reached (what is shared counts as often as it is met; a slice's spare places count too). A statement '..UptoSaid' is the law's where the arguments, and the package variables that the reading takes, are together of bulk at most 1048576: NARROWER than '..Said'. Prove '..Said' where nothing that the law and all that it calls make is longer than what came in: it says more and counts as full. Else prove '..UptoSaid'. A law counts once. -/
mutual
def uptoBulk {H : Type} : DataW H → Nat
  | .lit (.string bytes) => bytes.length + 1
  | .lit _ => 1
  | .nil => 1
  | .ptr d => uptoBulk d + 1
  | .slice elems spare => uptoBulkAll elems + uptoBulkAll spare + 1
  | .agg parts => uptoBulkAll parts + 1
  | .iface _ d => uptoBulk d + 1
  | .map entries => uptoBulkEntries entries + 1
  | .held _ => 1
def uptoBulkAll {H : Type} : List (DataW H) → Nat
  | [] => 0
  | d :: r => uptoBulk d + uptoBulkAll r
def uptoBulkEntries {H : Type} : List (Lit × DataW H) → Nat
  | [] => 0
  | x :: r => uptoBulkEntry x + uptoBulkEntries r
def uptoBulkEntry {H : Type} : Lit × DataW H → Nat
  | (.string bytes, d) => bytes.length + uptoBulk d + 1
  | (_, d) => uptoBulk d + 1
 end
def uptoSmall : (H : Type) → List (DataW H) → Bool := fun _ ds => decide (uptoBulkAll ds ≤ 1048576)
def OpenSpec.upto (s : _root_.Go.ChangeSpec) : _root_.Go.OpenSpec := { _root_.Go.OpenSpec.ofChange s with cond := some uptoSmall }

/-- 'rainbooklaw.ShelfSays', WHERE WHAT IT READS IS OF BULK AT MOST 1048576: true; the input reads as it did. -/
def shelfSaysUptoRow : OpenClaim := { program := "ytnpikbpngohimaa", sum := "cbfe9323cfd700ef97cb6c6c87f641c4eabd23b15feed0454f49de5c71bfa851", func := "rainbook/rainbooklaw.ShelfSays", spec := "shelfSays", unfollowed := true, recurses := true, apart := false, narrowed := true }
def ShelfSaysUptoSaid : Prop := shelfSaysUptoRow.holds Try.pinned (OpenSpec.upto shelfSaysSpec)

/-- 'rainbooklaw.ShelfSame', WHERE WHAT IT READS IS OF BULK AT MOST 1048576: true; the input reads as it did. -/
def shelfSameUptoRow : OpenClaim := { program := "ytnpikbpngohimaa", sum := "cbfe9323cfd700ef97cb6c6c87f641c4eabd23b15feed0454f49de5c71bfa851", func := "rainbook/rainbooklaw.ShelfSame", spec := "shelfSame", unfollowed := true, recurses := true, apart := false, narrowed := true }
def ShelfSameUptoSaid : Prop := shelfSameUptoRow.holds Try.pinned (OpenSpec.upto shelfSameSpec)

/-- 'rainbooklaw.ShelfAll', WHERE WHAT IT READS IS OF BULK AT MOST 1048576: true; the input reads as it did. -/
def shelfAllUptoRow : OpenClaim := { program := "ytnpikbpngohimaa", sum := "cbfe9323cfd700ef97cb6c6c87f641c4eabd23b15feed0454f49de5c71bfa851", func := "rainbook/rainbooklaw.ShelfAll", spec := "shelfAll", unfollowed := true, recurses := true, apart := false, narrowed := true }
def ShelfAllUptoSaid : Prop := shelfAllUptoRow.holds Try.pinned (OpenSpec.upto shelfAllSpec)

/-- 'rainbooklaw.QuerySays', WHERE WHAT IT READS IS OF BULK AT MOST 1048576: true; the input reads as it did. -/
def querySaysUptoRow : OpenClaim := { program := "ytnpikbpngohimaa", sum := "cbfe9323cfd700ef97cb6c6c87f641c4eabd23b15feed0454f49de5c71bfa851", func := "rainbook/rainbooklaw.QuerySays", spec := "querySays", unfollowed := true, recurses := true, apart := false, narrowed := true }
def QuerySaysUptoSaid : Prop := querySaysUptoRow.holds Try.pinned (OpenSpec.upto querySaysSpec)

/-- 'rainbooklaw.QueryParts', WHERE WHAT IT READS IS OF BULK AT MOST 1048576: true; the input reads as it did. -/
def queryPartsUptoRow : OpenClaim := { program := "ytnpikbpngohimaa", sum := "cbfe9323cfd700ef97cb6c6c87f641c4eabd23b15feed0454f49de5c71bfa851", func := "rainbook/rainbooklaw.QueryParts", spec := "queryParts", unfollowed := true, recurses := true, apart := false, narrowed := true }
def QueryPartsUptoSaid : Prop := queryPartsUptoRow.holds Try.pinned (OpenSpec.upto queryPartsSpec)

/-- 'rainbooklaw.ShelfLast', WHERE WHAT IT READS IS OF BULK AT MOST 1048576: true; the input reads as it did. -/
def shelfLastUptoRow : OpenClaim := { program := "ytnpikbpngohimaa", sum := "cbfe9323cfd700ef97cb6c6c87f641c4eabd23b15feed0454f49de5c71bfa851", func := "rainbook/rainbooklaw.ShelfLast", spec := "shelfLast", unfollowed := true, recurses := true, apart := false, narrowed := true }
def ShelfLastUptoSaid : Prop := shelfLastUptoRow.holds Try.pinned (OpenSpec.upto shelfLastSpec)

/-- 'rainbooklaw.QueryEach', WHERE WHAT IT READS IS OF BULK AT MOST 1048576: true; the input reads as it did. -/
def queryEachUptoRow : OpenClaim := { program := "ytnpikbpngohimaa", sum := "cbfe9323cfd700ef97cb6c6c87f641c4eabd23b15feed0454f49de5c71bfa851", func := "rainbook/rainbooklaw.QueryEach", spec := "queryEach", unfollowed := true, recurses := true, apart := false, narrowed := true }
def QueryEachUptoSaid : Prop := queryEachUptoRow.holds Try.pinned (OpenSpec.upto queryEachSpec)

end Rows
end Go.Proofs.Ytnpikbpngohimaa
