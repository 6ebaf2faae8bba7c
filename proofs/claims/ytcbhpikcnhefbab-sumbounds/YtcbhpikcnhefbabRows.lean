/-
  No cell of these rows narrows 'for every input' (looked for: loops, veiled, ifaces, maps, wideKeys, modest, calm, conditions, laid).
  DERIVED. THE GIVEN ROWS OF THIS SEAT. 6 by the template 'for every input the law returns true; each argument reads behind the call as it read before'; 0 by the template 'total and deterministic' (their statements: YtcbhpikcnhefbabTotals.lean).
  GIVEN WITH THE SEED: the statements are not yours to turn. If you find one false, say at which input.
  Laid BY PROGRAM, IN A SANDBOX (cutbox-rows.mjs): the forced cells as the released guide's own fill.sh prints them over the translation 451b9a5112c76ce4… (all of the seat's roots in one cut). By AI agents, Wed Nov 11 2026. No macro, syntax, notation, axiom, sorry.
-/
import Derived.Test.YtcbhpikcnhefbabChecked
import GoSem.Claim
import GoSem.ClaimJoined
import GoSem.ClaimMapViews
import Derived.JoinedTies
import Derived.KernelRfl
namespace Go.Proofs.Ytcbhpikcnhefbab
/- THE CELL 'sum', in the pinned program and in every row, IS THE sha256 OF THE DUMP (.gsa) THAT YtcbhpikcnhefbabProg.lean LOADS. Nothing in Lean hashes anything: it is a label: what it is worth is what the hold of that sum in a sandbox is worth. -/
noncomputable def Try.pinned : Pinned := { name := "ytcbhpikcnhefbab", sum := "451b9a5112c76ce4b375bffe9792ff6125caa57d265211638e0cc56435f34be5", checked := Try.checked }
namespace Rows
def none {H : Type} : Left H := { results := [], args := [] }

/-- 'rainbooklaw.LineBack': WHATEVER THE INPUT: true; the input reads as it did. -/
def lineBackSpec : ChangeSpec := { name := "lineBack", fn := fun _ => fun
  | [d1, d2, d3] => { results := [.lit (.bool true)], args := [d1, d2, d3] }
  | _ => none }
def lineBackRow : OpenClaim := { program := "ytcbhpikcnhefbab", sum := "451b9a5112c76ce4b375bffe9792ff6125caa57d265211638e0cc56435f34be5", func := "rainbook/rainbooklaw.LineBack", spec := "lineBack", apart := false }
def LineBackSaid : Prop := lineBackRow.holds Try.pinned (OpenSpec.ofChange lineBackSpec)

/-- ITS FALSE NEIGHBOUR: 'it returns false'. Refute it at one input. -/
def lineBackWrong : ChangeSpec := { name := "lineBack", fn := fun _ => fun
  | [d1, d2, d3] => { results := [.lit (.bool false)], args := [d1, d2, d3] }
  | _ => none }
def LineBackWrongFalsely : Prop := lineBackRow.holds Try.pinned (OpenSpec.ofChange lineBackWrong)

/-- 'rainbooklaw.LineSteady': WHATEVER THE INPUT: true; the input reads as it did. -/
def lineSteadySpec : ChangeSpec := { name := "lineSteady", fn := fun _ => fun
  | [d1, d2, d3, d4] => { results := [.lit (.bool true)], args := [d1, d2, d3, d4] }
  | _ => none }
def lineSteadyRow : OpenClaim := { program := "ytcbhpikcnhefbab", sum := "451b9a5112c76ce4b375bffe9792ff6125caa57d265211638e0cc56435f34be5", func := "rainbook/rainbooklaw.LineSteady", spec := "lineSteady", apart := false }
def LineSteadySaid : Prop := lineSteadyRow.holds Try.pinned (OpenSpec.ofChange lineSteadySpec)

/-- ITS FALSE NEIGHBOUR: 'it returns false'. Refute it at one input. -/
def lineSteadyWrong : ChangeSpec := { name := "lineSteady", fn := fun _ => fun
  | [d1, d2, d3, d4] => { results := [.lit (.bool false)], args := [d1, d2, d3, d4] }
  | _ => none }
def LineSteadyWrongFalsely : Prop := lineSteadyRow.holds Try.pinned (OpenSpec.ofChange lineSteadyWrong)

/-- 'rainbooklaw.LineBegins': WHATEVER THE INPUT: true; the input reads as it did. -/
def lineBeginsSpec : ChangeSpec := { name := "lineBegins", fn := fun _ => fun
  | [d1, d2] => { results := [.lit (.bool true)], args := [d1, d2] }
  | _ => none }
def lineBeginsRow : OpenClaim := { program := "ytcbhpikcnhefbab", sum := "451b9a5112c76ce4b375bffe9792ff6125caa57d265211638e0cc56435f34be5", func := "rainbook/rainbooklaw.LineBegins", spec := "lineBegins", apart := false }
def LineBeginsSaid : Prop := lineBeginsRow.holds Try.pinned (OpenSpec.ofChange lineBeginsSpec)

/-- ITS FALSE NEIGHBOUR: 'it returns false'. Refute it at one input. -/
def lineBeginsWrong : ChangeSpec := { name := "lineBegins", fn := fun _ => fun
  | [d1, d2] => { results := [.lit (.bool false)], args := [d1, d2] }
  | _ => none }
def LineBeginsWrongFalsely : Prop := lineBeginsRow.holds Try.pinned (OpenSpec.ofChange lineBeginsWrong)

/-- 'rainbooklaw.SumSays': WHATEVER THE INPUT: true; the input reads as it did. -/
def sumSaysSpec : ChangeSpec := { name := "sumSays", fn := fun _ => fun
  | [d1, d2, d3] => { results := [.lit (.bool true)], args := [d1, d2, d3] }
  | _ => none }
def sumSaysRow : OpenClaim := { program := "ytcbhpikcnhefbab", sum := "451b9a5112c76ce4b375bffe9792ff6125caa57d265211638e0cc56435f34be5", func := "rainbook/rainbooklaw.SumSays", spec := "sumSays", apart := false }
def SumSaysSaid : Prop := sumSaysRow.holds Try.pinned (OpenSpec.ofChange sumSaysSpec)

/-- ITS FALSE NEIGHBOUR: 'it returns false'. Refute it at one input. -/
def sumSaysWrong : ChangeSpec := { name := "sumSays", fn := fun _ => fun
  | [d1, d2, d3] => { results := [.lit (.bool false)], args := [d1, d2, d3] }
  | _ => none }
def SumSaysWrongFalsely : Prop := sumSaysRow.holds Try.pinned (OpenSpec.ofChange sumSaysWrong)

/-- 'rainbooklaw.SumParts': WHATEVER THE INPUT: true; the input reads as it did. -/
def sumPartsSpec : ChangeSpec := { name := "sumParts", fn := fun _ => fun
  | [d1, d2, d3] => { results := [.lit (.bool true)], args := [d1, d2, d3] }
  | _ => none }
def sumPartsRow : OpenClaim := { program := "ytcbhpikcnhefbab", sum := "451b9a5112c76ce4b375bffe9792ff6125caa57d265211638e0cc56435f34be5", func := "rainbook/rainbooklaw.SumParts", spec := "sumParts", apart := false }
def SumPartsSaid : Prop := sumPartsRow.holds Try.pinned (OpenSpec.ofChange sumPartsSpec)

/-- ITS FALSE NEIGHBOUR: 'it returns false'. Refute it at one input. -/
def sumPartsWrong : ChangeSpec := { name := "sumParts", fn := fun _ => fun
  | [d1, d2, d3] => { results := [.lit (.bool false)], args := [d1, d2, d3] }
  | _ => none }
def SumPartsWrongFalsely : Prop := sumPartsRow.holds Try.pinned (OpenSpec.ofChange sumPartsWrong)

/-- 'rainbooklaw.SumBounds': WHATEVER THE INPUT: true; the input reads as it did. -/
def sumBoundsSpec : ChangeSpec := { name := "sumBounds", fn := fun _ => fun
  | [d] => { results := [.lit (.bool true)], args := [d] }
  | _ => none }
def sumBoundsRow : OpenClaim := { program := "ytcbhpikcnhefbab", sum := "451b9a5112c76ce4b375bffe9792ff6125caa57d265211638e0cc56435f34be5", func := "rainbook/rainbooklaw.SumBounds", spec := "sumBounds", apart := false }
def SumBoundsSaid : Prop := sumBoundsRow.holds Try.pinned (OpenSpec.ofChange sumBoundsSpec)

/-- ITS FALSE NEIGHBOUR: 'it returns false'. Refute it at one input. -/
def sumBoundsWrong : ChangeSpec := { name := "sumBounds", fn := fun _ => fun
  | [d] => { results := [.lit (.bool false)], args := [d] }
  | _ => none }
def SumBoundsWrongFalsely : Prop := sumBoundsRow.holds Try.pinned (OpenSpec.ofChange sumBoundsWrong)

/- THE SECOND FORM. 'bulk': how many values and letters a reading holds, each counted each time it is reached (what is shared counts as often as it is met; a slice's spare places count too). A statement '..UptoSaid' is the law's where the arguments, and the package variables that the reading takes, are together of bulk at most 1048576: NARROWER than '..Said'. Prove '..Said' where nothing that the law and all that it calls make is longer than what came in: it says more and counts as full. Else prove '..UptoSaid'. A law counts once. -/
mutual
def uptoBulk {H : Type} : DataW H → Nat
  | .lit (.string bytes) => bytes.length + 1
  | .lit _ => 1
  | .nil => 1
  | .ptr d => uptoBulk d + 1
  | .slice elems spare => uptoBulkAll elems + uptoBulkAll spare + 1
  | .agg parts => uptoBulkAll parts + 1
  | .iface _ d => uptoBulk d + 1
  | .map entries => uptoBulkEntries entries + 1
  | .held _ => 1
def uptoBulkAll {H : Type} : List (DataW H) → Nat
  | [] => 0
  | d :: r => uptoBulk d + uptoBulkAll r
def uptoBulkEntries {H : Type} : List (Lit × DataW H) → Nat
  | [] => 0
  | x :: r => uptoBulkEntry x + uptoBulkEntries r
def uptoBulkEntry {H : Type} : Lit × DataW H → Nat
  | (.string bytes, d) => bytes.length + uptoBulk d + 1
  | (_, d) => uptoBulk d + 1
 end
def uptoSmall : (H : Type) → List (DataW H) → Bool := fun _ ds => decide (uptoBulkAll ds ≤ 1048576)
def OpenSpec.upto (s : _root_.Go.ChangeSpec) : _root_.Go.OpenSpec := { _root_.Go.OpenSpec.ofChange s with cond := some uptoSmall }

/-- 'rainbooklaw.LineBack', WHERE WHAT IT READS IS OF BULK AT MOST 1048576: true; the input reads as it did. -/
def lineBackUptoRow : OpenClaim := { program := "ytcbhpikcnhefbab", sum := "451b9a5112c76ce4b375bffe9792ff6125caa57d265211638e0cc56435f34be5", func := "rainbook/rainbooklaw.LineBack", spec := "lineBack", apart := false, narrowed := true }
def LineBackUptoSaid : Prop := lineBackUptoRow.holds Try.pinned (OpenSpec.upto lineBackSpec)

/-- 'rainbooklaw.LineSteady', WHERE WHAT IT READS IS OF BULK AT MOST 1048576: true; the input reads as it did. -/
def lineSteadyUptoRow : OpenClaim := { program := "ytcbhpikcnhefbab", sum := "451b9a5112c76ce4b375bffe9792ff6125caa57d265211638e0cc56435f34be5", func := "rainbook/rainbooklaw.LineSteady", spec := "lineSteady", apart := false, narrowed := true }
def LineSteadyUptoSaid : Prop := lineSteadyUptoRow.holds Try.pinned (OpenSpec.upto lineSteadySpec)

/-- 'rainbooklaw.LineBegins', WHERE WHAT IT READS IS OF BULK AT MOST 1048576: true; the input reads as it did. -/
def lineBeginsUptoRow : OpenClaim := { program := "ytcbhpikcnhefbab", sum := "451b9a5112c76ce4b375bffe9792ff6125caa57d265211638e0cc56435f34be5", func := "rainbook/rainbooklaw.LineBegins", spec := "lineBegins", apart := false, narrowed := true }
def LineBeginsUptoSaid : Prop := lineBeginsUptoRow.holds Try.pinned (OpenSpec.upto lineBeginsSpec)

/-- 'rainbooklaw.SumSays', WHERE WHAT IT READS IS OF BULK AT MOST 1048576: true; the input reads as it did. -/
def sumSaysUptoRow : OpenClaim := { program := "ytcbhpikcnhefbab", sum := "451b9a5112c76ce4b375bffe9792ff6125caa57d265211638e0cc56435f34be5", func := "rainbook/rainbooklaw.SumSays", spec := "sumSays", apart := false, narrowed := true }
def SumSaysUptoSaid : Prop := sumSaysUptoRow.holds Try.pinned (OpenSpec.upto sumSaysSpec)

/-- 'rainbooklaw.SumParts', WHERE WHAT IT READS IS OF BULK AT MOST 1048576: true; the input reads as it did. -/
def sumPartsUptoRow : OpenClaim := { program := "ytcbhpikcnhefbab", sum := "451b9a5112c76ce4b375bffe9792ff6125caa57d265211638e0cc56435f34be5", func := "rainbook/rainbooklaw.SumParts", spec := "sumParts", apart := false, narrowed := true }
def SumPartsUptoSaid : Prop := sumPartsUptoRow.holds Try.pinned (OpenSpec.upto sumPartsSpec)

/-- 'rainbooklaw.SumBounds', WHERE WHAT IT READS IS OF BULK AT MOST 1048576: true; the input reads as it did. -/
def sumBoundsUptoRow : OpenClaim := { program := "ytcbhpikcnhefbab", sum := "451b9a5112c76ce4b375bffe9792ff6125caa57d265211638e0cc56435f34be5", func := "rainbook/rainbooklaw.SumBounds", spec := "sumBounds", apart := false, narrowed := true }
def SumBoundsUptoSaid : Prop := sumBoundsUptoRow.holds Try.pinned (OpenSpec.upto sumBoundsSpec)

end Rows
end Go.Proofs.Ytcbhpikcnhefbab
