/-
  No cell of these rows narrows 'for every input' (looked for: loops, veiled, ifaces, maps, wideKeys, modest, calm, conditions, laid).
  DERIVED. THE GIVEN ROWS OF THIS SEAT. 6 by the template 'for every input the law returns true; each argument reads behind the call as it read before'; 0 by the template 'total and deterministic' (their statements: YthfcpnelfcehfaaTotals.lean).
  GIVEN WITH THE SEED: the statements are not yours to turn. If you find one false, say at which input.
  Laid BY PROGRAM, IN A SANDBOX (cutbox-rows.mjs): the forced cells as the released guide's own fill.sh prints them over the translation 8329a6baa4310350… (all of the seat's roots in one cut). By AI agents, Wed Nov 11 2026. No macro, syntax, notation, axiom, sorry.
-/
import Derived.Test.YthfcpnelfcehfaaChecked
import GoSem.Claim
import GoSem.ClaimJoined
import GoSem.ClaimMapViews
import Derived.JoinedTies
import Derived.KernelRfl
namespace Go.Proofs.Ythfcpnelfcehfaa
/- THE CELL 'sum', in the pinned program and in every row, IS THE sha256 OF THE DUMP (.gsa) THAT YthfcpnelfcehfaaProg.lean LOADS. Nothing in Lean hashes anything: it is a label: what it is worth is what the hold of that sum in a sandbox is worth. -/
noncomputable def Try.pinned : Pinned := { name := "ythfcpnelfcehfaa", sum := "8329a6baa431035077f047c0fa3e12a9d3103734fcddc5eb2829b5fe9d762f6c", checked := Try.checked }
namespace Rows
def none {H : Type} : Left H := { results := [], args := [] }

/-- 'rainbooklaw.Names': WHATEVER THE INPUT: true; the input reads as it did. -/
def namesSpec : ChangeSpec := { name := "names", fn := fun _ => fun
  | [] => { results := [.lit (.bool true)], args := [] }
  | _ => none }
def namesRow : OpenClaim := { program := "ythfcpnelfcehfaa", sum := "8329a6baa431035077f047c0fa3e12a9d3103734fcddc5eb2829b5fe9d762f6c", func := "rainbook/rainbooklaw.Names", spec := "names", apart := false }
def NamesSaid : Prop := namesRow.holds Try.pinned (OpenSpec.ofChange namesSpec)

/-- ITS FALSE NEIGHBOUR: 'it returns false'. Refute it at one input. -/
def namesWrong : ChangeSpec := { name := "names", fn := fun _ => fun
  | [] => { results := [.lit (.bool false)], args := [] }
  | _ => none }
def NamesWrongFalsely : Prop := namesRow.holds Try.pinned (OpenSpec.ofChange namesWrong)

/-- 'rainbooklaw.BitsSay': WHATEVER THE INPUT: true; the input reads as it did. -/
def bitsSaySpec : ChangeSpec := { name := "bitsSay", fn := fun _ => fun
  | [d1, d2, d3] => { results := [.lit (.bool true)], args := [d1, d2, d3] }
  | _ => none }
def bitsSayRow : OpenClaim := { program := "ythfcpnelfcehfaa", sum := "8329a6baa431035077f047c0fa3e12a9d3103734fcddc5eb2829b5fe9d762f6c", func := "rainbook/rainbooklaw.BitsSay", spec := "bitsSay", apart := false }
def BitsSaySaid : Prop := bitsSayRow.holds Try.pinned (OpenSpec.ofChange bitsSaySpec)

/-- ITS FALSE NEIGHBOUR: 'it returns false'. Refute it at one input. -/
def bitsSayWrong : ChangeSpec := { name := "bitsSay", fn := fun _ => fun
  | [d1, d2, d3] => { results := [.lit (.bool false)], args := [d1, d2, d3] }
  | _ => none }
def BitsSayWrongFalsely : Prop := bitsSayRow.holds Try.pinned (OpenSpec.ofChange bitsSayWrong)

/-- 'rainbooklaw.BitsBack': WHATEVER THE INPUT: true; the input reads as it did. -/
def bitsBackSpec : ChangeSpec := { name := "bitsBack", fn := fun _ => fun
  | [d1, d2, d3] => { results := [.lit (.bool true)], args := [d1, d2, d3] }
  | _ => none }
def bitsBackRow : OpenClaim := { program := "ythfcpnelfcehfaa", sum := "8329a6baa431035077f047c0fa3e12a9d3103734fcddc5eb2829b5fe9d762f6c", func := "rainbook/rainbooklaw.BitsBack", spec := "bitsBack", apart := false }
def BitsBackSaid : Prop := bitsBackRow.holds Try.pinned (OpenSpec.ofChange bitsBackSpec)

/-- ITS FALSE NEIGHBOUR: 'it returns false'. Refute it at one input. -/
def bitsBackWrong : ChangeSpec := { name := "bitsBack", fn := fun _ => fun
  | [d1, d2, d3] => { results := [.lit (.bool false)], args := [d1, d2, d3] }
  | _ => none }
def BitsBackWrongFalsely : Prop := bitsBackRow.holds Try.pinned (OpenSpec.ofChange bitsBackWrong)

/-- 'rainbooklaw.ZigSays': WHATEVER THE INPUT: true; the input reads as it did. -/
def zigSaysSpec : ChangeSpec := { name := "zigSays", fn := fun _ => fun
  | [d1, d2] => { results := [.lit (.bool true)], args := [d1, d2] }
  | _ => none }
def zigSaysRow : OpenClaim := { program := "ythfcpnelfcehfaa", sum := "8329a6baa431035077f047c0fa3e12a9d3103734fcddc5eb2829b5fe9d762f6c", func := "rainbook/rainbooklaw.ZigSays", spec := "zigSays", apart := false }
def ZigSaysSaid : Prop := zigSaysRow.holds Try.pinned (OpenSpec.ofChange zigSaysSpec)

/-- ITS FALSE NEIGHBOUR: 'it returns false'. Refute it at one input. -/
def zigSaysWrong : ChangeSpec := { name := "zigSays", fn := fun _ => fun
  | [d1, d2] => { results := [.lit (.bool false)], args := [d1, d2] }
  | _ => none }
def ZigSaysWrongFalsely : Prop := zigSaysRow.holds Try.pinned (OpenSpec.ofChange zigSaysWrong)

/-- 'rainbooklaw.ZigBack': WHATEVER THE INPUT: true; the input reads as it did. -/
def zigBackSpec : ChangeSpec := { name := "zigBack", fn := fun _ => fun
  | [d1, d2, d3] => { results := [.lit (.bool true)], args := [d1, d2, d3] }
  | _ => none }
def zigBackRow : OpenClaim := { program := "ythfcpnelfcehfaa", sum := "8329a6baa431035077f047c0fa3e12a9d3103734fcddc5eb2829b5fe9d762f6c", func := "rainbook/rainbooklaw.ZigBack", spec := "zigBack", apart := false }
def ZigBackSaid : Prop := zigBackRow.holds Try.pinned (OpenSpec.ofChange zigBackSpec)

/-- ITS FALSE NEIGHBOUR: 'it returns false'. Refute it at one input. -/
def zigBackWrong : ChangeSpec := { name := "zigBack", fn := fun _ => fun
  | [d1, d2, d3] => { results := [.lit (.bool false)], args := [d1, d2, d3] }
  | _ => none }
def ZigBackWrongFalsely : Prop := zigBackRow.holds Try.pinned (OpenSpec.ofChange zigBackWrong)

/-- 'rainbooklaw.LineSays': WHATEVER THE INPUT: true; the input reads as it did. -/
def lineSaysSpec : ChangeSpec := { name := "lineSays", fn := fun _ => fun
  | [d1, d2, d3] => { results := [.lit (.bool true)], args := [d1, d2, d3] }
  | _ => none }
def lineSaysRow : OpenClaim := { program := "ythfcpnelfcehfaa", sum := "8329a6baa431035077f047c0fa3e12a9d3103734fcddc5eb2829b5fe9d762f6c", func := "rainbook/rainbooklaw.LineSays", spec := "lineSays", apart := false }
def LineSaysSaid : Prop := lineSaysRow.holds Try.pinned (OpenSpec.ofChange lineSaysSpec)

/-- ITS FALSE NEIGHBOUR: 'it returns false'. Refute it at one input. -/
def lineSaysWrong : ChangeSpec := { name := "lineSays", fn := fun _ => fun
  | [d1, d2, d3] => { results := [.lit (.bool false)], args := [d1, d2, d3] }
  | _ => none }
def LineSaysWrongFalsely : Prop := lineSaysRow.holds Try.pinned (OpenSpec.ofChange lineSaysWrong)

/- THE SECOND FORM. 'bulk': how many values and letters a reading holds, each counted each time it is reached (what is shared counts as often as it is met; a slice's spare places count too). A statement '..UptoSaid' is the law's where the arguments, and the package variables that the reading takes, are together of bulk at most 1048576: NARROWER than '..Said'. Prove '..Said' where nothing that the law and all that it calls make is longer than what came in: it says more and counts as full. Else prove '..UptoSaid'. A law counts once. -/
mutual
def uptoBulk {H : Type} : DataW H → Nat
  | .lit (.string bytes) => bytes.length + 1
  | .lit _ => 1
  | .nil => 1
  | .ptr d => uptoBulk d + 1
  | .slice elems spare => uptoBulkAll elems + uptoBulkAll spare + 1
  | .agg parts => uptoBulkAll parts + 1
  | .iface _ d => uptoBulk d + 1
  | .map entries => uptoBulkEntries entries + 1
  | .held _ => 1
def uptoBulkAll {H : Type} : List (DataW H) → Nat
  | [] => 0
  | d :: r => uptoBulk d + uptoBulkAll r
def uptoBulkEntries {H : Type} : List (Lit × DataW H) → Nat
  | [] => 0
  | x :: r => uptoBulkEntry x + uptoBulkEntries r
def uptoBulkEntry {H : Type} : Lit × DataW H → Nat
  | (.string bytes, d) => bytes.length + uptoBulk d + 1
  | (_, d) => uptoBulk d + 1
 end
def uptoSmall : (H : Type) → List (DataW H) → Bool := fun _ ds => decide (uptoBulkAll ds ≤ 1048576)
def OpenSpec.upto (s : _root_.Go.ChangeSpec) : _root_.Go.OpenSpec := { _root_.Go.OpenSpec.ofChange s with cond := some uptoSmall }

/-- 'rainbooklaw.Names', WHERE WHAT IT READS IS OF BULK AT MOST 1048576: true; the input reads as it did. -/
def namesUptoRow : OpenClaim := { program := "ythfcpnelfcehfaa", sum := "8329a6baa431035077f047c0fa3e12a9d3103734fcddc5eb2829b5fe9d762f6c", func := "rainbook/rainbooklaw.Names", spec := "names", apart := false, narrowed := true }
def NamesUptoSaid : Prop := namesUptoRow.holds Try.pinned (OpenSpec.upto namesSpec)

/-- 'rainbooklaw.BitsSay', WHERE WHAT IT READS IS OF BULK AT MOST 1048576: true; the input reads as it did. -/
def bitsSayUptoRow : OpenClaim := { program := "ythfcpnelfcehfaa", sum := "8329a6baa431035077f047c0fa3e12a9d3103734fcddc5eb2829b5fe9d762f6c", func := "rainbook/rainbooklaw.BitsSay", spec := "bitsSay", apart := false, narrowed := true }
def BitsSayUptoSaid : Prop := bitsSayUptoRow.holds Try.pinned (OpenSpec.upto bitsSaySpec)

/-- 'rainbooklaw.BitsBack', WHERE WHAT IT READS IS OF BULK AT MOST 1048576: true; the input reads as it did. -/
def bitsBackUptoRow : OpenClaim := { program := "ythfcpnelfcehfaa", sum := "8329a6baa431035077f047c0fa3e12a9d3103734fcddc5eb2829b5fe9d762f6c", func := "rainbook/rainbooklaw.BitsBack", spec := "bitsBack", apart := false, narrowed := true }
def BitsBackUptoSaid : Prop := bitsBackUptoRow.holds Try.pinned (OpenSpec.upto bitsBackSpec)

/-- 'rainbooklaw.ZigSays', WHERE WHAT IT READS IS OF BULK AT MOST 1048576: true; the input reads as it did. -/
def zigSaysUptoRow : OpenClaim := { program := "ythfcpnelfcehfaa", sum := "8329a6baa431035077f047c0fa3e12a9d3103734fcddc5eb2829b5fe9d762f6c", func := "rainbook/rainbooklaw.ZigSays", spec := "zigSays", apart := false, narrowed := true }
def ZigSaysUptoSaid : Prop := zigSaysUptoRow.holds Try.pinned (OpenSpec.upto zigSaysSpec)

/-- 'rainbooklaw.ZigBack', WHERE WHAT IT READS IS OF BULK AT MOST 1048576: true; the input reads as it did. -/
def zigBackUptoRow : OpenClaim := { program := "ythfcpnelfcehfaa", sum := "8329a6baa431035077f047c0fa3e12a9d3103734fcddc5eb2829b5fe9d762f6c", func := "rainbook/rainbooklaw.ZigBack", spec := "zigBack", apart := false, narrowed := true }
def ZigBackUptoSaid : Prop := zigBackUptoRow.holds Try.pinned (OpenSpec.upto zigBackSpec)

/-- 'rainbooklaw.LineSays', WHERE WHAT IT READS IS OF BULK AT MOST 1048576: true; the input reads as it did. -/
def lineSaysUptoRow : OpenClaim := { program := "ythfcpnelfcehfaa", sum := "8329a6baa431035077f047c0fa3e12a9d3103734fcddc5eb2829b5fe9d762f6c", func := "rainbook/rainbooklaw.LineSays", spec := "lineSays", apart := false, narrowed := true }
def LineSaysUptoSaid : Prop := lineSaysUptoRow.holds Try.pinned (OpenSpec.upto lineSaysSpec)

end Rows
end Go.Proofs.Ythfcpnelfcehfaa
