/-
  No cell of these rows narrows 'for every input' (looked for: loops, veiled, ifaces, maps, wideKeys, modest, calm, conditions, laid).
  DERIVED. THE GIVEN ROWS OF THIS SEAT. 5 by the template 'for every input the law returns true; each argument reads behind the call as it read before'; 0 by the template 'total and deterministic' (their statements: YthlcbhbjngcnkaaTotals.lean).
  GIVEN WITH THE SEED: the statements are not yours to turn. If you find one false, say at which input.
  Laid BY PROGRAM, IN A SANDBOX (cutbox-rows.mjs): the forced cells as the released guide's own fill.sh prints them over the translation d0468fd4b75279b8… (all of the seat's roots in one cut). By AI agents, Wed Nov 11 2026. No macro, syntax, notation, axiom, sorry.
-/
import Derived.Test.YthlcbhbjngcnkaaChecked
import GoSem.Claim
import GoSem.ClaimJoined
import GoSem.ClaimMapViews
import Derived.JoinedTies
import Derived.KernelRfl
namespace Go.Proofs.Ythlcbhbjngcnkaa
/- THE CELL 'sum', in the pinned program and in every row, IS THE sha256 OF THE DUMP (.gsa) THAT YthlcbhbjngcnkaaProg.lean LOADS. Nothing in Lean hashes anything: it is a label: what it is worth is what the hold of that sum in a sandbox is worth. -/
noncomputable def Try.pinned : Pinned := { name := "ythlcbhbjngcnkaa", sum := "d0468fd4b75279b838eb1f1ce80ff15d934456afc9976a5829e6e9c7748cb2f4", checked := Try.checked }
namespace Rows
def none {H : Type} : Left H := { results := [], args := [] }

/-- 'weirlaw.MostSays': WHATEVER THE INPUT: true; the input reads as it did. -/
def mostSaysSpec : ChangeSpec := { name := "mostSays", fn := fun _ => fun
  | [d1, d2] => { results := [.lit (.bool true)], args := [d1, d2] }
  | _ => none }
def mostSaysRow : OpenClaim := { program := "ythlcbhbjngcnkaa", sum := "d0468fd4b75279b838eb1f1ce80ff15d934456afc9976a5829e6e9c7748cb2f4", func := "weirmaster/weirlaw.MostSays", spec := "mostSays", apart := false }
def MostSaysSaid : Prop := mostSaysRow.holds Try.pinned (OpenSpec.ofChange mostSaysSpec)

/-- ITS FALSE NEIGHBOUR: 'it returns false'. Refute it at one input. -/
def mostSaysWrong : ChangeSpec := { name := "mostSays", fn := fun _ => fun
  | [d1, d2] => { results := [.lit (.bool false)], args := [d1, d2] }
  | _ => none }
def MostSaysWrongFalsely : Prop := mostSaysRow.holds Try.pinned (OpenSpec.ofChange mostSaysWrong)

/-- 'weirkeep.MostGrows': WHATEVER THE INPUT: true; the input reads as it did. -/
def mostGrowsSpec : ChangeSpec := { name := "mostGrows", fn := fun _ => fun
  | [d1, d2, d3] => { results := [.lit (.bool true)], args := [d1, d2, d3] }
  | _ => none }
def mostGrowsRow : OpenClaim := { program := "ythlcbhbjngcnkaa", sum := "d0468fd4b75279b838eb1f1ce80ff15d934456afc9976a5829e6e9c7748cb2f4", func := "weirmaster/weirkeep.MostGrows", spec := "mostGrows", apart := false }
def MostGrowsSaid : Prop := mostGrowsRow.holds Try.pinned (OpenSpec.ofChange mostGrowsSpec)

/-- ITS FALSE NEIGHBOUR: 'it returns false'. Refute it at one input. -/
def mostGrowsWrong : ChangeSpec := { name := "mostGrows", fn := fun _ => fun
  | [d1, d2, d3] => { results := [.lit (.bool false)], args := [d1, d2, d3] }
  | _ => none }
def MostGrowsWrongFalsely : Prop := mostGrowsRow.holds Try.pinned (OpenSpec.ofChange mostGrowsWrong)

/-- 'weirkeep.MostTurned': WHATEVER THE INPUT: true; the input reads as it did. -/
def mostTurnedSpec : ChangeSpec := { name := "mostTurned", fn := fun _ => fun
  | [d] => { results := [.lit (.bool true)], args := [d] }
  | _ => none }
def mostTurnedRow : OpenClaim := { program := "ythlcbhbjngcnkaa", sum := "d0468fd4b75279b838eb1f1ce80ff15d934456afc9976a5829e6e9c7748cb2f4", func := "weirmaster/weirkeep.MostTurned", spec := "mostTurned", apart := false }
def MostTurnedSaid : Prop := mostTurnedRow.holds Try.pinned (OpenSpec.ofChange mostTurnedSpec)

/-- ITS FALSE NEIGHBOUR: 'it returns false'. Refute it at one input. -/
def mostTurnedWrong : ChangeSpec := { name := "mostTurned", fn := fun _ => fun
  | [d] => { results := [.lit (.bool false)], args := [d] }
  | _ => none }
def MostTurnedWrongFalsely : Prop := mostTurnedRow.holds Try.pinned (OpenSpec.ofChange mostTurnedWrong)

/-- 'weirkeep.MostTimes': WHATEVER THE INPUT: true; the input reads as it did. -/
def mostTimesSpec : ChangeSpec := { name := "mostTimes", fn := fun _ => fun
  | [d1, d2, d3] => { results := [.lit (.bool true)], args := [d1, d2, d3] }
  | _ => none }
def mostTimesRow : OpenClaim := { program := "ythlcbhbjngcnkaa", sum := "d0468fd4b75279b838eb1f1ce80ff15d934456afc9976a5829e6e9c7748cb2f4", func := "weirmaster/weirkeep.MostTimes", spec := "mostTimes", apart := false }
def MostTimesSaid : Prop := mostTimesRow.holds Try.pinned (OpenSpec.ofChange mostTimesSpec)

/-- ITS FALSE NEIGHBOUR: 'it returns false'. Refute it at one input. -/
def mostTimesWrong : ChangeSpec := { name := "mostTimes", fn := fun _ => fun
  | [d1, d2, d3] => { results := [.lit (.bool false)], args := [d1, d2, d3] }
  | _ => none }
def MostTimesWrongFalsely : Prop := mostTimesRow.holds Try.pinned (OpenSpec.ofChange mostTimesWrong)

/-- 'weirkeep.FlowOwn': WHATEVER THE INPUT: true; the input reads as it did. -/
def flowOwnSpec : ChangeSpec := { name := "flowOwn", fn := fun _ => fun
  | [d1, d2] => { results := [.lit (.bool true)], args := [d1, d2] }
  | _ => none }
def flowOwnRow : OpenClaim := { program := "ythlcbhbjngcnkaa", sum := "d0468fd4b75279b838eb1f1ce80ff15d934456afc9976a5829e6e9c7748cb2f4", func := "weirmaster/weirkeep.FlowOwn", spec := "flowOwn", apart := false }
def FlowOwnSaid : Prop := flowOwnRow.holds Try.pinned (OpenSpec.ofChange flowOwnSpec)

/-- ITS FALSE NEIGHBOUR: 'it returns false'. Refute it at one input. -/
def flowOwnWrong : ChangeSpec := { name := "flowOwn", fn := fun _ => fun
  | [d1, d2] => { results := [.lit (.bool false)], args := [d1, d2] }
  | _ => none }
def FlowOwnWrongFalsely : Prop := flowOwnRow.holds Try.pinned (OpenSpec.ofChange flowOwnWrong)

/- THE SECOND FORM. 'bulk': how many values and letters a reading holds, each counted each time it is reached (what is shared counts as often as it is met; a slice's spare places count too). A statement '..UptoSaid' is the law's where the arguments, and the package variables that the reading takes, are together of bulk at most 1048576: NARROWER than '..Said'. Prove '..Said' where nothing that the law and all that it calls make is longer than what came in: it says more and counts as full. Else prove '..UptoSaid'. A law counts once. -/
mutual
def uptoBulk {H : Type} : DataW H → Nat
  | .lit (.string bytes) => bytes.length + 1
  | .lit _ => 1
  | .nil => 1
  | .ptr d => uptoBulk d + 1
  | .slice elems spare => uptoBulkAll elems + uptoBulkAll spare + 1
  | .agg parts => uptoBulkAll parts + 1
  | .iface _ d => uptoBulk d + 1
  | .map entries => uptoBulkEntries entries + 1
  | .held _ => 1
def uptoBulkAll {H : Type} : List (DataW H) → Nat
  | [] => 0
  | d :: r => uptoBulk d + uptoBulkAll r
def uptoBulkEntries {H : Type} : List (Lit × DataW H) → Nat
  | [] => 0
  | x :: r => uptoBulkEntry x + uptoBulkEntries r
def uptoBulkEntry {H : Type} : Lit × DataW H → Nat
  | (.string bytes, d) => bytes.length + uptoBulk d + 1
  | (_, d) => uptoBulk d + 1
 end
def uptoSmall : (H : Type) → List (DataW H) → Bool := fun _ ds => decide (uptoBulkAll ds ≤ 1048576)
def OpenSpec.upto (s : _root_.Go.ChangeSpec) : _root_.Go.OpenSpec := { _root_.Go.OpenSpec.ofChange s with cond := some uptoSmall }

/-- 'weirlaw.MostSays', WHERE WHAT IT READS IS OF BULK AT MOST 1048576: true; the input reads as it did. -/
def mostSaysUptoRow : OpenClaim := { program := "ythlcbhbjngcnkaa", sum := "d0468fd4b75279b838eb1f1ce80ff15d934456afc9976a5829e6e9c7748cb2f4", func := "weirmaster/weirlaw.MostSays", spec := "mostSays", apart := false, narrowed := true }
def MostSaysUptoSaid : Prop := mostSaysUptoRow.holds Try.pinned (OpenSpec.upto mostSaysSpec)

/-- 'weirkeep.MostGrows', WHERE WHAT IT READS IS OF BULK AT MOST 1048576: true; the input reads as it did. -/
def mostGrowsUptoRow : OpenClaim := { program := "ythlcbhbjngcnkaa", sum := "d0468fd4b75279b838eb1f1ce80ff15d934456afc9976a5829e6e9c7748cb2f4", func := "weirmaster/weirkeep.MostGrows", spec := "mostGrows", apart := false, narrowed := true }
def MostGrowsUptoSaid : Prop := mostGrowsUptoRow.holds Try.pinned (OpenSpec.upto mostGrowsSpec)

/-- 'weirkeep.MostTurned', WHERE WHAT IT READS IS OF BULK AT MOST 1048576: true; the input reads as it did. -/
def mostTurnedUptoRow : OpenClaim := { program := "ythlcbhbjngcnkaa", sum := "d0468fd4b75279b838eb1f1ce80ff15d934456afc9976a5829e6e9c7748cb2f4", func := "weirmaster/weirkeep.MostTurned", spec := "mostTurned", apart := false, narrowed := true }
def MostTurnedUptoSaid : Prop := mostTurnedUptoRow.holds Try.pinned (OpenSpec.upto mostTurnedSpec)

/-- 'weirkeep.MostTimes', WHERE WHAT IT READS IS OF BULK AT MOST 1048576: true; the input reads as it did. -/
def mostTimesUptoRow : OpenClaim := { program := "ythlcbhbjngcnkaa", sum := "d0468fd4b75279b838eb1f1ce80ff15d934456afc9976a5829e6e9c7748cb2f4", func := "weirmaster/weirkeep.MostTimes", spec := "mostTimes", apart := false, narrowed := true }
def MostTimesUptoSaid : Prop := mostTimesUptoRow.holds Try.pinned (OpenSpec.upto mostTimesSpec)

/-- 'weirkeep.FlowOwn', WHERE WHAT IT READS IS OF BULK AT MOST 1048576: true; the input reads as it did. -/
def flowOwnUptoRow : OpenClaim := { program := "ythlcbhbjngcnkaa", sum := "d0468fd4b75279b838eb1f1ce80ff15d934456afc9976a5829e6e9c7748cb2f4", func := "weirmaster/weirkeep.FlowOwn", spec := "flowOwn", apart := false, narrowed := true }
def FlowOwnUptoSaid : Prop := flowOwnUptoRow.holds Try.pinned (OpenSpec.upto flowOwnSpec)

end Rows
end Go.Proofs.Ythlcbhbjngcnkaa
