/-
  No cell of these rows narrows 'for every input' (looked for: loops, veiled, ifaces, maps, wideKeys, modest, calm, conditions, laid).
  DERIVED. THE GIVEN ROWS OF THIS SEAT. 5 by the template 'for every input the law returns true; each argument reads behind the call as it read before'; 0 by the template 'total and deterministic' (their statements: YtmneajmfoljflaaTotals.lean).
  GIVEN WITH THE SEED: the statements are not yours to turn. If you find one false, say at which input.
  Laid BY PROGRAM, IN A SANDBOX (cutbox-rows.mjs): the forced cells as the released guide's own fill.sh prints them over the translation 6b6c5b571639d1ad… (all of the seat's roots in one cut). By AI agents, Wed Nov 11 2026. No macro, syntax, notation, axiom, sorry.
-/
import Derived.Test.YtmneajmfoljflaaChecked
import GoSem.Claim
import GoSem.ClaimJoined
import GoSem.ClaimMapViews
import Derived.JoinedTies
import Derived.KernelRfl
namespace Go.Proofs.Ytmneajmfoljflaa
/- THE CELL 'sum', in the pinned program and in every row, IS THE sha256 OF THE DUMP (.gsa) THAT YtmneajmfoljflaaProg.lean LOADS. Nothing in Lean hashes anything: it is a label: what it is worth is what the hold of that sum in a sandbox is worth. -/
noncomputable def Try.pinned : Pinned := { name := "ytmneajmfoljflaa", sum := "6b6c5b571639d1ad9218fd605b65563c88bed3c94fe5772329f3edabac950d86", checked := Try.checked }
namespace Rows
def none {H : Type} : Left H := { results := [], args := [] }

/-- 'weirlaw.NeedSays': WHATEVER THE INPUT: true; the input reads as it did. -/
def needSaysSpec : ChangeSpec := { name := "needSays", fn := fun _ => fun
  | [d1, d2] => { results := [.lit (.bool true)], args := [d1, d2] }
  | _ => none }
def needSaysRow : OpenClaim := { program := "ytmneajmfoljflaa", sum := "6b6c5b571639d1ad9218fd605b65563c88bed3c94fe5772329f3edabac950d86", func := "weirmaster/weirlaw.NeedSays", spec := "needSays", unfollowed := true, recurses := true, apart := false }
def NeedSaysSaid : Prop := needSaysRow.holds Try.pinned (OpenSpec.ofChange needSaysSpec)

/-- ITS FALSE NEIGHBOUR: 'it returns false'. Refute it at one input. -/
def needSaysWrong : ChangeSpec := { name := "needSays", fn := fun _ => fun
  | [d1, d2] => { results := [.lit (.bool false)], args := [d1, d2] }
  | _ => none }
def NeedSaysWrongFalsely : Prop := needSaysRow.holds Try.pinned (OpenSpec.ofChange needSaysWrong)

/-- 'weirkeep.NeedSets': WHATEVER THE INPUT: true; the input reads as it did. -/
def needSetsSpec : ChangeSpec := { name := "needSets", fn := fun _ => fun
  | [d1, d2, d3] => { results := [.lit (.bool true)], args := [d1, d2, d3] }
  | _ => none }
def needSetsRow : OpenClaim := { program := "ytmneajmfoljflaa", sum := "6b6c5b571639d1ad9218fd605b65563c88bed3c94fe5772329f3edabac950d86", func := "weirmaster/weirkeep.NeedSets", spec := "needSets", apart := false }
def NeedSetsSaid : Prop := needSetsRow.holds Try.pinned (OpenSpec.ofChange needSetsSpec)

/-- ITS FALSE NEIGHBOUR: 'it returns false'. Refute it at one input. -/
def needSetsWrong : ChangeSpec := { name := "needSets", fn := fun _ => fun
  | [d1, d2, d3] => { results := [.lit (.bool false)], args := [d1, d2, d3] }
  | _ => none }
def NeedSetsWrongFalsely : Prop := needSetsRow.holds Try.pinned (OpenSpec.ofChange needSetsWrong)

/-- 'weirkeep.NeedLess': WHATEVER THE INPUT: true; the input reads as it did. -/
def needLessSpec : ChangeSpec := { name := "needLess", fn := fun _ => fun
  | [d1, d2, d3, d4, d5] => { results := [.lit (.bool true)], args := [d1, d2, d3, d4, d5] }
  | _ => none }
def needLessRow : OpenClaim := { program := "ytmneajmfoljflaa", sum := "6b6c5b571639d1ad9218fd605b65563c88bed3c94fe5772329f3edabac950d86", func := "weirmaster/weirkeep.NeedLess", spec := "needLess", apart := false }
def NeedLessSaid : Prop := needLessRow.holds Try.pinned (OpenSpec.ofChange needLessSpec)

/-- ITS FALSE NEIGHBOUR: 'it returns false'. Refute it at one input. -/
def needLessWrong : ChangeSpec := { name := "needLess", fn := fun _ => fun
  | [d1, d2, d3, d4, d5] => { results := [.lit (.bool false)], args := [d1, d2, d3, d4, d5] }
  | _ => none }
def NeedLessWrongFalsely : Prop := needLessRow.holds Try.pinned (OpenSpec.ofChange needLessWrong)

/-- 'weirkeep.NeedFlow': WHATEVER THE INPUT: true; the input reads as it did. -/
def needFlowSpec : ChangeSpec := { name := "needFlow", fn := fun _ => fun
  | [d1, d2] => { results := [.lit (.bool true)], args := [d1, d2] }
  | _ => none }
def needFlowRow : OpenClaim := { program := "ytmneajmfoljflaa", sum := "6b6c5b571639d1ad9218fd605b65563c88bed3c94fe5772329f3edabac950d86", func := "weirmaster/weirkeep.NeedFlow", spec := "needFlow", apart := false }
def NeedFlowSaid : Prop := needFlowRow.holds Try.pinned (OpenSpec.ofChange needFlowSpec)

/-- ITS FALSE NEIGHBOUR: 'it returns false'. Refute it at one input. -/
def needFlowWrong : ChangeSpec := { name := "needFlow", fn := fun _ => fun
  | [d1, d2] => { results := [.lit (.bool false)], args := [d1, d2] }
  | _ => none }
def NeedFlowWrongFalsely : Prop := needFlowRow.holds Try.pinned (OpenSpec.ofChange needFlowWrong)

/-- 'weirtop.TopRound': WHATEVER THE INPUT: true; the input reads as it did. -/
def topRoundSpec : ChangeSpec := { name := "topRound", fn := fun _ => fun
  | [d] => { results := [.lit (.bool true)], args := [d] }
  | _ => none }
def topRoundRow : OpenClaim := { program := "ytmneajmfoljflaa", sum := "6b6c5b571639d1ad9218fd605b65563c88bed3c94fe5772329f3edabac950d86", func := "weirmaster/weirtop.TopRound", spec := "topRound", apart := false }
def TopRoundSaid : Prop := topRoundRow.holds Try.pinned (OpenSpec.ofChange topRoundSpec)

/-- ITS FALSE NEIGHBOUR: 'it returns false'. Refute it at one input. -/
def topRoundWrong : ChangeSpec := { name := "topRound", fn := fun _ => fun
  | [d] => { results := [.lit (.bool false)], args := [d] }
  | _ => none }
def TopRoundWrongFalsely : Prop := topRoundRow.holds Try.pinned (OpenSpec.ofChange topRoundWrong)

/- THE SECOND FORM. 'bulk': how many values and letters a reading holds, each counted each time it is reached (what is shared counts as often as it is met; a slice's spare places count too). A statement '..UptoSaid' is the law's where the arguments, and the package variables that the reading takes, are together of bulk at most 1048576: NARROWER than '..Said'. Prove '..Said' where nothing that the law and all that it calls make is longer than what came in: it says more and counts as full. Else prove '..UptoSaid'. A law counts once. -/
mutual
def uptoBulk {H : Type} : DataW H → Nat
  | .lit (.string bytes) => bytes.length + 1
  | .lit _ => 1
  | .nil => 1
  | .ptr d => uptoBulk d + 1
  | .slice elems spare => uptoBulkAll elems + uptoBulkAll spare + 1
  | .agg parts => uptoBulkAll parts + 1
  | .iface _ d => uptoBulk d + 1
  | .map entries => uptoBulkEntries entries + 1
  | .held _ => 1
def uptoBulkAll {H : Type} : List (DataW H) → Nat
  | [] => 0
  | d :: r => uptoBulk d + uptoBulkAll r
def uptoBulkEntries {H : Type} : List (Lit × DataW H) → Nat
  | [] => 0
  | x :: r => uptoBulkEntry x + uptoBulkEntries r
def uptoBulkEntry {H : Type} : Lit × DataW H → Nat
  | (.string bytes, d) => bytes.length + uptoBulk d + 1
  | (_, d) => uptoBulk d + 1
 end
def uptoSmall : (H : Type) → List (DataW H) → Bool := fun _ ds => decide (uptoBulkAll ds ≤ 1048576)
def OpenSpec.upto (s : _root_.Go.ChangeSpec) : _root_.Go.OpenSpec := { _root_.Go.OpenSpec.ofChange s with cond := some uptoSmall }

/-- 'weirlaw.NeedSays', WHERE WHAT IT READS IS OF BULK AT MOST 1048576: true; the input reads as it did. -/
def needSaysUptoRow : OpenClaim := { program := "ytmneajmfoljflaa", sum := "6b6c5b571639d1ad9218fd605b65563c88bed3c94fe5772329f3edabac950d86", func := "weirmaster/weirlaw.NeedSays", spec := "needSays", unfollowed := true, recurses := true, apart := false, narrowed := true }
def NeedSaysUptoSaid : Prop := needSaysUptoRow.holds Try.pinned (OpenSpec.upto needSaysSpec)

/-- 'weirkeep.NeedSets', WHERE WHAT IT READS IS OF BULK AT MOST 1048576: true; the input reads as it did. -/
def needSetsUptoRow : OpenClaim := { program := "ytmneajmfoljflaa", sum := "6b6c5b571639d1ad9218fd605b65563c88bed3c94fe5772329f3edabac950d86", func := "weirmaster/weirkeep.NeedSets", spec := "needSets", apart := false, narrowed := true }
def NeedSetsUptoSaid : Prop := needSetsUptoRow.holds Try.pinned (OpenSpec.upto needSetsSpec)

/-- 'weirkeep.NeedLess', WHERE WHAT IT READS IS OF BULK AT MOST 1048576: true; the input reads as it did. -/
def needLessUptoRow : OpenClaim := { program := "ytmneajmfoljflaa", sum := "6b6c5b571639d1ad9218fd605b65563c88bed3c94fe5772329f3edabac950d86", func := "weirmaster/weirkeep.NeedLess", spec := "needLess", apart := false, narrowed := true }
def NeedLessUptoSaid : Prop := needLessUptoRow.holds Try.pinned (OpenSpec.upto needLessSpec)

/-- 'weirkeep.NeedFlow', WHERE WHAT IT READS IS OF BULK AT MOST 1048576: true; the input reads as it did. -/
def needFlowUptoRow : OpenClaim := { program := "ytmneajmfoljflaa", sum := "6b6c5b571639d1ad9218fd605b65563c88bed3c94fe5772329f3edabac950d86", func := "weirmaster/weirkeep.NeedFlow", spec := "needFlow", apart := false, narrowed := true }
def NeedFlowUptoSaid : Prop := needFlowUptoRow.holds Try.pinned (OpenSpec.upto needFlowSpec)

/-- 'weirtop.TopRound', WHERE WHAT IT READS IS OF BULK AT MOST 1048576: true; the input reads as it did. -/
def topRoundUptoRow : OpenClaim := { program := "ytmneajmfoljflaa", sum := "6b6c5b571639d1ad9218fd605b65563c88bed3c94fe5772329f3edabac950d86", func := "weirmaster/weirtop.TopRound", spec := "topRound", apart := false, narrowed := true }
def TopRoundUptoSaid : Prop := topRoundUptoRow.holds Try.pinned (OpenSpec.upto topRoundSpec)

end Rows
end Go.Proofs.Ytmneajmfoljflaa
