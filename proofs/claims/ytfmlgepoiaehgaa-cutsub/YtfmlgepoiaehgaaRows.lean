/-
  No cell of these rows narrows 'for every input' (looked for: loops, veiled, ifaces, maps, wideKeys, modest, calm, conditions, laid).
  DERIVED. THE GIVEN ROWS OF THIS SEAT. 5 by the template 'for every input the law returns true; each argument reads behind the call as it read before'; 0 by the template 'total and deterministic' (their statements: YtfmlgepoiaehgaaTotals.lean).
  GIVEN WITH THE SEED: the statements are not yours to turn. If you find one false, say at which input.
  Laid BY PROGRAM, IN A SANDBOX (cutbox-rows.mjs): the forced cells as the released guide's own fill.sh prints them over the translation 2e767c476e0c51e8… (all of the seat's roots in one cut). By AI agents, Wed Nov 11 2026. No macro, syntax, notation, axiom, sorry.
-/
import Derived.Test.YtfmlgepoiaehgaaChecked
import GoSem.Claim
import GoSem.ClaimJoined
import GoSem.ClaimMapViews
import Derived.JoinedTies
import Derived.KernelRfl
namespace Go.Proofs.Ytfmlgepoiaehgaa
/- THE CELL 'sum', in the pinned program and in every row, IS THE sha256 OF THE DUMP (.gsa) THAT YtfmlgepoiaehgaaProg.lean LOADS. Nothing in Lean hashes anything: it is a label: what it is worth is what the hold of that sum in a sandbox is worth. -/
noncomputable def Try.pinned : Pinned := { name := "ytfmlgepoiaehgaa", sum := "2e767c476e0c51e804c3982a52d30e71d1c64c65e186e01c32fb29a128431948", checked := Try.checked }
namespace Rows
def none {H : Type} : Left H := { results := [], args := [] }

/-- 'weirlaw.CutSays': WHATEVER THE INPUT: true; the input reads as it did. -/
def cutSaysSpec : ChangeSpec := { name := "cutSays", fn := fun _ => fun
  | [d1, d2] => { results := [.lit (.bool true)], args := [d1, d2] }
  | _ => none }
def cutSaysRow : OpenClaim := { program := "ytfmlgepoiaehgaa", sum := "2e767c476e0c51e804c3982a52d30e71d1c64c65e186e01c32fb29a128431948", func := "weirmaster/weirlaw.CutSays", spec := "cutSays", apart := false }
def CutSaysSaid : Prop := cutSaysRow.holds Try.pinned (OpenSpec.ofChange cutSaysSpec)

/-- ITS FALSE NEIGHBOUR: 'it returns false'. Refute it at one input. -/
def cutSaysWrong : ChangeSpec := { name := "cutSays", fn := fun _ => fun
  | [d1, d2] => { results := [.lit (.bool false)], args := [d1, d2] }
  | _ => none }
def CutSaysWrongFalsely : Prop := cutSaysRow.holds Try.pinned (OpenSpec.ofChange cutSaysWrong)

/-- 'weirkeep.MostCut': WHATEVER THE INPUT: true; the input reads as it did. -/
def mostCutSpec : ChangeSpec := { name := "mostCut", fn := fun _ => fun
  | [d1, d2, d3] => { results := [.lit (.bool true)], args := [d1, d2, d3] }
  | _ => none }
def mostCutRow : OpenClaim := { program := "ytfmlgepoiaehgaa", sum := "2e767c476e0c51e804c3982a52d30e71d1c64c65e186e01c32fb29a128431948", func := "weirmaster/weirkeep.MostCut", spec := "mostCut", apart := false }
def MostCutSaid : Prop := mostCutRow.holds Try.pinned (OpenSpec.ofChange mostCutSpec)

/-- ITS FALSE NEIGHBOUR: 'it returns false'. Refute it at one input. -/
def mostCutWrong : ChangeSpec := { name := "mostCut", fn := fun _ => fun
  | [d1, d2, d3] => { results := [.lit (.bool false)], args := [d1, d2, d3] }
  | _ => none }
def MostCutWrongFalsely : Prop := mostCutRow.holds Try.pinned (OpenSpec.ofChange mostCutWrong)

/-- 'weirkeep.CutSub': WHATEVER THE INPUT: true; the input reads as it did. -/
def cutSubSpec : ChangeSpec := { name := "cutSub", fn := fun _ => fun
  | [d1, d2, d3] => { results := [.lit (.bool true)], args := [d1, d2, d3] }
  | _ => none }
def cutSubRow : OpenClaim := { program := "ytfmlgepoiaehgaa", sum := "2e767c476e0c51e804c3982a52d30e71d1c64c65e186e01c32fb29a128431948", func := "weirmaster/weirkeep.CutSub", spec := "cutSub", apart := false }
def CutSubSaid : Prop := cutSubRow.holds Try.pinned (OpenSpec.ofChange cutSubSpec)

/-- ITS FALSE NEIGHBOUR: 'it returns false'. Refute it at one input. -/
def cutSubWrong : ChangeSpec := { name := "cutSub", fn := fun _ => fun
  | [d1, d2, d3] => { results := [.lit (.bool false)], args := [d1, d2, d3] }
  | _ => none }
def CutSubWrongFalsely : Prop := cutSubRow.holds Try.pinned (OpenSpec.ofChange cutSubWrong)

/-- 'weirkeep.CutLattice': WHATEVER THE INPUT: true; the input reads as it did. -/
def cutLatticeSpec : ChangeSpec := { name := "cutLattice", fn := fun _ => fun
  | [d1, d2, d3] => { results := [.lit (.bool true)], args := [d1, d2, d3] }
  | _ => none }
def cutLatticeRow : OpenClaim := { program := "ytfmlgepoiaehgaa", sum := "2e767c476e0c51e804c3982a52d30e71d1c64c65e186e01c32fb29a128431948", func := "weirmaster/weirkeep.CutLattice", spec := "cutLattice", unfollowed := true, recurses := true, apart := false }
def CutLatticeSaid : Prop := cutLatticeRow.holds Try.pinned (OpenSpec.ofChange cutLatticeSpec)

/-- ITS FALSE NEIGHBOUR: 'it returns false'. Refute it at one input. -/
def cutLatticeWrong : ChangeSpec := { name := "cutLattice", fn := fun _ => fun
  | [d1, d2, d3] => { results := [.lit (.bool false)], args := [d1, d2, d3] }
  | _ => none }
def CutLatticeWrongFalsely : Prop := cutLatticeRow.holds Try.pinned (OpenSpec.ofChange cutLatticeWrong)

/-- 'weirkeep.CutTurned': WHATEVER THE INPUT: true; the input reads as it did. -/
def cutTurnedSpec : ChangeSpec := { name := "cutTurned", fn := fun _ => fun
  | [d] => { results := [.lit (.bool true)], args := [d] }
  | _ => none }
def cutTurnedRow : OpenClaim := { program := "ytfmlgepoiaehgaa", sum := "2e767c476e0c51e804c3982a52d30e71d1c64c65e186e01c32fb29a128431948", func := "weirmaster/weirkeep.CutTurned", spec := "cutTurned", apart := false }
def CutTurnedSaid : Prop := cutTurnedRow.holds Try.pinned (OpenSpec.ofChange cutTurnedSpec)

/-- ITS FALSE NEIGHBOUR: 'it returns false'. Refute it at one input. -/
def cutTurnedWrong : ChangeSpec := { name := "cutTurned", fn := fun _ => fun
  | [d] => { results := [.lit (.bool false)], args := [d] }
  | _ => none }
def CutTurnedWrongFalsely : Prop := cutTurnedRow.holds Try.pinned (OpenSpec.ofChange cutTurnedWrong)

/- THE SECOND FORM. 'bulk': how many values and letters a reading holds, each counted each time it is reached (what is shared counts as often as it is met; a slice's spare places count too). A statement '..UptoSaid' is the law's where the arguments, and the package variables that the reading takes, are together of bulk at most 1048576: NARROWER than '..Said'. Prove '..Said' where nothing that the law and all that it calls make is longer than what came in: it says more and counts as full. Else prove '..UptoSaid'. A law counts once. -/
mutual
def uptoBulk {H : Type} : DataW H → Nat
  | .lit (.string bytes) => bytes.length + 1
  | .lit _ => 1
  | .nil => 1
  | .ptr d => uptoBulk d + 1
  | .slice elems spare => uptoBulkAll elems + uptoBulkAll spare + 1
  | .agg parts => uptoBulkAll parts + 1
  | .iface _ d => uptoBulk d + 1
  | .map entries => uptoBulkEntries entries + 1
  | .held _ => 1
def uptoBulkAll {H : Type} : List (DataW H) → Nat
  | [] => 0
  | d :: r => uptoBulk d + uptoBulkAll r
def uptoBulkEntries {H : Type} : List (Lit × DataW H) → Nat
  | [] => 0
  | x :: r => uptoBulkEntry x + uptoBulkEntries r
def uptoBulkEntry {H : Type} : Lit × DataW H → Nat
  | (.string bytes, d) => bytes.length + uptoBulk d + 1
  | (_, d) => uptoBulk d + 1
 end
def uptoSmall : (H : Type) → List (DataW H) → Bool := fun _ ds => decide (uptoBulkAll ds ≤ 1048576)
def OpenSpec.upto (s : _root_.Go.ChangeSpec) : _root_.Go.OpenSpec := { _root_.Go.OpenSpec.ofChange s with cond := some uptoSmall }

/-- 'weirlaw.CutSays', WHERE WHAT IT READS IS OF BULK AT MOST 1048576: true; the input reads as it did. -/
def cutSaysUptoRow : OpenClaim := { program := "ytfmlgepoiaehgaa", sum := "2e767c476e0c51e804c3982a52d30e71d1c64c65e186e01c32fb29a128431948", func := "weirmaster/weirlaw.CutSays", spec := "cutSays", apart := false, narrowed := true }
def CutSaysUptoSaid : Prop := cutSaysUptoRow.holds Try.pinned (OpenSpec.upto cutSaysSpec)

/-- 'weirkeep.MostCut', WHERE WHAT IT READS IS OF BULK AT MOST 1048576: true; the input reads as it did. -/
def mostCutUptoRow : OpenClaim := { program := "ytfmlgepoiaehgaa", sum := "2e767c476e0c51e804c3982a52d30e71d1c64c65e186e01c32fb29a128431948", func := "weirmaster/weirkeep.MostCut", spec := "mostCut", apart := false, narrowed := true }
def MostCutUptoSaid : Prop := mostCutUptoRow.holds Try.pinned (OpenSpec.upto mostCutSpec)

/-- 'weirkeep.CutSub', WHERE WHAT IT READS IS OF BULK AT MOST 1048576: true; the input reads as it did. -/
def cutSubUptoRow : OpenClaim := { program := "ytfmlgepoiaehgaa", sum := "2e767c476e0c51e804c3982a52d30e71d1c64c65e186e01c32fb29a128431948", func := "weirmaster/weirkeep.CutSub", spec := "cutSub", apart := false, narrowed := true }
def CutSubUptoSaid : Prop := cutSubUptoRow.holds Try.pinned (OpenSpec.upto cutSubSpec)

/-- 'weirkeep.CutLattice', WHERE WHAT IT READS IS OF BULK AT MOST 1048576: true; the input reads as it did. -/
def cutLatticeUptoRow : OpenClaim := { program := "ytfmlgepoiaehgaa", sum := "2e767c476e0c51e804c3982a52d30e71d1c64c65e186e01c32fb29a128431948", func := "weirmaster/weirkeep.CutLattice", spec := "cutLattice", unfollowed := true, recurses := true, apart := false, narrowed := true }
def CutLatticeUptoSaid : Prop := cutLatticeUptoRow.holds Try.pinned (OpenSpec.upto cutLatticeSpec)

/-- 'weirkeep.CutTurned', WHERE WHAT IT READS IS OF BULK AT MOST 1048576: true; the input reads as it did. -/
def cutTurnedUptoRow : OpenClaim := { program := "ytfmlgepoiaehgaa", sum := "2e767c476e0c51e804c3982a52d30e71d1c64c65e186e01c32fb29a128431948", func := "weirmaster/weirkeep.CutTurned", spec := "cutTurned", apart := false, narrowed := true }
def CutTurnedUptoSaid : Prop := cutTurnedUptoRow.holds Try.pinned (OpenSpec.upto cutTurnedSpec)

end Rows
end Go.Proofs.Ytfmlgepoiaehgaa
