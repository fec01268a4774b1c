/-
  No cell of these rows narrows 'for every input' (looked for: loops, veiled, ifaces, maps, wideKeys, modest, calm, conditions, laid).
  DERIVED. THE GIVEN ROWS OF THIS SEAT. 4 by the template 'for every input the law returns true; each argument reads behind the call as it read before'; 0 by the template 'total and deterministic' (their statements: YtkcjemhbenkglaaTotals.lean).
  GIVEN WITH THE SEED: the statements are not yours to turn. If you find one false, say at which input.
  Laid BY PROGRAM, IN A SANDBOX (cutbox-rows.mjs): the forced cells as the released guide's own fill.sh prints them over the translation 300d516ae29ddf13… (all of the seat's roots in one cut). By AI agents, Wed Nov 11 2026. No macro, syntax, notation, axiom, sorry.
-/
import Derived.Test.YtkcjemhbenkglaaChecked
import GoSem.Claim
import GoSem.ClaimJoined
import GoSem.ClaimMapViews
import Derived.JoinedTies
import Derived.KernelRfl
namespace Go.Proofs.Ytkcjemhbenkglaa
/- THE CELL 'sum', in the pinned program and in every row, IS THE sha256 OF THE DUMP (.gsa) THAT YtkcjemhbenkglaaProg.lean LOADS. Nothing in Lean hashes anything: it is a label: what it is worth is what the hold of that sum in a sandbox is worth. -/
noncomputable def Try.pinned : Pinned := { name := "ytkcjemhbenkglaa", sum := "300d516ae29ddf1372134298b00bfd55edfc6e469b73b60d21247b3e9ff4f2a1", checked := Try.checked }
namespace Rows
def none {H : Type} : Left H := { results := [], args := [] }

/-- 'weirlaw.EulerSays': WHATEVER THE INPUT: true; the input reads as it did. -/
def eulerSaysSpec : ChangeSpec := { name := "eulerSays", fn := fun _ => fun
  | [d] => { results := [.lit (.bool true)], args := [d] }
  | _ => none }
def eulerSaysRow : OpenClaim := { program := "ytkcjemhbenkglaa", sum := "300d516ae29ddf1372134298b00bfd55edfc6e469b73b60d21247b3e9ff4f2a1", func := "weirmaster/weirlaw.EulerSays", spec := "eulerSays", unfollowed := true, recurses := true, apart := false }
def EulerSaysSaid : Prop := eulerSaysRow.holds Try.pinned (OpenSpec.ofChange eulerSaysSpec)

/-- ITS FALSE NEIGHBOUR: 'it returns false'. Refute it at one input. -/
def eulerSaysWrong : ChangeSpec := { name := "eulerSays", fn := fun _ => fun
  | [d] => { results := [.lit (.bool false)], args := [d] }
  | _ => none }
def EulerSaysWrongFalsely : Prop := eulerSaysRow.holds Try.pinned (OpenSpec.ofChange eulerSaysWrong)

/-- 'weirkeep.EulerEven': WHATEVER THE INPUT: true; the input reads as it did. -/
def eulerEvenSpec : ChangeSpec := { name := "eulerEven", fn := fun _ => fun
  | [d] => { results := [.lit (.bool true)], args := [d] }
  | _ => none }
def eulerEvenRow : OpenClaim := { program := "ytkcjemhbenkglaa", sum := "300d516ae29ddf1372134298b00bfd55edfc6e469b73b60d21247b3e9ff4f2a1", func := "weirmaster/weirkeep.EulerEven", spec := "eulerEven", apart := false }
def EulerEvenSaid : Prop := eulerEvenRow.holds Try.pinned (OpenSpec.ofChange eulerEvenSpec)

/-- ITS FALSE NEIGHBOUR: 'it returns false'. Refute it at one input. -/
def eulerEvenWrong : ChangeSpec := { name := "eulerEven", fn := fun _ => fun
  | [d] => { results := [.lit (.bool false)], args := [d] }
  | _ => none }
def EulerEvenWrongFalsely : Prop := eulerEvenRow.holds Try.pinned (OpenSpec.ofChange eulerEvenWrong)

/-- 'weirkeep.EulerTurned': WHATEVER THE INPUT: true; the input reads as it did. -/
def eulerTurnedSpec : ChangeSpec := { name := "eulerTurned", fn := fun _ => fun
  | [d] => { results := [.lit (.bool true)], args := [d] }
  | _ => none }
def eulerTurnedRow : OpenClaim := { program := "ytkcjemhbenkglaa", sum := "300d516ae29ddf1372134298b00bfd55edfc6e469b73b60d21247b3e9ff4f2a1", func := "weirmaster/weirkeep.EulerTurned", spec := "eulerTurned", apart := false }
def EulerTurnedSaid : Prop := eulerTurnedRow.holds Try.pinned (OpenSpec.ofChange eulerTurnedSpec)

/-- ITS FALSE NEIGHBOUR: 'it returns false'. Refute it at one input. -/
def eulerTurnedWrong : ChangeSpec := { name := "eulerTurned", fn := fun _ => fun
  | [d] => { results := [.lit (.bool false)], args := [d] }
  | _ => none }
def EulerTurnedWrongFalsely : Prop := eulerTurnedRow.holds Try.pinned (OpenSpec.ofChange eulerTurnedWrong)

/-- 'weirkeep.EulerClosed': WHATEVER THE INPUT: true; the input reads as it did. -/
def eulerClosedSpec : ChangeSpec := { name := "eulerClosed", fn := fun _ => fun
  | [d] => { results := [.lit (.bool true)], args := [d] }
  | _ => none }
def eulerClosedRow : OpenClaim := { program := "ytkcjemhbenkglaa", sum := "300d516ae29ddf1372134298b00bfd55edfc6e469b73b60d21247b3e9ff4f2a1", func := "weirmaster/weirkeep.EulerClosed", spec := "eulerClosed", apart := false }
def EulerClosedSaid : Prop := eulerClosedRow.holds Try.pinned (OpenSpec.ofChange eulerClosedSpec)

/-- ITS FALSE NEIGHBOUR: 'it returns false'. Refute it at one input. -/
def eulerClosedWrong : ChangeSpec := { name := "eulerClosed", fn := fun _ => fun
  | [d] => { results := [.lit (.bool false)], args := [d] }
  | _ => none }
def EulerClosedWrongFalsely : Prop := eulerClosedRow.holds Try.pinned (OpenSpec.ofChange eulerClosedWrong)

/- THE SECOND FORM. 'bulk': how many values and letters a reading holds, each counted each time it is reached (what is shared counts as often as it is met; a slice's spare places count too). A statement '..UptoSaid' is the law's where the arguments, and the package variables that the reading takes, are together of bulk at most 1048576: NARROWER than '..Said'. Prove '..Said' where nothing that the law and all that it calls make is longer than what came in: it says more and counts as full. Else prove '..UptoSaid'. A law counts once. -/
mutual
def uptoBulk {H : Type} : DataW H → Nat
  | .lit (.string bytes) => bytes.length + 1
  | .lit _ => 1
  | .nil => 1
  | .ptr d => uptoBulk d + 1
  | .slice elems spare => uptoBulkAll elems + uptoBulkAll spare + 1
  | .agg parts => uptoBulkAll parts + 1
  | .iface _ d => uptoBulk d + 1
  | .map entries => uptoBulkEntries entries + 1
  | .held _ => 1
def uptoBulkAll {H : Type} : List (DataW H) → Nat
  | [] => 0
  | d :: r => uptoBulk d + uptoBulkAll r
def uptoBulkEntries {H : Type} : List (Lit × DataW H) → Nat
  | [] => 0
  | x :: r => uptoBulkEntry x + uptoBulkEntries r
def uptoBulkEntry {H : Type} : Lit × DataW H → Nat
  | (.string bytes, d) => bytes.length + uptoBulk d + 1
  | (_, d) => uptoBulk d + 1
 end
def uptoSmall : (H : Type) → List (DataW H) → Bool := fun _ ds => decide (uptoBulkAll ds ≤ 1048576)
def OpenSpec.upto (s : _root_.Go.ChangeSpec) : _root_.Go.OpenSpec := { _root_.Go.OpenSpec.ofChange s with cond := some uptoSmall }

/-- 'weirlaw.EulerSays', WHERE WHAT IT READS IS OF BULK AT MOST 1048576: true; the input reads as it did. -/
def eulerSaysUptoRow : OpenClaim := { program := "ytkcjemhbenkglaa", sum := "300d516ae29ddf1372134298b00bfd55edfc6e469b73b60d21247b3e9ff4f2a1", func := "weirmaster/weirlaw.EulerSays", spec := "eulerSays", unfollowed := true, recurses := true, apart := false, narrowed := true }
def EulerSaysUptoSaid : Prop := eulerSaysUptoRow.holds Try.pinned (OpenSpec.upto eulerSaysSpec)

/-- 'weirkeep.EulerEven', WHERE WHAT IT READS IS OF BULK AT MOST 1048576: true; the input reads as it did. -/
def eulerEvenUptoRow : OpenClaim := { program := "ytkcjemhbenkglaa", sum := "300d516ae29ddf1372134298b00bfd55edfc6e469b73b60d21247b3e9ff4f2a1", func := "weirmaster/weirkeep.EulerEven", spec := "eulerEven", apart := false, narrowed := true }
def EulerEvenUptoSaid : Prop := eulerEvenUptoRow.holds Try.pinned (OpenSpec.upto eulerEvenSpec)

/-- 'weirkeep.EulerTurned', WHERE WHAT IT READS IS OF BULK AT MOST 1048576: true; the input reads as it did. -/
def eulerTurnedUptoRow : OpenClaim := { program := "ytkcjemhbenkglaa", sum := "300d516ae29ddf1372134298b00bfd55edfc6e469b73b60d21247b3e9ff4f2a1", func := "weirmaster/weirkeep.EulerTurned", spec := "eulerTurned", apart := false, narrowed := true }
def EulerTurnedUptoSaid : Prop := eulerTurnedUptoRow.holds Try.pinned (OpenSpec.upto eulerTurnedSpec)

/-- 'weirkeep.EulerClosed', WHERE WHAT IT READS IS OF BULK AT MOST 1048576: true; the input reads as it did. -/
def eulerClosedUptoRow : OpenClaim := { program := "ytkcjemhbenkglaa", sum := "300d516ae29ddf1372134298b00bfd55edfc6e469b73b60d21247b3e9ff4f2a1", func := "weirmaster/weirkeep.EulerClosed", spec := "eulerClosed", apart := false, narrowed := true }
def EulerClosedUptoSaid : Prop := eulerClosedUptoRow.holds Try.pinned (OpenSpec.upto eulerClosedSpec)

end Rows
end Go.Proofs.Ytkcjemhbenkglaa
