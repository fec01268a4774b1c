/-
  No cell of these rows narrows 'for every input' (looked for: loops, veiled, ifaces, maps, wideKeys, modest, calm, conditions, laid).
  DERIVED. THE GIVEN ROWS OF THIS SEAT. 4 by the template 'for every input the law returns true; each argument reads behind the call as it read before'; 0 by the template 'total and deterministic' (their statements: YtamckjbddnocpaaTotals.lean).
  GIVEN WITH THE SEED: the statements are not yours to turn. If you find one false, say at which input.
  Laid BY PROGRAM, IN A SANDBOX (cutbox-rows.mjs): the forced cells as the released guide's own fill.sh prints them over the translation 2a372c835accce2a… (all of the seat's roots in one cut). By AI agents, Wed Nov 11 2026. No macro, syntax, notation, axiom, sorry.
-/
import Derived.Test.YtamckjbddnocpaaChecked
import GoSem.Claim
import GoSem.ClaimJoined
import GoSem.ClaimMapViews
import Derived.JoinedTies
import Derived.KernelRfl
namespace Go.Proofs.Ytamckjbddnocpaa
/- THE CELL 'sum', in the pinned program and in every row, IS THE sha256 OF THE DUMP (.gsa) THAT YtamckjbddnocpaaProg.lean LOADS. Nothing in Lean hashes anything: it is a label: what it is worth is what the hold of that sum in a sandbox is worth. -/
noncomputable def Try.pinned : Pinned := { name := "ytamckjbddnocpaa", sum := "2a372c835accce2aa202ab9848e4525df11d15142aaad1aa6771b8385e103cbf", checked := Try.checked }
namespace Rows
def none {H : Type} : Left H := { results := [], args := [] }

/-- 'weirlaw.TreeDet': WHATEVER THE INPUT: true; the input reads as it did. -/
def treeDetSpec : ChangeSpec := { name := "treeDet", fn := fun _ => fun
  | [d] => { results := [.lit (.bool true)], args := [d] }
  | _ => none }
def treeDetRow : OpenClaim := { program := "ytamckjbddnocpaa", sum := "2a372c835accce2aa202ab9848e4525df11d15142aaad1aa6771b8385e103cbf", func := "weirmaster/weirlaw.TreeDet", spec := "treeDet", unfollowed := true, recurses := true, apart := false }
def TreeDetSaid : Prop := treeDetRow.holds Try.pinned (OpenSpec.ofChange treeDetSpec)

/-- ITS FALSE NEIGHBOUR: 'it returns false'. Refute it at one input. -/
def treeDetWrong : ChangeSpec := { name := "treeDet", fn := fun _ => fun
  | [d] => { results := [.lit (.bool false)], args := [d] }
  | _ => none }
def TreeDetWrongFalsely : Prop := treeDetRow.holds Try.pinned (OpenSpec.ofChange treeDetWrong)

/-- 'weirkeep.TreeCayley': WHATEVER THE INPUT: true; the input reads as it did. -/
def treeCayleySpec : ChangeSpec := { name := "treeCayley", fn := fun _ => fun
  | [d] => { results := [.lit (.bool true)], args := [d] }
  | _ => none }
def treeCayleyRow : OpenClaim := { program := "ytamckjbddnocpaa", sum := "2a372c835accce2aa202ab9848e4525df11d15142aaad1aa6771b8385e103cbf", func := "weirmaster/weirkeep.TreeCayley", spec := "treeCayley", recurses := true, apart := false }
def TreeCayleySaid : Prop := treeCayleyRow.holds Try.pinned (OpenSpec.ofChange treeCayleySpec)

/-- ITS FALSE NEIGHBOUR: 'it returns false'. Refute it at one input. -/
def treeCayleyWrong : ChangeSpec := { name := "treeCayley", fn := fun _ => fun
  | [d] => { results := [.lit (.bool false)], args := [d] }
  | _ => none }
def TreeCayleyWrongFalsely : Prop := treeCayleyRow.holds Try.pinned (OpenSpec.ofChange treeCayleyWrong)

/-- 'weirkeep.TreeLess': WHATEVER THE INPUT: true; the input reads as it did. -/
def treeLessSpec : ChangeSpec := { name := "treeLess", fn := fun _ => fun
  | [d1, d2] => { results := [.lit (.bool true)], args := [d1, d2] }
  | _ => none }
def treeLessRow : OpenClaim := { program := "ytamckjbddnocpaa", sum := "2a372c835accce2aa202ab9848e4525df11d15142aaad1aa6771b8385e103cbf", func := "weirmaster/weirkeep.TreeLess", spec := "treeLess", unfollowed := true, recurses := true, apart := false }
def TreeLessSaid : Prop := treeLessRow.holds Try.pinned (OpenSpec.ofChange treeLessSpec)

/-- ITS FALSE NEIGHBOUR: 'it returns false'. Refute it at one input. -/
def treeLessWrong : ChangeSpec := { name := "treeLess", fn := fun _ => fun
  | [d1, d2] => { results := [.lit (.bool false)], args := [d1, d2] }
  | _ => none }
def TreeLessWrongFalsely : Prop := treeLessRow.holds Try.pinned (OpenSpec.ofChange treeLessWrong)

/-- 'weirkeep.TreeBack': WHATEVER THE INPUT: true; the input reads as it did. -/
def treeBackSpec : ChangeSpec := { name := "treeBack", fn := fun _ => fun
  | [d] => { results := [.lit (.bool true)], args := [d] }
  | _ => none }
def treeBackRow : OpenClaim := { program := "ytamckjbddnocpaa", sum := "2a372c835accce2aa202ab9848e4525df11d15142aaad1aa6771b8385e103cbf", func := "weirmaster/weirkeep.TreeBack", spec := "treeBack", apart := false }
def TreeBackSaid : Prop := treeBackRow.holds Try.pinned (OpenSpec.ofChange treeBackSpec)

/-- ITS FALSE NEIGHBOUR: 'it returns false'. Refute it at one input. -/
def treeBackWrong : ChangeSpec := { name := "treeBack", fn := fun _ => fun
  | [d] => { results := [.lit (.bool false)], args := [d] }
  | _ => none }
def TreeBackWrongFalsely : Prop := treeBackRow.holds Try.pinned (OpenSpec.ofChange treeBackWrong)

/- THE SECOND FORM. 'bulk': how many values and letters a reading holds, each counted each time it is reached (what is shared counts as often as it is met; a slice's spare places count too). A statement '..UptoSaid' is the law's where the arguments, and the package variables that the reading takes, are together of bulk at most 1048576: NARROWER than '..Said'. Prove '..Said' where nothing that the law and all that it calls make is longer than what came in: it says more and counts as full. Else prove '..UptoSaid'. A law counts once. -/
mutual
def uptoBulk {H : Type} : DataW H → Nat
  | .lit (.string bytes) => bytes.length + 1
  | .lit _ => 1
  | .nil => 1
  | .ptr d => uptoBulk d + 1
  | .slice elems spare => uptoBulkAll elems + uptoBulkAll spare + 1
  | .agg parts => uptoBulkAll parts + 1
  | .iface _ d => uptoBulk d + 1
  | .map entries => uptoBulkEntries entries + 1
  | .held _ => 1
def uptoBulkAll {H : Type} : List (DataW H) → Nat
  | [] => 0
  | d :: r => uptoBulk d + uptoBulkAll r
def uptoBulkEntries {H : Type} : List (Lit × DataW H) → Nat
  | [] => 0
  | x :: r => uptoBulkEntry x + uptoBulkEntries r
def uptoBulkEntry {H : Type} : Lit × DataW H → Nat
  | (.string bytes, d) => bytes.length + uptoBulk d + 1
  | (_, d) => uptoBulk d + 1
 end
def uptoSmall : (H : Type) → List (DataW H) → Bool := fun _ ds => decide (uptoBulkAll ds ≤ 1048576)
def OpenSpec.upto (s : _root_.Go.ChangeSpec) : _root_.Go.OpenSpec := { _root_.Go.OpenSpec.ofChange s with cond := some uptoSmall }

/-- 'weirlaw.TreeDet', WHERE WHAT IT READS IS OF BULK AT MOST 1048576: true; the input reads as it did. -/
def treeDetUptoRow : OpenClaim := { program := "ytamckjbddnocpaa", sum := "2a372c835accce2aa202ab9848e4525df11d15142aaad1aa6771b8385e103cbf", func := "weirmaster/weirlaw.TreeDet", spec := "treeDet", unfollowed := true, recurses := true, apart := false, narrowed := true }
def TreeDetUptoSaid : Prop := treeDetUptoRow.holds Try.pinned (OpenSpec.upto treeDetSpec)

/-- 'weirkeep.TreeCayley', WHERE WHAT IT READS IS OF BULK AT MOST 1048576: true; the input reads as it did. -/
def treeCayleyUptoRow : OpenClaim := { program := "ytamckjbddnocpaa", sum := "2a372c835accce2aa202ab9848e4525df11d15142aaad1aa6771b8385e103cbf", func := "weirmaster/weirkeep.TreeCayley", spec := "treeCayley", recurses := true, apart := false, narrowed := true }
def TreeCayleyUptoSaid : Prop := treeCayleyUptoRow.holds Try.pinned (OpenSpec.upto treeCayleySpec)

/-- 'weirkeep.TreeLess', WHERE WHAT IT READS IS OF BULK AT MOST 1048576: true; the input reads as it did. -/
def treeLessUptoRow : OpenClaim := { program := "ytamckjbddnocpaa", sum := "2a372c835accce2aa202ab9848e4525df11d15142aaad1aa6771b8385e103cbf", func := "weirmaster/weirkeep.TreeLess", spec := "treeLess", unfollowed := true, recurses := true, apart := false, narrowed := true }
def TreeLessUptoSaid : Prop := treeLessUptoRow.holds Try.pinned (OpenSpec.upto treeLessSpec)

/-- 'weirkeep.TreeBack', WHERE WHAT IT READS IS OF BULK AT MOST 1048576: true; the input reads as it did. -/
def treeBackUptoRow : OpenClaim := { program := "ytamckjbddnocpaa", sum := "2a372c835accce2aa202ab9848e4525df11d15142aaad1aa6771b8385e103cbf", func := "weirmaster/weirkeep.TreeBack", spec := "treeBack", apart := false, narrowed := true }
def TreeBackUptoSaid : Prop := treeBackUptoRow.holds Try.pinned (OpenSpec.upto treeBackSpec)

end Rows
end Go.Proofs.Ytamckjbddnocpaa
