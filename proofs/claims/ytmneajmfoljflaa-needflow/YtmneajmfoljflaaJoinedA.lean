/- Texts joined: Lits, FlowC. -/
import Derived.Test.YtmneajmfoljflaaMk
import Derived.Test.YtmneajmfoljflaaFlat
import Derived.Test.YtmneajmfoljflaaNet

/- Contracts of the laws' own helpers: arcs written out, a line of three nodes. -/
namespace Go.Proofs.Ytmneajmfoljflaa
open Go.RowKit
set_option linter.unusedVariables false


def lineL : List Arc3 := [(0, 1, 4), (1, 2, 3)]


end Go.Proofs.Ytmneajmfoljflaa

/- What the laws ask of package flow, said as contracts: Check, Value; and the laws' own helpers weir and flows. -/
namespace Go.Proofs.Ytmneajmfoljflaa
open Go.RowKit
set_option linter.unusedVariables false

/-- an argument that is a slice of integers -/
structure IntsIn (w : World) (ao : Option Addr) (cap : Nat) (f : List Int) : Prop where
  ints : IntsAt w ao f
  le : f.length ≤ cap
  max : cap ≤ maxLen
  nil : ao = none → f.length = 0 ∧ cap = 0
theorem IntsIn.below {B : Nat} {w w' : World} {ao : Option Addr} {cap : Nat} {f : List Int} (h : IntsIn w ao cap f) (hb : Below B w w') (hB : w.heap.size ≤ B) : IntsIn w' ao cap f := ⟨h.ints.below hb hB, h.le, h.max, h.nil⟩
theorem IntsIn.alloc {w : World} {ao : Option Addr} {cap : Nat} {f : List Int} (h : IntsIn w ao cap f) (o : Obj) : IntsIn (w.alloc o) ao cap f := ⟨h.ints.alloc o, h.le, h.max, h.nil⟩
theorem IntsIn.len {w : World} {ao : Option Addr} {cap : Nat} {f : List Int} (h : IntsIn w ao cap f) : f.length ≤ maxLen := Nat.le_trans h.le h.max

/-- P23 -/
def valueOf (n s t : Int) (l : List Arc3) (f : List Int) : Int := if flowErr n s t l f = 0 then gone l (ati f) s else 0

def FCheckC : Prop := ∀ (n s t : Int) (ao af : Option Addr) (cap capf : Nat) (l : List Arc3) (f : List Int) (w : World), GraphIn w ao cap l → IntsIn w af capf f →
  Calls Try.prog 28 #[.agg #[.int .i64 n, .int .i64 s, .int .i64 t, .slice ao l.length cap], .slice af f.length capf] w fun e w' => Below w.heap.size w w' ∧ e = .returned (.int .i64 (flowErr n s t l f))
def FValueC : Prop := ∀ (n s t : Int) (ao af : Option Addr) (cap capf : Nat) (l : List Arc3) (f : List Int) (w : World), GraphIn w ao cap l → IntsIn w af capf f →
  Calls Try.prog 20 #[.agg #[.int .i64 n, .int .i64 s, .int .i64 t, .slice ao l.length cap], .slice af f.length capf] w fun e w' => Below w.heap.size w w' ∧ e = .returned (.tuple #[.int .i64 (valueOf n s t l f), .int .i64 (flowErr n s t l f)])

def weirL : List Arc3 := [(0, 1, 4), (0, 2, 3), (1, 3, 2), (1, 2, 1), (2, 3, 3)]


theorem weir_err : flowErr 4 0 3 weirL [3, 2, 2, 1, 3] = 0 := by decide
theorem weir_val : valueOf 4 0 3 weirL [3, 2, 2, 1, 3] = 5 := by decide


end Go.Proofs.Ytmneajmfoljflaa
