/- What the laws ask of package euler, said as contracts: Can, Trail. -/
import Derived.Test.YtkcjemhbenkglaaEOrder
namespace Go.Proofs.Ytkcjemhbenkglaa
open Go.RowKit
set_option linter.unusedVariables false

def CanC : Prop := ∀ (n : Int) (ao : Option Addr) (cap : Nat) (l : List Arc3) (w : World), GraphIn w ao cap l →
  Calls Try.prog 7 #[.agg #[.int .i64 n, .slice ao l.length cap]] w fun e w' => Below w.heap.size w w' ∧
    ∃ k, e = .returned (.tuple #[.int .i64 k, .int .i64 (graphErr n (-10000) l)]) ∧ (graphErr n (-10000) l ≠ 0 → k = 0) ∧ (graphErr n (-10000) l = 0 → CanIs l k)

def TrailC : Prop := ∀ (n : Int) (ao : Option Addr) (cap : Nat) (l : List Arc3) (w : World), GraphIn w ao cap l →
  Calls Try.prog 8 #[.agg #[.int .i64 n, .slice ao l.length cap]] w fun e w' => Below w.heap.size w w' ∧
    ∃ ao' cap' K err, e = .returned (.tuple #[.slice ao' (K : List Nat).length cap', .int .i64 err]) ∧ IntsAt w' ao' (nums K) ∧ (ao' = none → K.length = 0 ∧ cap' = 0) ∧ K.length ≤ 60 ∧
      (graphErr n (-10000) l ≠ 0 → err = graphErr n (-10000) l ∧ K = []) ∧
      (graphErr n (-10000) l = 0 → (err = 5 ∧ K = [] ∧ CanIs l 0) ∨ (err = 0 ∧ Conn l ∧ ∃ s t, Bal l s t ∧ TrailIs l s t K))

end Go.Proofs.Ytkcjemhbenkglaa
