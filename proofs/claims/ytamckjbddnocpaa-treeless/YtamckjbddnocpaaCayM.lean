/- Plain facts on how many trees: of graphs in which each pair is an arc; of rounds. CAYLEY. -/
import Derived.Test.YtamckjbddnocpaaTreeM
namespace Go.Proofs.Ytamckjbddnocpaa
set_option linter.unusedVariables false

/-- each pair of n nodes an arc -/
def fullL (n : Nat) : List Arc3 := (List.range n).flatMap fun (k : Nat) => (List.range k).map fun (i : Nat) => ((i : Int), (k : Int), 0)
/-- a round of n nodes -/
def ringL (n : Nat) : List Arc3 := (List.range n).map fun (k : Nat) => ((k : Int), (((k : Int) + 1) % (n : Int)), 0)

def fullM (n : Nat) : Mtx := fun i j => if i = j then (n : Int) - 1 else -1

theorem full_lap : ∀ n, n < 9 → ∀ i, i < n - 1 → ∀ j, j < n - 1 → lap (fullL n) i j = fullM n i j := by decide +kernel
theorem full_det : ∀ n, n < 9 → 2 ≤ n → det (n - 1) (fullM n) = (n : Int) ^ (n - 2) := by decide +kernel

def ringM (n : Nat) : Mtx := fun i j => if i = j then 2 else if n = 2 then 0 else if i = j + 1 ∨ j = i + 1 then -1 else 0
theorem ring_lap : ∀ n, n < 9 → 2 ≤ n → ∀ i, i < n - 1 → ∀ j, j < n - 1 → lap (ringL n) i j = ringM n i j := by decide +kernel
theorem ring_det : ∀ n, n < 9 → 2 ≤ n → det (n - 1) (ringM n) = (n : Int) := by decide +kernel

end Go.Proofs.Ytamckjbddnocpaa
