/- What the laws ask of package euler, said as contracts: Can, Trail. -/
import Derived.Test.YtkcjemhbenkglaaEOrder
namespace Go.Proofs.Ytkcjemhbenkglaa
open Go.RowKit
set_option linter.unusedVariables false

/-- each arc of a chain begins where the one ahead ends -/
theorem ChN.next {l : List Arc3} : ∀ {K : List Nat} {s t : Int}, ChN l s K t → ∀ i, i + 1 < K.length → (at3 l (K.getD (i + 1) 0)).1 = (at3 l (K.getD i 0)).2.1
  | [], _, _, _, i, hi => by simp at hi
  | [_], _, _, _, i, hi => by simp at hi
  | k :: j :: r, s, t, ⟨_, _, h⟩, i, hi => by
    cases i with
    | zero => exact h.2.1
    | succ i => exact ChN.next h i (by simpa using hi)

theorem nums_ati (K : List Nat) (i : Nat) (h : i < K.length) : ati (nums K) i = ((K.getD i 0 : Nat) : Int) := by
  rw [ati_lt _ _ (by rw [nums_length]; exact h)]; simp [nums, h]
theorem getD_mem (K : List Nat) (i : Nat) (h : i < K.length) : K.getD i 0 ∈ K := by simp [h]

def CanC : Prop := ∀ (n : Int) (ao : Option Addr) (cap : Nat) (l : List Arc3) (w : World), GraphIn w ao cap l →
  Calls Try.prog 7 #[.agg #[.int .i64 n, .slice ao l.length cap]] w fun e w' => Below w.heap.size w w' ∧
    ∃ k, e = .returned (.tuple #[.int .i64 k, .int .i64 (graphErr n (-10000) l)]) ∧ (graphErr n (-10000) l ≠ 0 → k = 0) ∧ (graphErr n (-10000) l = 0 → CanIs l k)

def TrailC : Prop := ∀ (n : Int) (ao : Option Addr) (cap : Nat) (l : List Arc3) (w : World), GraphIn w ao cap l →
  Calls Try.prog 8 #[.agg #[.int .i64 n, .slice ao l.length cap]] w fun e w' => Below w.heap.size w w' ∧
    ∃ ao' cap' K err, e = .returned (.tuple #[.slice ao' (K : List Nat).length cap', .int .i64 err]) ∧ IntsAt w' ao' (nums K) ∧ (ao' = none → K.length = 0 ∧ cap' = 0) ∧ K.length ≤ 60 ∧
      (graphErr n (-10000) l ≠ 0 → err = graphErr n (-10000) l ∧ K = []) ∧
      (graphErr n (-10000) l = 0 → (err = 5 ∧ K = [] ∧ CanIs l 0) ∨ (err = 0 ∧ Conn l ∧ ∃ s t, Bal l s t ∧ TrailIs l s t K))

end Go.Proofs.Ytkcjemhbenkglaa
