/- Plain facts on degrees. -/
import Derived.Test.YtamckjbddnocpaaGErr
namespace Go.Proofs.Ytamckjbddnocpaa
open Go.RowKit
set_option linter.unusedVariables false

def outDeg (l : List Arc3) (v : Nat) : Int := (l.countP (fun a => decide (a.1 = (v : Int))) : Nat)
def inDeg (l : List Arc3) (v : Nat) : Int := (l.countP (fun a => decide (a.2.1 = (v : Int))) : Nat)
def outs (N : Nat) (l : List Arc3) : List Int := (List.range N).map (outDeg l)
def ins (N : Nat) (l : List Arc3) : List Int := (List.range N).map (inDeg l)

theorem outDeg_le (l : List Arc3) (v : Nat) : 0 ≤ outDeg l v ∧ outDeg l v ≤ l.length := by
  unfold outDeg; exact ⟨by omega, by have := List.countP_le_length (p := fun a : Arc3 => decide (a.1 = (v : Int))) (l := l); omega⟩
theorem inDeg_le (l : List Arc3) (v : Nat) : 0 ≤ inDeg l v ∧ inDeg l v ≤ l.length := by
  unfold inDeg; exact ⟨by omega, by have := List.countP_le_length (p := fun a : Arc3 => decide (a.2.1 = (v : Int))) (l := l); omega⟩

theorem outDeg_snoc (l : List Arc3) (f : Nat) (t c : Int) (v : Nat) : outDeg (l ++ [((f : Int), t, c)]) v = if v = f then outDeg l v + 1 else outDeg l v := by
  unfold outDeg
  rw [List.countP_append]
  by_cases e : v = f
  · subst e; simp
  · simp [e, show ¬ (f : Int) = v from fun h => e (by omega)]
theorem inDeg_snoc (l : List Arc3) (f c : Int) (t : Nat) (v : Nat) : inDeg (l ++ [(f, (t : Int), c)]) v = if v = t then inDeg l v + 1 else inDeg l v := by
  unfold inDeg
  rw [List.countP_append]
  by_cases e : v = t
  · subst e; simp
  · simp [e, show ¬ (t : Int) = v from fun h => e (by omega)]

end Go.Proofs.Ytamckjbddnocpaa
