/- What Turn answers is a graph, whatever is handed in. -/
import Derived.Test.YtfmlgepoiaehgaaTurn
import Derived.Test.YtfmlgepoiaehgaaGErr
namespace Go.Proofs.Ytfmlgepoiaehgaa
open Go.RowKit
set_option linter.unusedVariables false

theorem TurnG_any (n : Int) (ao : Option Addr) (cap : Nat) (l : List Arc3) (w : World) (hG : GraphIn w ao cap l) :
    Calls Try.prog 25 #[.agg #[.int .i64 n, .slice ao l.length cap]] w fun e w' => Below w.heap.size w w' ∧
      ∃ n' ao' cap' l' err, e = .returned (.tuple #[.agg #[.int .i64 n', .slice ao' (l' : List Arc3).length cap'], .int .i64 err]) ∧ GraphIn w' ao' cap' l' ∧ (∀ b off, ao' = some ⟨b, off, none⟩ → w.heap.size ≤ b) ∧ (graphErr n (-10000) l = 0 → n' = n ∧ l' = l.map turnA) := by
  by_cases hE : graphErr n (-10000) l = 0
  · refine (Turn_ok n ao cap l w hG.arcs hE).mono ?_
    rintro e w2 ⟨hb2, b2, hb2l, rfl, hT2, _⟩
    exact ⟨hb2, n, some ⟨b2, 0, none⟩, l.length, l.map turnA, 0, by rw [List.length_map], ⟨hT2, by simp, hG.len, fun e => by cases e⟩, fun b off e => by cases e; exact hb2l, fun _ => ⟨rfl, rfl⟩⟩
  · refine (Turn_err n ao cap l w hG.len hG.arcs hE).mono ?_
    rintro e w2 ⟨hb2, rfl⟩
    exact ⟨hb2, 0, none, 0, [], _, rfl, nil_in _, (fun b off e => by cases e), fun h => absurd h hE⟩

end Go.Proofs.Ytfmlgepoiaehgaa
