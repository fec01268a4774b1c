/- Texts joined: IsWay, WalkC. -/
import Derived.Test.YtmneajmfoljflaaWMath
import Derived.Test.YtmneajmfoljflaaSMath

/- Contract of the document's own IsWay, where it is a way. -/
namespace Go.Proofs.Ytmneajmfoljflaa
open Go.RowKit
set_option linter.unusedVariables false

/-- arcs by their numbers, each from where the one ahead leads to -/
def Chain (l : List Arc3) : Int → List Int → Int → Prop
  | s, [], t => s = t
  | s, k :: r, t => ∃ j : Nat, k = j ∧ j < l.length ∧ (at3 l j).1 = s ∧ Chain l (at3 l j).2.1 r t

end Go.Proofs.Ytmneajmfoljflaa

/- What the laws ask of package walk, said as contracts: Far, Path, Parts, Sides. -/
namespace Go.Proofs.Ytmneajmfoljflaa
open Go.RowKit
set_option linter.unusedVariables false

def farErr (n : Int) (l : List Arc3) (s : Int) : Int := if graphErr n (-10000) l = 0 then (if 0 ≤ s ∧ s < n then 0 else 4) else graphErr n (-10000) l

theorem farErr_ok {n : Int} {l : List Arc3} {s : Int} (h : farErr n l s = 0) : graphErr n (-10000) l = 0 ∧ 0 ≤ s ∧ s < n := by
  unfold farErr at h
  by_cases e : graphErr n (-10000) l = 0
  · rw [if_pos e] at h
    by_cases c : 0 ≤ s ∧ s < n
    · exact ⟨e, c⟩
    · rw [if_neg c] at h; cases h
  · rw [if_neg e] at h; exact absurd h e

theorem farErr_mk {n : Int} {l : List Arc3} {s : Int} (h : graphErr n (-10000) l = 0) (hs : 0 ≤ s ∧ s < n) : farErr n l s = 0 := by
  unfold farErr; rw [if_pos h, if_pos hs]





end Go.Proofs.Ytmneajmfoljflaa
