/- A region that draws, whose operations only read and whose callees make memory but answer one value: walked once, in the order of the text. -/
import Derived.Test.YtgmifepfbcgfbaaBase
import Derived.BigQuiet
namespace Go.Proofs.Ytgmifepfbcgfbaa
open Go.RowKit
set_option linter.unusedVariables false

/-- a world in which all that lay there lies as it did -/
structure Onw (W : World) where
  w : World
  ok : Below W.heap.size W w
theorem wp_region_onw {P : Program} {id : Nat} {Q : Exit → Act → World → Prop} {a : Act} {w : World} {l : List Oper} (hm : P.follows .mixedOrders = true) (hB : Region.lexB .any l.toArray = true)
    (h : wpQuiet P l.toArray (fun x => ∃ j : Onw w, x = j.w) (fun a' => ∀ w', (∃ j : Onw w, w' = j.w) → Q .normal a' w') l a) : (Code.region id l.toArray true).wp P Q a w :=
  wp_region_quiet (C := fun x => ∃ j : Onw w, x = j.w) hm hB ⟨⟨w.drew, (Below.refl _ _).drew⟩, rfl⟩ (by simpa using h)

end Go.Proofs.Ytgmifepfbcgfbaa
