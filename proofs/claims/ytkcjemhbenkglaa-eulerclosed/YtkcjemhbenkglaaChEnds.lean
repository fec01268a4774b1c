/- Plain facts on chains: where they begin and end. -/
import Derived.Test.YtkcjemhbenkglaaEMath
namespace Go.Proofs.Ytkcjemhbenkglaa
set_option linter.unusedVariables false

theorem ChN.first {l : List Arc3} {K : List Nat} {s t : Int} (h : ChN l s K t) (hK : 0 < K.length) : (at3 l (K.getD 0 0)).1 = s := by
  cases K with
  | nil => simp at hK
  | cons k r => exact h.2.1

theorem ChN.last {l : List Arc3} : ∀ {K : List Nat} {s t : Int}, ChN l s K t → 0 < K.length → (at3 l (K.getD (K.length - 1) 0)).2.1 = t
  | [], _, _, _, hK => by simp at hK
  | [k], _, _, ⟨_, _, h⟩, _ => h
  | k :: j :: r, s, t, ⟨_, _, h⟩, _ => by
    have := ChN.last (K := j :: r) h (by simp)
    simpa using this

end Go.Proofs.Ytkcjemhbenkglaa
