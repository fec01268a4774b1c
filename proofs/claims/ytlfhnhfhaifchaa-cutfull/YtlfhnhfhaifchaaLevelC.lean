/- What the laws ask of package level, said as a contract: Of. -/
import Derived.Test.YtlfhnhfhaifchaaMostC
namespace Go.Proofs.Ytlfhnhfhaifchaa
open Go.RowKit
set_option linter.unusedVariables false

/-- what Of tells, err being what is wrong: a flow as most.Of tells one, and how many rounds it took -/
structure LevelTells (n s t : Int) (l : List Arc3) (F : List Int) (v r err : Int) : Prop where
  most : MostTells n s t l F v err
  none : err ≠ 0 → r = 0
  low : err = 0 → 0 ≤ r ∧ r < n ∧ (r = 0 ↔ v = 0)
  ones : err = 0 → (∀ k, k < l.length → (at3 l k).2.2 = 1) → ∀ q : Nat, l.length < (q + 1) * (q + 1) → r ≤ 2 * q + 2

def LOfC : Prop := ∀ (n s t : Int) (ao : Option Addr) (cap : Nat) (l : List Arc3) (w : World), GraphIn w ao cap l →
  Calls Try.prog 7 #[.agg #[.int .i64 n, .int .i64 s, .int .i64 t, .slice ao l.length cap]] w fun e w' => Below w.heap.size w w' ∧
    ∃ a1 c1 F v r, e = .returned (.tuple #[.slice a1 (F : List Int).length c1, .int .i64 v, .int .i64 r, .int .i64 (netErr n s t l)]) ∧ IntsIn w' a1 c1 F ∧ LevelTells n s t l F v r (netErr n s t l)

theorem LevelTells.weir {F : List Int} {v r : Int} (h : LevelTells 4 0 3 weirL F v r 0) : v = 5 ∧ F.length = 5 ∧ 1 ≤ r ∧ r ≤ 3 ∧ flowErr 4 0 3 weirL F = 0 := by
  have h1 : 5 = v := weir_max.unique weir_net (h.most.most rfl)
  obtain ⟨hf, _⟩ := h.most.flow rfl
  obtain ⟨l1, l2, l3⟩ := h.low rfl
  have : r ≠ 0 := fun e => by have := l3.1 e; omega
  exact ⟨h1.symm, hf.len, by omega, by omega, flow_mk weir_net hf⟩

end Go.Proofs.Ytlfhnhfhaifchaa
