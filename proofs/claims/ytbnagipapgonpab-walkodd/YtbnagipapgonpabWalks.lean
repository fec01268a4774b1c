/- The laws' own helper walks, out of the contract of Far. -/
import Derived.Test.YtbnagipapgonpabWalkC
import Derived.Test.YtbnagipapgonpabLits
import Derived.Test.YtbnagipapgonpabSl
namespace Go.Proofs.Ytbnagipapgonpab
open Go.RowKit
set_option linter.unusedVariables false

theorem line_in {w : World} {ao : Option Addr} {cap : Nat} (hA : ArcsAt w ao lineL) (h1 : 2 ≤ cap) (h2 : cap ≤ maxLen) : GraphIn w ao cap lineL := by
  refine ⟨hA, h1, h2, fun e => ?_⟩
  obtain ⟨b, off, e', _⟩ := hA 0 (by decide)
  rw [e] at e'; cases e'

theorem wk_node {l : List Arc3} {s : Int} {k : Nat} {v : Int} (h : Wk l s k v) : v = s ∨ ∃ a ∈ l, a.2.1 = v := by
  cases k with
  | zero => exact Or.inl h
  | succ k => obtain ⟨a, ha, _, e⟩ := h; exact Or.inr ⟨a, ha, e⟩

theorem far_line : FarIs 3 lineL 0 [0, 1, 2] := by
  have w1 : Wk lineL 0 1 1 := ⟨(0, 1, 4), by simp [lineL], rfl, rfl⟩
  have w2 : Wk lineL 0 2 2 := ⟨(1, 2, 3), by simp [lineL], w1, rfl⟩
  have n0 : ∀ v : Int, Wk lineL 0 0 v → v = 0 := fun v h => h
  have n1 : ∀ v : Int, Wk lineL 0 1 v → v = 1 := by
    rintro v ⟨a, ha, h0, e⟩
    have := n0 _ h0
    simp [lineL] at ha
    rcases ha with rfl | rfl
    · exact e.symm
    · simp at this
  refine ⟨rfl, fun v hv => ?_⟩
  rcases (by omega : v = 0 ∨ v = 1 ∨ v = 2) with rfl | rfl | rfl
  · exact Or.inr ⟨0, rfl, rfl, fun k _ => Nat.zero_le _⟩
  · refine Or.inr ⟨1, rfl, w1, fun k hk => ?_⟩
    rcases Nat.eq_zero_or_pos k with e | e
    · subst e; have := n0 _ hk; simp at this
    · omega
  · refine Or.inr ⟨2, rfl, w2, fun k hk => ?_⟩
    rcases (by omega : k = 0 ∨ k = 1 ∨ 2 ≤ k) with e | e | e
    · subst e; have := n0 _ hk; simp at this
    · subst e; have := n1 _ hk; simp at this
    · exact e

end Go.Proofs.Ytbnagipapgonpab
