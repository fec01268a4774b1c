/- The laws' own helper walks, out of the contract of Far. -/
import Derived.Test.YtbnagipapgonpaaWalkC
import Derived.Test.YtbnagipapgonpaaLits
import Derived.Test.YtbnagipapgonpaaSl
namespace Go.Proofs.Ytbnagipapgonpaa
open Go.RowKit
set_option linter.unusedVariables false

theorem line_in {w : World} {ao : Option Addr} {cap : Nat} (hA : ArcsAt w ao lineL) (h1 : 2 ≤ cap) (h2 : cap ≤ maxLen) : GraphIn w ao cap lineL := by
  refine ⟨hA, h1, h2, fun e => ?_⟩
  obtain ⟨b, off, e', _⟩ := hA 0 (by decide)
  rw [e] at e'; cases e'

theorem wk_node {l : List Arc3} {s : Int} {k : Nat} {v : Int} (h : Wk l s k v) : v = s ∨ ∃ a ∈ l, a.2.1 = v := by
  cases k with
  | zero => exact Or.inl h
  | succ k => obtain ⟨a, ha, _, e⟩ := h; exact Or.inr ⟨a, ha, e⟩

theorem far_line : FarIs 3 lineL 0 [0, 1, 2] := by
  have w1 : Wk lineL 0 1 1 := ⟨(0, 1, 4), by simp [lineL], rfl, rfl⟩
  have w2 : Wk lineL 0 2 2 := ⟨(1, 2, 3), by simp [lineL], w1, rfl⟩
  have n0 : ∀ v : Int, Wk lineL 0 0 v → v = 0 := fun v h => h
  have n1 : ∀ v : Int, Wk lineL 0 1 v → v = 1 := by
    rintro v ⟨a, ha, h0, e⟩
    have := n0 _ h0
    simp [lineL] at ha
    rcases ha with rfl | rfl
    · exact e.symm
    · simp at this
  refine ⟨rfl, fun v hv => ?_⟩
  rcases (by omega : v = 0 ∨ v = 1 ∨ v = 2) with rfl | rfl | rfl
  · exact Or.inr ⟨0, rfl, rfl, fun k _ => Nat.zero_le _⟩
  · refine Or.inr ⟨1, rfl, w1, fun k hk => ?_⟩
    rcases Nat.eq_zero_or_pos k with e | e
    · subst e; have := n0 _ hk; simp at this
    · omega
  · refine Or.inr ⟨2, rfl, w2, fun k hk => ?_⟩
    rcases (by omega : k = 0 ∨ k = 1 ∨ 2 ≤ k) with e | e | e
    · subst e; have := n0 _ hk; simp at this
    · subst e; have := n1 _ hk; simp at this
    · exact e

set_option maxHeartbeats 400000 in
theorem walks_any (hC : FarC) (w : World) : Calls Try.prog 19 #[] w fun e w' => e = .returned (.bool true) ∧ Below w.heap.size w w' := by
  go_enter Try.func19, Try.ntmps19
  go_wp2_with fail
  refine (line_any _).mono ?_
  rintro e w1 ⟨hb1, ao1, cap1, rfl, hA1, hc1, hm1⟩
  have hz1 := hb1.size
  go_wp2_with fail
  have hF := hC 3 0 ao1 cap1 lineL w1 (line_in hA1 hc1 hm1)
  have he : farErr 3 lineL 0 = 0 := by decide
  rw [he] at hF
  refine hF.mono ?_
  clear hF
  rintro e w2 ⟨hb2, ao2, cap2, F, rfl, hI2, _, hF2⟩
  have hFF : F = [0, 1, 2] := FarIs.unique (hF2 rfl) far_line
  subst hFF
  have hz2 := hb2.size
  have hbb2 := hb1.trans (hb2.mono (by omega))
  have h00 : ((0 : Int) == 0) = true := rfl
  clear hb1 hb2 hF2
  go_wp2_with fail
  refine (equalIntsB ao2 _ cap2 3 [0, 1, 2] [0, 1, 2] _ (by decide) (by decide) (hI2.alloc _) (ints_new w2 [0, 1, 2] 3)).mono ?_
  rintro e w3 ⟨rfl, hb3⟩
  rw [decide_eq_true (rfl : ([0, 1, 2] : List Int) = [0, 1, 2])]
  have hbb3 := (hbb2.alloc (by omega) _).trans (hb3.mono (by simp; omega))
  clear hb3
  go_wp2
  go_ret
  exact ⟨rfl, hbb3⟩

end Go.Proofs.Ytbnagipapgonpaa
