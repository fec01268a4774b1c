/- Contract of slices.Clone over arcs. -/
import Derived.Test.YtgmifepfbcgfbaaMk
import Derived.Test.YtgmifepfbcgfbaaFlat
namespace Go.Proofs.Ytgmifepfbcgfbaa
open Go.RowKit
set_option linter.unusedVariables false

set_option maxHeartbeats 400000 in
theorem clone_nil (w : World) :
    Calls Try.prog 16 #[.slice none 0 0] w fun e w' => e = .returned (.slice none 0 0) ∧ Below w.heap.size w w' := by
  have hq := @Lib.run_eql_slice_nil Try.prog
  go_enter Try.func16, Try.ntmps16
  go_wp2
  go_ret
  exact ⟨rfl, Below.refl _ _⟩

set_option maxHeartbeats 400000 in
theorem clone_some (a : Addr) (cap : Nat) (l : List Arc3) (w : World) (hA : ArcsAt w (some a) l) (hreach : l.length * 24 ≤ 140737488351232) :
    Calls Try.prog 16 #[.slice (some a) l.length cap] w fun e w' => Below w.heap.size w w' ∧
      ∃ v, e = .returned v ∧ w'.ownsRow w.heap.size 35 3 v l.length (flat l) := by
  have hq := @Lib.run_eql_slice_nil Try.prog
  obtain ⟨i0, hi, hz0, hz1, hz2⟩ := info_parts infoArc
  go_enter Try.func16, Try.ntmps16
  have hown : (w.alloc (.cells #[] 35)).ownsRow w.heap.size 35 3 (.slice (some ⟨w.heap.size, 0, none⟩) 0 0) 0 [] :=
    ⟨rfl, Or.inr ⟨w.heap.size, 0, #[], rfl, Nat.le_refl _, blk_new _ _, Nat.le_refl _, Nat.zero_le _, rfl, rfl⟩⟩
  have hnews : ∀ j u, (flat l)[j]? = some u → (w.alloc (.cells #[] 35)).cell? (a.add j) = some u := by
    intro j u hj
    have hl : 0 < l.length := by
      have := (List.getElem?_eq_some_iff.1 hj).1
      rw [flat_length] at this; omega
    obtain ⟨b, off, e, _⟩ := hA 0 hl
    cases e
    have := arcs_from (hA.alloc (.cells #[] 35)) 0 l (fun i hi => ⟨by omega, by rw [Nat.zero_add]⟩) j u hj
    rw [Go.WideShapes.add_plain]
    simpa using this
  have HO : Hid ((w.alloc (.cells #[] 35)).ownsRow w.heap.size 35 3 (.slice (some ⟨w.heap.size, 0, none⟩) 0 0) 0 []) := hown
  have HN : Hid (∀ j u, (flat l)[j]? = some u → (w.alloc (.cells #[] 35)).cell? (a.add j) = some u) := hnews
  have HM : Hid (0 + l.length ≤ maxLen) := by unfold Hid maxLen; omega
  clear hown hnews
  go_wp2_with (at_builtin; refine wpList_append_own _ rfl (.tmp 5) (.tmp 6) 22 rfl w.heap.size 35 i0 _ 3 24 Try.underlying22 hi hz0 hz1 hz2 rfl (by decide) _ _ _ rfl HO.out a l.length cap (flat l) rfl (flat_length l) HN.out (oneFlat l) HM.out (by omega) (by simp) ?_; intro v' w1 hown' hgrow _)
  have hB' : Below w.heap.size w w1 := (below_one w _).grown hgrow (by simp) (by
    intro g hg
    simp only [Value.ownBlock] at hg
    cases hg
    exact Nat.le_refl _)
  simp only [Nat.zero_add, List.nil_append] at hown'
  clear hgrow
  go_wp2
  go_ret
  exact ⟨hB', _, rfl, hown'⟩

theorem clone_own (ao : Option Addr) (cap : Nat) (l : List Arc3) (w : World) (hA : ArcsAt w ao l) (hn : ao = none → l.length = 0 ∧ cap = 0) (hreach : l.length * 24 ≤ 140737488351232) :
    Calls Try.prog 16 #[.slice ao l.length cap] w fun e w' => Below w.heap.size w w' ∧
      ∃ v, e = .returned v ∧ w'.ownsRow w.heap.size 35 3 v l.length (flat l) := by
  cases ao with
  | none =>
    obtain ⟨h1, h2⟩ := hn rfl
    subst h2
    rw [h1]
    have hl : l = [] := List.eq_nil_of_length_eq_zero h1
    refine (clone_nil w).mono fun e w' ⟨he, hb⟩ => ⟨hb, _, he, ?_⟩
    rw [hl]
    exact World.ownsRow_nil _ _ _ _
  | some a => exact clone_some a cap l w hA hreach

theorem clone_any (ao : Option Addr) (cap : Nat) (l : List Arc3) (w : World) (hA : ArcsAt w ao l) (hn : ao = none → l.length = 0 ∧ cap = 0) (hreach : l.length * 24 ≤ 140737488351232) :
    Calls Try.prog 16 #[.slice ao l.length cap] w fun e w' => Below w.heap.size w w' ∧
      ∃ ao' cap', e = .returned (.slice ao' l.length cap') ∧ ArcsAt w' ao' l ∧ (∀ b off, ao' = some ⟨b, off, none⟩ → w.heap.size ≤ b) := by
  refine (clone_own ao cap l w hA hn hreach).mono fun e w' ⟨hb, v, he, hown⟩ => ⟨hb, ?_⟩
  obtain ⟨ao', cap', rfl, hA', hfr, _, _⟩ := owns_arcs hown
  exact ⟨ao', cap', he, hA', hfr⟩

end Go.Proofs.Ytgmifepfbcgfbaa
