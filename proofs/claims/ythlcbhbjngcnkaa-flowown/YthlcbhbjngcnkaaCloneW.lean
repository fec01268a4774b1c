/- slices.Clone of integers, however many. -/
import Derived.Test.YthlcbhbjngcnkaaOwnIs
namespace Go.Proofs.Ythlcbhbjngcnkaa
open Go.RowKit
set_option linter.unusedVariables false

set_option maxHeartbeats 400000 in
theorem cloneI_wide (a : Addr) (cap : Nat) (l : List Int) (w : World) (hA : IntsAt w (some a) l) (hr : l.length * 8 ≤ 140737488351232) :
    Calls Try.prog 18 #[.slice (some a) l.length cap] w fun e w' => Below w.heap.size w w' ∧
      ∃ v, e = .returned v ∧ w'.ownsRow w.heap.size 3 1 v l.length (flati l) := by
  have hq := @Lib.run_eql_slice_nil Try.prog
  obtain ⟨i0, hi, hz0, hz1, hz2⟩ := info_parts infoInt
  go_enter Try.func18, Try.ntmps18
  have hown : (w.alloc (.cells #[] 3)).ownsRow w.heap.size 3 1 (.slice (some ⟨w.heap.size, 0, none⟩) 0 0) 0 [] :=
    ⟨rfl, Or.inr ⟨w.heap.size, 0, #[], rfl, Nat.le_refl _, blk_new _ _, Nat.le_refl _, Nat.zero_le _, rfl, rfl⟩⟩
  have hnews : ∀ j u, (flati l)[j]? = some u → (w.alloc (.cells #[] 3)).cell? (a.add j) = some u := by
    intro j u hj
    have hl : j < l.length := by
      have := (List.getElem?_eq_some_iff.1 hj).1
      simpa [flati] using this
    obtain ⟨b, off, e, _, c⟩ := (hA.alloc (.cells #[] 3)) j hl
    cases e
    rw [Go.WideShapes.add_plain]
    have : (flati l)[j]? = some (.int .i64 (ati l j)) := by simp [flati, hl, ati_lt]
    rw [hj] at this
    cases this
    simpa using c
  have HO : Hid ((w.alloc (.cells #[] 3)).ownsRow w.heap.size 3 1 (.slice (some ⟨w.heap.size, 0, none⟩) 0 0) 0 []) := hown
  have HN : Hid (∀ j u, (flati l)[j]? = some u → (w.alloc (.cells #[] 3)).cell? (a.add j) = some u) := hnews
  have HM : Hid (0 + l.length ≤ maxLen) := by unfold Hid maxLen; omega
  clear hown hnews
  go_wp2_with (at_builtin; refine wpList_append_own _ rfl (.tmp 5) (.tmp 6) 25 rfl w.heap.size 3 i0 _ 1 8 Try.underlying25 hi hz0 hz1 hz2 rfl (by decide) _ _ _ rfl HO.out a l.length cap (flati l) rfl (flati_length l) HN.out (oneFlati l) HM.out (by omega) (by simp) ?_; intro v' w1 hown' hgrow _)
  have hB' : Below w.heap.size w w1 := (below_one w _).grown hgrow (by simp) (by
    intro g hg
    simp only [Value.ownBlock] at hg
    cases hg
    exact Nat.le_refl _)
  simp only [Nat.zero_add, List.nil_append] at hown'
  clear hgrow
  go_wp2
  go_ret
  exact ⟨hB', _, rfl, hown'⟩


theorem cloneI_all (ao : Option Addr) (cap : Nat) (l : List Int) (w : World) (hA : IntsAt w ao l) (hn : ao = none → l.length = 0 ∧ cap = 0) (hr : l.length * 8 ≤ 140737488351232) :
    Calls Try.prog 18 #[.slice ao l.length cap] w fun e w' => Below w.heap.size w w' ∧
      ∃ ao' cap', e = .returned (.slice ao' l.length cap') ∧ IntsAt w' ao' l := by
  cases ao with
  | none =>
    obtain ⟨h1, h2⟩ := hn rfl
    subst h2
    have hl : l = [] := List.eq_nil_of_length_eq_zero h1
    subst hl
    exact (cloneI_nil w).mono fun e w' ⟨he, hb⟩ => ⟨hb, none, 0, he, fun i hi => absurd hi (Nat.not_lt_zero _)⟩
  | some a =>
    refine (cloneI_wide a cap l w hA hr).mono fun e w' ⟨hb, v, he, hown⟩ => ⟨hb, ?_⟩
    obtain ⟨ao', cap', e', h, _⟩ := owns_ints hown
    subst e'
    exact ⟨ao', cap', he, h⟩

end Go.Proofs.Ythlcbhbjngcnkaa
