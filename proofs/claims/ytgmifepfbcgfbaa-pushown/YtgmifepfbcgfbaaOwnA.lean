/- Arcs that one may write to. -/
import Derived.Test.YtgmifepfbcgfbaaFlat
import Derived.Test.YtgmifepfbcgfbaaOwns
import Derived.Test.YtgmifepfbcgfbaaGErr
namespace Go.Proofs.Ytgmifepfbcgfbaa
open Go.RowKit
set_option linter.unusedVariables false

/-- the cells of a row are these arcs -/
def ArcR (f : Nat → Value) (l : List Arc3) : Prop := ∀ i, i < l.length → f (i * 3) = .int .i64 (at3 l i).1 ∧ f (i * 3 + 1) = .int .i64 (at3 l i).2.1 ∧ f (i * 3 + 2) = .int .i64 (at3 l i).2.2

/-- arcs in a row of our own -/
def OwnA (w : World) (B : Nat) (ao : Option Addr) (cap : Nat) (l : List Arc3) : Prop :=
  (ao = none ∧ cap = 0 ∧ l = []) ∨ ∃ g f, ao = some ⟨g, 0, none⟩ ∧ B ≤ g ∧ l.length ≤ cap ∧ cap ≤ maxLen ∧ w.rowIs g 35 (cap * 3) f ∧ ArcR f l

theorem own_arcs {w : World} {B : Nat} {v : Value} {l : List Arc3} (h : w.ownsRow B 35 3 v l.length (flat l)) : ∃ ao cap, v = .slice ao l.length cap ∧ OwnA w B ao cap l := by
  have hA := owns_arcs h
  rcases h.2 with ⟨rfl, hn⟩ | ⟨g, cap, cur, rfl, hB, hg, hle, hcap, hcs, htk⟩
  · exact ⟨none, 0, by rw [hn], Or.inl ⟨rfl, rfl, List.eq_nil_of_length_eq_zero hn⟩⟩
  · obtain ⟨ao', cap', e, hA, _, _, _⟩ := hA
    obtain ⟨rfl, rfl⟩ : ao' = some ⟨g, 0, none⟩ ∧ cap' = cap := by cases e; exact ⟨rfl, rfl⟩
    have hr : w.rowIs g 35 (cap' * 3) (fun i => cur.getD i (.bool false)) := ⟨cur, hg, hcs, fun i hi => by simp [Array.getD, hcs, hi]⟩
    refine ⟨_, _, rfl, Or.inr ⟨g, _, rfl, hB, hle, hcap, hr, fun i hi => ?_⟩⟩
    obtain ⟨b, off, e, _, c0, c1, c2⟩ := hA i hi
    cases e
    rw [Nat.zero_add] at c0 c1 c2
    have q0 := hr.cell (i := i * 3) (by omega)
    have q1 := hr.cell (i := i * 3 + 1) (by omega)
    have q2 := hr.cell (i := i * 3 + 2) (by omega)
    exact ⟨Option.some.inj (q0.symm.trans c0), Option.some.inj (q1.symm.trans c1), Option.some.inj (q2.symm.trans c2)⟩

theorem OwnA.graph {w : World} {B : Nat} {ao : Option Addr} {cap : Nat} {l : List Arc3} (h : OwnA w B ao cap l) : GraphIn w ao cap l := by
  rcases h with ⟨rfl, rfl, rfl⟩ | ⟨g, f, rfl, hB, hle, hcap, hr, hf⟩
  · exact nil_in w
  · refine ⟨fun i hi => ⟨g, 0, rfl, hr.lt, ?_, ?_, ?_⟩, hle, hcap, fun e => by cases e⟩
    · rw [Nat.zero_add, hr.cell (i := i * 3) (by omega), (hf i hi).1]
    · rw [Nat.zero_add, hr.cell (i := i * 3 + 1) (by omega), (hf i hi).2.1]
    · rw [Nat.zero_add, hr.cell (i := i * 3 + 2) (by omega), (hf i hi).2.2]
theorem OwnA.alloc {w : World} {B : Nat} {ao : Option Addr} {cap : Nat} {l : List Arc3} (h : OwnA w B ao cap l) (o : Obj) : OwnA (w.alloc o) B ao cap l := by
  rcases h with h | ⟨g, f, e, hB, hle, hcap, hr, hf⟩
  · exact Or.inl h
  · exact Or.inr ⟨g, f, e, hB, hle, hcap, hr.alloc o, hf⟩
theorem OwnA.drewN {w : World} {B : Nat} {ao : Option Addr} {cap : Nat} {l : List Arc3} (h : OwnA w B ao cap l) (q : Nat) : OwnA (w.drewN q) B ao cap l := by
  rcases h with h | ⟨g, f, e, hB, hle, hcap, hr, hf⟩
  · exact Or.inl h
  · refine Or.inr ⟨g, f, e, hB, hle, hcap, ?_, hf⟩
    induction q with
    | zero => exact hr
    | succ q ih => exact ih.drew
theorem OwnA.drew {w : World} {B : Nat} {ao : Option Addr} {cap : Nat} {l : List Arc3} (h : OwnA w B ao cap l) : OwnA w.drew B ao cap l := by
  rcases h with h | ⟨g, f, e, hB, hle, hcap, hr, hf⟩
  · exact Or.inl h
  · exact Or.inr ⟨g, f, e, hB, hle, hcap, hr.drew, hf⟩
/-- one arc: where it lies -/
theorem OwnA.at {w : World} {B : Nat} {ao : Option Addr} {cap : Nat} {l : List Arc3} (h : OwnA w B ao cap l) {i : Nat} (hi : i < l.length) : ∃ g, ao = some ⟨g, 0, none⟩ ∧ B ≤ g ∧ g < w.heap.size ∧ l.length ≤ cap ∧
    w.cell? ⟨g, i * 3 + 2, none⟩ = some (.int .i64 (at3 l i).2.2) ∧ w.frozen? ⟨g, i * 3 + 2, none⟩ = false := by
  rcases h with ⟨rfl, rfl, rfl⟩ | ⟨g, f, rfl, hB, hle, hcap, hr, hf⟩
  · exact absurd hi (Nat.not_lt_zero _)
  · exact ⟨g, rfl, hB, hr.lt, hle, by rw [hr.cell (i := i * 3 + 2) (by omega), (hf i hi).2.2], hr.frozen _⟩
/-- a length changed -/
theorem OwnA.set {w : World} {B : Nat} {g cap : Nat} {l m : List Arc3} (h : OwnA w B (some ⟨g, 0, none⟩) cap l) {i : Nat} (hi : i < l.length) {c : Int} (hlen : m.length = l.length) (hm : ∀ j, j < l.length → at3 m j = if j = i then ((at3 l i).1, (at3 l i).2.1, c) else at3 l j) :
    OwnA (w.setCell ⟨g, i * 3 + 2, none⟩ (.int .i64 c)) B (some ⟨g, 0, none⟩) cap m := by
  rcases h with ⟨e, _, _⟩ | ⟨g', f, e, hB, hle, hcap, hr, hf⟩
  · cases e
  · cases e
    refine Or.inr ⟨g, _, rfl, hB, by omega, hcap, hr.set (i * 3 + 2) _, fun j hj => ?_⟩
    rw [hlen] at hj
    have := hf j hj
    rw [hm j hj]
    by_cases e : j = i
    · subst e
      refine ⟨?_, ?_, ?_⟩
      · rw [if_neg (by omega)]; simpa using this.1
      · rw [if_neg (by omega)]; simpa using this.2.1
      · simp
    · refine ⟨?_, ?_, ?_⟩
      · rw [if_neg (by omega)]; simpa [e] using this.1
      · rw [if_neg (by omega)]; simpa [e] using this.2.1
      · rw [if_neg (by omega)]; simpa [e] using this.2.2

end Go.Proofs.Ytgmifepfbcgfbaa
