/- Plain facts on the errors of graphs. -/
import Derived.Test.YtmneajmfoljflaaGraph
namespace Go.Proofs.Ytmneajmfoljflaa
open Go.RowKit
set_option linter.unusedVariables false

theorem err_len {n least : Int} {l : List Arc3} (h : graphErr n least l = 0) : l.length ≤ 60 := by
  unfold graphErr at h
  split at h
  · cases h
  · split at h
    · cases h
    · omega

theorem arcsErr_all {n least : Int} {l : List Arc3} (h : arcsErr n least l = 0) : ∀ a ∈ l, arcErr n least a.1 a.2.1 a.2.2 = 0 := by
  induction l with
  | nil => intro a ha; cases ha
  | cons x r ih =>
    intro a ha
    simp only [arcsErr] at h
    by_cases e : arcErr n least x.1 x.2.1 x.2.2 = 0
    · rw [if_pos e] at h
      rcases List.mem_cons.1 ha with rfl | ha
      · exact e
      · exact ih h a ha
    · rw [if_neg e] at h; exact absurd h e

theorem arcErr_ok {n least f t c : Int} (h : arcErr n least f t c = 0) : (0 ≤ f ∧ f < n) ∧ (0 ≤ t ∧ t < n) ∧ least ≤ c ∧ c ≤ 10000 := by
  unfold arcErr at h
  split at h
  · rename_i hb
    simp only [isN, Bool.and_eq_true, decide_eq_true_eq] at hb
    split at h
    · rename_i hc; exact ⟨hb.1, hb.2, hc⟩
    · cases h
  · cases h

theorem err_ok {n least : Int} {l : List Arc3} (h : graphErr n least l = 0) : (1 ≤ n ∧ n ≤ 12) ∧ l.length ≤ 60 ∧ ∀ a ∈ l, (0 ≤ a.1 ∧ a.1 < n) ∧ (0 ≤ a.2.1 ∧ a.2.1 < n) ∧ least ≤ a.2.2 ∧ a.2.2 ≤ 10000 := by
  have hl := err_len h
  unfold graphErr at h
  split at h
  · cases h
  · split at h
    · cases h
    · exact ⟨by omega, hl, fun a ha => arcErr_ok (arcsErr_all h a ha)⟩

theorem arcErr_mk {n least f t c : Int} (h : (0 ≤ f ∧ f < n) ∧ (0 ≤ t ∧ t < n) ∧ least ≤ c ∧ c ≤ 10000) : arcErr n least f t c = 0 := by
  unfold arcErr
  rw [if_pos (by simp only [isN, Bool.and_eq_true, decide_eq_true_eq]; exact ⟨h.1, h.2.1⟩), if_pos h.2.2]

theorem arcsErr_mk {n least : Int} {l : List Arc3} (h : ∀ a ∈ l, (0 ≤ a.1 ∧ a.1 < n) ∧ (0 ≤ a.2.1 ∧ a.2.1 < n) ∧ least ≤ a.2.2 ∧ a.2.2 ≤ 10000) : arcsErr n least l = 0 := by
  induction l with
  | nil => rfl
  | cons a r ih =>
    rw [arcsErr, if_pos (arcErr_mk (h a (List.mem_cons_self ..)))]
    exact ih fun x hx => h x (List.mem_cons_of_mem _ hx)

theorem err_mk {n least : Int} {l : List Arc3} (h : (1 ≤ n ∧ n ≤ 12) ∧ l.length ≤ 60 ∧ ∀ a ∈ l, (0 ≤ a.1 ∧ a.1 < n) ∧ (0 ≤ a.2.1 ∧ a.2.1 < n) ∧ least ≤ a.2.2 ∧ a.2.2 ≤ 10000) : graphErr n least l = 0 := by
  rw [graphErr, if_neg (by omega), if_neg (by omega)]
  exact arcsErr_mk h.2.2

/-- an argument that is a graph -/
structure GraphIn (w : World) (ao : Option Addr) (cap : Nat) (l : List Arc3) : Prop where
  arcs : ArcsAt w ao l
  le : l.length ≤ cap
  max : cap ≤ maxLen
  nil : ao = none → l.length = 0 ∧ cap = 0

theorem GraphIn.below {B : Nat} {w w' : World} {ao : Option Addr} {cap : Nat} {l : List Arc3} (h : GraphIn w ao cap l) (hb : Below B w w') (hB : w.heap.size ≤ B) : GraphIn w' ao cap l := ⟨h.arcs.below hb hB, h.le, h.max, h.nil⟩
theorem GraphIn.alloc {w : World} {ao : Option Addr} {cap : Nat} {l : List Arc3} (h : GraphIn w ao cap l) (o : Obj) : GraphIn (w.alloc o) ao cap l := ⟨h.arcs.alloc o, h.le, h.max, h.nil⟩
theorem GraphIn.len {w : World} {ao : Option Addr} {cap : Nat} {l : List Arc3} (h : GraphIn w ao cap l) : l.length ≤ maxLen := Nat.le_trans h.le h.max

theorem turn_err' {n least : Int} {l : List Arc3} (h : graphErr n least l = 0) : graphErr n least (l.map turnA) = 0 := by
  obtain ⟨h1, h2, h3⟩ := err_ok h
  refine err_mk ⟨h1, by simpa using h2, fun a ha => ?_⟩
  obtain ⟨x, hx, rfl⟩ := List.mem_map.1 ha
  have := h3 x hx
  exact ⟨this.2.1, this.1, this.2.2⟩

theorem nil_in (w : World) : GraphIn w none 0 [] := ⟨fun i hi => absurd hi (Nat.not_lt_zero _), Nat.le_refl _, Nat.zero_le _, fun _ => ⟨rfl, rfl⟩⟩

end Go.Proofs.Ytmneajmfoljflaa
