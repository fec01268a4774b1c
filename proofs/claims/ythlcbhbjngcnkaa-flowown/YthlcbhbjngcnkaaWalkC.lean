/- What the laws ask of package walk, said as contracts: Far, Path, Parts, Sides. -/
import Derived.Test.YthlcbhbjngcnkaaSMath
import Derived.Test.YthlcbhbjngcnkaaIsWay
namespace Go.Proofs.Ythlcbhbjngcnkaa
open Go.RowKit
set_option linter.unusedVariables false

def farErr (n : Int) (l : List Arc3) (s : Int) : Int := if graphErr n (-10000) l = 0 then (if 0 ≤ s ∧ s < n then 0 else 4) else graphErr n (-10000) l

theorem farErr_ok {n : Int} {l : List Arc3} {s : Int} (h : farErr n l s = 0) : graphErr n (-10000) l = 0 ∧ 0 ≤ s ∧ s < n := by
  unfold farErr at h
  by_cases e : graphErr n (-10000) l = 0
  · rw [if_pos e] at h
    by_cases c : 0 ≤ s ∧ s < n
    · exact ⟨e, c⟩
    · rw [if_neg c] at h; cases h
  · rw [if_neg e] at h; exact absurd h e

theorem farErr_mk {n : Int} {l : List Arc3} {s : Int} (h : graphErr n (-10000) l = 0) (hs : 0 ≤ s ∧ s < n) : farErr n l s = 0 := by
  unfold farErr; rw [if_pos h, if_pos hs]

/-- an argument that is a graph -/
structure GraphIn (w : World) (ao : Option Addr) (cap : Nat) (l : List Arc3) : Prop where
  arcs : ArcsAt w ao l
  le : l.length ≤ cap
  max : cap ≤ maxLen
  nil : ao = none → l.length = 0 ∧ cap = 0

theorem GraphIn.below {B : Nat} {w w' : World} {ao : Option Addr} {cap : Nat} {l : List Arc3} (h : GraphIn w ao cap l) (hb : Below B w w') (hB : w.heap.size ≤ B) : GraphIn w' ao cap l := ⟨h.arcs.below hb hB, h.le, h.max, h.nil⟩
theorem GraphIn.alloc {w : World} {ao : Option Addr} {cap : Nat} {l : List Arc3} (h : GraphIn w ao cap l) (o : Obj) : GraphIn (w.alloc o) ao cap l := ⟨h.arcs.alloc o, h.le, h.max, h.nil⟩
theorem GraphIn.len {w : World} {ao : Option Addr} {cap : Nat} {l : List Arc3} (h : GraphIn w ao cap l) : l.length ≤ maxLen := Nat.le_trans h.le h.max

theorem turn_err' {n least : Int} {l : List Arc3} (h : graphErr n least l = 0) : graphErr n least (l.map turnA) = 0 := by
  obtain ⟨h1, h2, h3⟩ := err_ok h
  refine err_mk ⟨h1, by simpa using h2, fun a ha => ?_⟩
  obtain ⟨x, hx, rfl⟩ := List.mem_map.1 ha
  have := h3 x hx
  exact ⟨this.2.1, this.1, this.2.2⟩

theorem nil_in (w : World) : GraphIn w none 0 [] := ⟨fun i hi => absurd hi (Nat.not_lt_zero _), Nat.le_refl _, Nat.zero_le _, fun _ => ⟨rfl, rfl⟩⟩





end Go.Proofs.Ythlcbhbjngcnkaa
