/- What the laws ask of package walk, said as contracts: Far, Path, Parts, Sides. -/
import Derived.Test.YtbnagipapgonpabSMath
import Derived.Test.YtbnagipapgonpabIsWay
namespace Go.Proofs.Ytbnagipapgonpab
open Go.RowKit
set_option linter.unusedVariables false

def farErr (n : Int) (l : List Arc3) (s : Int) : Int := if graphErr n (-10000) l = 0 then (if 0 ≤ s ∧ s < n then 0 else 4) else graphErr n (-10000) l

theorem farErr_ok {n : Int} {l : List Arc3} {s : Int} (h : farErr n l s = 0) : graphErr n (-10000) l = 0 ∧ 0 ≤ s ∧ s < n := by
  unfold farErr at h
  by_cases e : graphErr n (-10000) l = 0
  · rw [if_pos e] at h
    by_cases c : 0 ≤ s ∧ s < n
    · exact ⟨e, c⟩
    · rw [if_neg c] at h; cases h
  · rw [if_neg e] at h; exact absurd h e

theorem farErr_mk {n : Int} {l : List Arc3} {s : Int} (h : graphErr n (-10000) l = 0) (hs : 0 ≤ s ∧ s < n) : farErr n l s = 0 := by
  unfold farErr; rw [if_pos h, if_pos hs]

/-- an argument that is a graph -/
structure GraphIn (w : World) (ao : Option Addr) (cap : Nat) (l : List Arc3) : Prop where
  arcs : ArcsAt w ao l
  le : l.length ≤ cap
  max : cap ≤ maxLen
  nil : ao = none → l.length = 0 ∧ cap = 0

theorem GraphIn.below {B : Nat} {w w' : World} {ao : Option Addr} {cap : Nat} {l : List Arc3} (h : GraphIn w ao cap l) (hb : Below B w w') (hB : w.heap.size ≤ B) : GraphIn w' ao cap l := ⟨h.arcs.below hb hB, h.le, h.max, h.nil⟩
theorem GraphIn.alloc {w : World} {ao : Option Addr} {cap : Nat} {l : List Arc3} (h : GraphIn w ao cap l) (o : Obj) : GraphIn (w.alloc o) ao cap l := ⟨h.arcs.alloc o, h.le, h.max, h.nil⟩
theorem GraphIn.len {w : World} {ao : Option Addr} {cap : Nat} {l : List Arc3} (h : GraphIn w ao cap l) : l.length ≤ maxLen := Nat.le_trans h.le h.max




def SidesC : Prop := ∀ (n : Int) (ao : Option Addr) (cap : Nat) (l : List Arc3) (w : World), GraphIn w ao cap l →
  Calls Try.prog 4 #[.agg #[.int .i64 n, .slice ao l.length cap]] w fun e w' => Below w.heap.size w w' ∧
    ∃ ao' cap' S err, e = .returned (.tuple #[.slice ao' (S : List Int).length cap', .int .i64 err]) ∧ IntsAt w' ao' S ∧ (err ≠ 0 → S = []) ∧
      (graphErr n (-10000) l ≠ 0 → err = graphErr n (-10000) l) ∧
      (graphErr n (-10000) l = 0 → (err = 0 ∧ SidesIs n.toNat l S) ∨ (err = 6 ∧ ∀ T, ¬ SidesIs n.toNat l T))

end Go.Proofs.Ytbnagipapgonpab
