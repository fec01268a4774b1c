/- What the laws ask of package flow, said as contracts: Check, Value; and the laws' own helpers weir and flows. -/
import Derived.Test.YtlfhnhfhaifchaaNet
import Derived.Test.YtlfhnhfhaifchaaLits
namespace Go.Proofs.Ytlfhnhfhaifchaa
open Go.RowKit
set_option linter.unusedVariables false

/-- an argument that is a slice of integers -/
structure IntsIn (w : World) (ao : Option Addr) (cap : Nat) (f : List Int) : Prop where
  ints : IntsAt w ao f
  le : f.length ≤ cap
  max : cap ≤ maxLen
  nil : ao = none → f.length = 0 ∧ cap = 0
theorem IntsIn.below {B : Nat} {w w' : World} {ao : Option Addr} {cap : Nat} {f : List Int} (h : IntsIn w ao cap f) (hb : Below B w w') (hB : w.heap.size ≤ B) : IntsIn w' ao cap f := ⟨h.ints.below hb hB, h.le, h.max, h.nil⟩
theorem IntsIn.alloc {w : World} {ao : Option Addr} {cap : Nat} {f : List Int} (h : IntsIn w ao cap f) (o : Obj) : IntsIn (w.alloc o) ao cap f := ⟨h.ints.alloc o, h.le, h.max, h.nil⟩
theorem IntsIn.len {w : World} {ao : Option Addr} {cap : Nat} {f : List Int} (h : IntsIn w ao cap f) : f.length ≤ maxLen := Nat.le_trans h.le h.max

/-- P23 -/
def valueOf (n s t : Int) (l : List Arc3) (f : List Int) : Int := if flowErr n s t l f = 0 then gone l (ati f) s else 0

def FCheckC : Prop := ∀ (n s t : Int) (ao af : Option Addr) (cap capf : Nat) (l : List Arc3) (f : List Int) (w : World), GraphIn w ao cap l → IntsIn w af capf f →
  Calls Try.prog 14 #[.agg #[.int .i64 n, .int .i64 s, .int .i64 t, .slice ao l.length cap], .slice af f.length capf] w fun e w' => Below w.heap.size w w' ∧ e = .returned (.int .i64 (flowErr n s t l f))
def FValueC : Prop := ∀ (n s t : Int) (ao af : Option Addr) (cap capf : Nat) (l : List Arc3) (f : List Int) (w : World), GraphIn w ao cap l → IntsIn w af capf f →
  Calls Try.prog 28 #[.agg #[.int .i64 n, .int .i64 s, .int .i64 t, .slice ao l.length cap], .slice af f.length capf] w fun e w' => Below w.heap.size w w' ∧ e = .returned (.tuple #[.int .i64 (valueOf n s t l f), .int .i64 (flowErr n s t l f)])

def weirL : List Arc3 := [(0, 1, 4), (0, 2, 3), (1, 3, 2), (1, 2, 1), (2, 3, 3)]

set_option maxHeartbeats 800000 in
theorem weir_any (w : World) :
    Calls Try.prog 13 #[] w fun e w' => Below w.heap.size w w' ∧
      ∃ ao cap, e = .returned (.agg #[.int .i64 4, .int .i64 0, .int .i64 3, .slice ao 5 cap]) ∧ GraphIn w' ao cap weirL := by
  go_enter Try.func13, Try.ntmps13
  go_wp2_with fail
  have hL := arcs_new (w.alloc (.cells #[.int .i64 0, .int .i64 0, .int .i64 0, .slice none 0 0] 24)) weirL 57
  rw [World.size_alloc] at hL
  refine (arcs_any _ 5 weirL _ hL (by decide)).mono ?_
  rintro e w1 ⟨hb1, ao', cap', rfl, hA', hfr, hcl, hcm⟩
  have hz := hb1.size
  simp only [World.size_alloc] at hz hb1 hfr
  have hz0 : w.heap.size < w1.heap.size := by omega
  have x1 := blk_below hb1 (blk_old (blk_new w (.cells #[.int .i64 0, .int .i64 0, .int .i64 0, .slice none 0 0] 24)) _) (by omega)
  obtain ⟨r0, r1, r2, r3⟩ := blk4 x1
  have HA : Hid (ArcsAt w1 ao' weirL) := hA'
  have HF : Hid (∀ b off, ao' = some ⟨b, off, none⟩ → w.heap.size + 1 + 1 ≤ b) := hfr
  have HFz : Hid (∀ j, w1.frozen? ⟨w.heap.size, j, none⟩ = false) := fun j => by
    have r : w1.rowIs w.heap.size 24 4 (fun j => if j = 0 then .int .i64 0 else if j = 1 then .int .i64 0 else if j = 2 then .int .i64 0 else .slice none 0 0) := ⟨_, x1, rfl, fun i hi => by
      match i, hi with
      | 0, _ => rfl
      | 1, _ => rfl
      | 2, _ => rfl
      | 3, _ => rfl⟩
    exact r.frozen j
  have z0 := HFz.out 0
  have z1 := HFz.out 1
  have z2 := HFz.out 2
  have z3 := HFz.out 3
  have hll : weirL.length = 5 := rfl
  rw [hll] at hcl
  have hnn : ao' = none → weirL.length = 0 ∧ cap' = 0 := fun e => by
    obtain ⟨b, off, e', _⟩ := HA.out 0 (by decide)
    rw [e] at e'; cases e'
  have HNN : Hid (ao' = none → weirL.length = 0 ∧ cap' = 0) := hnn
  clear hA' hL hfr x1 hnn
  go_wp2
  refine bodyPost_ret (v := .agg #[.int .i64 4, .int .i64 0, .int .i64 3, .slice ao' 5 cap']) (by simp [results, Try.results13, go_sem, r0, r1, r2, r3]) rfl ⟨?_, ao', cap', rfl, ⟨?_, hcl, hcm, HNN.out⟩⟩
  · exact ((((((below_one w _).alloc (by simp) _).trans (hb1.mono (by omega))).setCell (by simp) _).setCell (by simp) _).setCell (by simp) _).setCell (by simp) _
  · exact (((HA.out.setElse (fun b off e => by have := HF.out b off e; simp; omega) _).setElse (fun b off e => by have := HF.out b off e; simp; omega) _).setElse (fun b off e => by have := HF.out b off e; simp; omega) _).setElse (fun b off e => by have := HF.out b off e; simp; omega) _

theorem weir_err : flowErr 4 0 3 weirL [3, 2, 2, 1, 3] = 0 := by decide
theorem weir_val : valueOf 4 0 3 weirL [3, 2, 2, 1, 3] = 5 := by decide


end Go.Proofs.Ytlfhnhfhaifchaa
