/- The laws' own helper rounds, out of the contracts of Can and Trail. -/
import Derived.Test.YtkcjemhbenkglaaEulerC
import Derived.Test.YtkcjemhbenkglaaLits
namespace Go.Proofs.Ytkcjemhbenkglaa
open Go.RowKit
set_option linter.unusedVariables false

def roundL : List Arc3 := [(0, 1, 0), (1, 2, 0), (2, 0, 0)]

theorem round_can : CanIs roundL 2 := by
  have j1 : Jn roundL 0 1 := Jn.arc (a := (0, 1, 0)) (by simp [roundL])
  have j2 : Jn roundL 1 2 := Jn.arc (a := (1, 2, 0)) (by simp [roundL])
  have key : ∀ a ∈ roundL, Jn roundL 0 a.1 := by
    intro a ha
    simp [roundL] at ha
    rcases ha with rfl | rfl | rfl
    · exact Jn.refl _ _
    · exact j1
    · exact j1.trans j2
  refine Or.inl ⟨rfl, fun a ha b hb => (key a ha).symm.trans (key b hb), fun v => ?_⟩
  simp only [roundL, od_cons, idg_cons]
  have : od [] v = 0 := rfl
  have : idg [] v = 0 := rfl
  omega

theorem round_in {w : World} {ao : Option Addr} {cap : Nat} (hA : ArcsAt w ao roundL) (h1 : 3 ≤ cap) (h2 : cap ≤ maxLen) : GraphIn w ao cap roundL := by
  refine ⟨hA, h1, h2, fun e => ?_⟩
  obtain ⟨b, off, e', _⟩ := hA 0 (by decide)
  rw [e] at e'; cases e'

set_option maxHeartbeats 1000000 in
theorem rounds_any (hC : CanC) (hT : TrailC) (w : World) : Calls Try.prog 12 #[] w fun e w' => e = .returned (.bool true) ∧ Below w.heap.size w w' := by
  have hE : graphErr 3 (-10000) roundL = 0 := by decide
  go_enter Try.func12, Try.ntmps12
  go_wp2_with fail
  have hL := arcs_new w roundL 54
  refine (arcs_any _ 3 roundL _ hL (by decide)).mono ?_
  rintro e w1 ⟨hb1, ao', cap', rfl, hA', hfr, hcl, hcm⟩
  have hz := hb1.size
  simp only [World.size_alloc] at hz hb1 hfr
  have hll : roundL.length = 3 := rfl
  rw [hll] at hcl ⊢
  have hbb1 := below_in hb1 (by omega)
  clear hL hb1 hfr
  have hG1 := (round_in hA' hcl hcm).alloc (.cells #[.int .i64 3, .slice ao' 3 cap'] 24)
  have x1 := blk_new w1 (.cells #[.int .i64 3, .slice ao' 3 cap'] 24)
  have hbb1 := hbb1.alloc (by omega) (.cells #[.int .i64 3, .slice ao' 3 cap'] 24)
  go_wp2_with fail
  refine (hT 3 ao' cap' roundL _ hG1).mono ?_
  rintro e w2 ⟨hb2, ao2, cap2, K, err, rfl, hI2, _, _, _, hy⟩
  have hK : err = 0 ∧ K.length = 3 := by
    rcases hy hE with ⟨_, _, h0⟩ | ⟨e0, _, s, t, _, hTr⟩
    · have := h0.unique round_can; omega
    · exact ⟨e0, hTr.len⟩
  obtain ⟨rfl, hK⟩ := hK
  rw [hK]
  simp only [World.size_alloc] at hb2
  have hz2 := hb2.size
  simp only [World.size_alloc] at hz2
  have x2 := blk_below hb2 x1 (by omega)
  have hG2 := hG1.below hb2 (by simp)
  have hbb2 := hbb1.trans (hb2.mono (by omega))
  obtain ⟨r0, r1, f0, f1⟩ := blk2 x2
  have hw1 : w1.heap.size < w2.heap.size := by omega
  clear hb2 hy hI2 hG1 x1 hbb1 hK
  go_wp2_with fail
  refine (hC 3 ao' cap' roundL _ hG2).mono ?_
  rintro e w3 ⟨hb3, k, rfl, _, hy⟩
  have hk : k = 2 := (hy hE).unique round_can
  subst hk
  rw [hE]
  have hbb3 := hbb2.trans (hb3.mono (by omega))
  have h00 : ((0 : Int) == 0) = true := rfl
  have h22 : ((2 : Int) == 2) = true := rfl
  have h33 : ((3 : Int) == 3) = true := rfl
  clear hb3 hy hG2 x2 hbb2 r0 r1 f0 f1
  go_wp2
  go_ret
  exact ⟨rfl, hbb3⟩

end Go.Proofs.Ytkcjemhbenkglaa
