/- The law FlowTurned, walked, out of the contract of Value. -/
import Derived.Test.YtpomdnjfogfnbaaFlowC
import Derived.Test.YtpomdnjfogfnbaaTurnedN
namespace Go.Proofs.Ytpomdnjfogfnbaa
open Go.RowKit
set_option linter.unusedVariables false

set_option maxHeartbeats 800000 in
theorem FlowTurned_any (hC : FValueC) (n s t : Int) (ao af : Option Addr) (cap capf : Nat) (l : List Arc3) (f : List Int) (w : World) (hG : GraphIn w ao cap l) (hF : IntsIn w af capf f) :
    Calls Try.prog 5 #[.agg #[.int .i64 n, .int .i64 s, .int .i64 t, .slice ao l.length cap], .slice af f.length capf] w fun e w' => e = .returned (.bool true) ∧ Below w.heap.size w w' := by
  have hG0 := hG.alloc (.cells #[.int .i64 n, .int .i64 s, .int .i64 t, .slice ao l.length cap] 24)
  have hF0 := hF.alloc (.cells #[.int .i64 n, .int .i64 s, .int .i64 t, .slice ao l.length cap] 24)
  have x0 := blk_new w (.cells #[.int .i64 n, .int .i64 s, .int .i64 t, .slice ao l.length cap] 24)
  go_enter Try.func5, Try.ntmps5
  go_wp2_with fail
  refine (flows_any hC _).mono ?_
  rintro e w1 ⟨rfl, hb1⟩
  simp only [World.size_alloc] at hb1
  have hz1 := hb1.size
  simp only [World.size_alloc] at hz1
  have x1 := blk_below hb1 x0 (by omega)
  have hG1 := hG0.below hb1 (by simp)
  have hF1 := hF0.below hb1 (by simp)
  have hbb1 := below_in hb1 (by omega)
  obtain ⟨r0, r1, r2, r3⟩ := blk4 x1
  clear hb1 x0 hG0 hF0
  go_wp2_with fail
  refine (hC n s t ao af cap capf l f _ hG1 hF1).mono ?_
  rintro e w2 ⟨hb2, rfl⟩
  have hz2 := hb2.size
  have x2 := blk_below hb2 x1 (by omega)
  have hG2 := hG1.below hb2 (Nat.le_refl _)
  have hF2 := hF1.below hb2 (Nat.le_refl _)
  have hbb2 := hbb1.trans (hb2.mono (by omega))
  clear r0 r1 r2 r3 x1 hG1 hF1 hb2 hbb1
  obtain ⟨r0, r1, r2, r3⟩ := blk4 x2
  have HV : Hid (flowErr n s t l f = 0 → valueOf n s t l f = gone l (ati f) s) := fun h => by unfold valueOf; rw [if_pos h]
  obtain ⟨V, hV⟩ : ∃ V, valueOf n s t l f = V := ⟨_, rfl⟩
  obtain ⟨E, hE⟩ : ∃ E, flowErr n s t l f = E := ⟨_, rfl⟩
  rw [hV, hE] at HV ⊢
  have HE : Hid (flowErr n s t l f = E) := hE
  clear hV hE
  go_wp2_with fail
  refine (turned_any n s t ao cap l _ hG2).mono ?_
  rintro e w3 ⟨hb3, ao', cap', l', rfl, hG3, hT⟩
  have hz3 := hb3.size
  have hF3 := hF2.below hb3 (Nat.le_refl _)
  have hbb3 := hbb2.trans (hb3.mono (by omega))
  clear r0 r1 r2 r3 x2 hF2 hG2 hb3 hbb2
  go_wp2_with fail
  refine (hC n t s ao' af cap' capf l' f _ hG3 hF3).mono ?_
  rintro e w4 ⟨hb4, rfl⟩
  have HB4 : Hid (Below w.heap.size w w4) := hbb3.trans (hb4.mono (by omega))
  clear hb4 hbb3 hG3 hF3
  by_cases h0 : E = 0
  · subst h0
    have hc := HE.out
    obtain ⟨hN, hFl⟩ := flow_ok hc
    obtain ⟨hn1, hn2⟩ := (err_ok (net_ok hN).1).1
    obtain rfl := hT (err_long (net_ok hN).1)
    obtain ⟨N, rfl⟩ := Int.eq_ofNat_of_zero_le (show 0 ≤ n by omega)
    rw [Int.toNat_natCast] at hFl
    have e1 : flowErr N t s (l.map turnA) f = 0 := flow_mk (net_turn hN) (by rw [Int.toNat_natCast]; exact hFl.turn)
    have e2 : valueOf N t s (l.map turnA) f = V := by
      unfold valueOf
      rw [if_pos e1, gone_turn, HV.out rfl]
      have := hFl.ends hN
      omega
    rw [e1, e2]
    have g1 : ((0 : Int) != 0) = false := rfl
    have g2 : ((0 : Int) == 0) = true := rfl
    have g3 : (V == V) = true := by simp
    clear e1 e2 hN hFl hc HE HV hT
    go_wp2
    go_ret
    exact ⟨rfl, HB4.out⟩
  · have g1 : (E != 0) = true := by simpa using h0
    clear h0 hT HV
    go_wp2
    go_ret
    exact ⟨rfl, HB4.out⟩

end Go.Proofs.Ytpomdnjfogfnbaa
