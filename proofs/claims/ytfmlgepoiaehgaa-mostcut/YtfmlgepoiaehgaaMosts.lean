/- The laws' own helper 'mosts', out of the contracts of most.Of and of flow.Check. -/
import Derived.Test.YtfmlgepoiaehgaaMostC
namespace Go.Proofs.Ytfmlgepoiaehgaa
open Go.RowKit
set_option linter.unusedVariables false

set_option maxHeartbeats 800000 in
theorem mosts_any (hM : MOfC) (hK : FCheckC) (w : World) : Calls Try.prog 14 #[] w fun e w' => e = .returned (.bool true) ∧ Below w.heap.size w w' := by
  go_enter Try.func14, Try.ntmps14
  go_wp2_with fail
  refine (weir_any _).mono ?_
  rintro e w1 ⟨hb1, ao, cap, rfl, hG⟩
  have hz1 := hb1.size
  have hq := hM 4 0 3 ao cap weirL _ hG
  rw [weir_net] at hq
  go_wp2_with fail
  refine hq.mono ?_
  clear hq
  rintro e w2 ⟨hb2, a1, c1, F, v, rfl, hI, hT⟩
  have hz2 := hb2.size
  have hbb2 := hb1.trans (hb2.mono (by omega))
  obtain ⟨hFl, hgv⟩ := hT.flow rfl
  have hv : 5 = v := weir_max.unique weir_net (hT.most rfl)
  subst hv
  have hFlen : F.length = 5 := hFl.len
  rw [hFlen]
  have hfe : flowErr 4 0 3 weirL F = 0 := flow_mk weir_net hFl
  have HI : Hid (IntsIn w2 a1 c1 F) := hI
  have g1 : ((0 : Int) == 0) = true := rfl
  have g2 : ((5 : Int) == 5) = true := rfl
  clear hb1 hb2 hG hT hI hFl hgv
  go_wp2_with fail
  refine (weir_any _).mono ?_
  rintro e w3 ⟨hb3, ao3, cap3, rfl, hG3⟩
  have hz3 := hb3.size
  have hbb3 := hbb2.trans (hb3.mono (by omega))
  have hq := hK 4 0 3 ao3 a1 cap3 c1 weirL F _ hG3 (HI.out.below hb3 (Nat.le_refl _))
  rw [hfe, hFlen] at hq
  clear hb3 hG3 hbb2 hfe hFlen
  go_wp2_with fail
  refine hq.mono ?_
  clear hq
  rintro e w4 ⟨hb4, rfl⟩
  have HB : Hid (Below w.heap.size w w4) := hbb3.trans (hb4.mono (by omega))
  clear hb4
  go_wp2
  go_ret
  exact ⟨rfl, HB.out⟩

end Go.Proofs.Ytfmlgepoiaehgaa
