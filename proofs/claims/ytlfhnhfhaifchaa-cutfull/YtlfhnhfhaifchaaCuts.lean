/- The law's own helper 'cuts', and CutSub, MostCut, walked out of contracts of package cut. -/
import Derived.Test.YtlfhnhfhaifchaaCutC
import Derived.Test.YtlfhnhfhaifchaaCutL
import Derived.Test.YtlfhnhfhaifchaaCapR
import Derived.Test.YtlfhnhfhaifchaaFlowC
namespace Go.Proofs.Ytlfhnhfhaifchaa
open Go.RowKit
set_option linter.unusedVariables false

set_option maxHeartbeats 1000000 in
theorem cuts_any (hL : CLeastC) (hC : CCapC) (w : World) : Calls Try.prog 10 #[] w fun e w' => e = .returned (.bool true) ∧ Below w.heap.size w w' := by
  go_enter Try.func10, Try.ntmps10
  go_wp2_with fail
  refine (weir_any _).mono ?_
  rintro e w1 ⟨hb1, a1, c1, rfl, hG1⟩
  have hq := hL 4 0 3 a1 c1 weirL w1 hG1
  rw [weir_net] at hq
  clear hG1
  go_wp2_with fail
  refine hq.mono ?_
  clear hq
  rintro e w2 ⟨hb2, x, v, rfl, hT⟩
  have hz1 := hb1.size
  have hz2 := hb2.size
  have HB2 : Hid (Below w.heap.size w w2) := hb1.trans (hb2.mono hz1)
  obtain ⟨hi, hp⟩ := hT.some weir_net
  obtain ⟨e1, e2, _⟩ := PartIs.unique hp weir_part
  subst e1
  subst e2
  clear hb1 hb2 hp hT
  go_wp2_with fail
  refine (weir_any _).mono ?_
  rintro e w3 ⟨hb3, a3, c3, rfl, hG3⟩
  have hz3 := hb3.size
  have hq := hC 4 0 3 1 a3 c3 weirL w3 (by omega) hG3
  rw [show capVal 4 0 3 weirL 1 = 7 by decide, show capErr 4 0 3 weirL 1 = 0 by decide] at hq
  have HB3 : Hid (Below w.heap.size w w3) := HB2.out.trans (hb3.mono (by omega))
  clear hG3 hb3 HB2
  go_wp2_with fail
  refine hq.mono ?_
  clear hq
  rintro e w4 ⟨hb4, rfl⟩
  have HB4 : Hid (Below w.heap.size w w4) := HB3.out.trans (hb4.mono (by omega))
  clear hb4 HB3
  go_wp2
  go_ret
  exact ⟨rfl, HB4.out⟩


end Go.Proofs.Ytlfhnhfhaifchaa
