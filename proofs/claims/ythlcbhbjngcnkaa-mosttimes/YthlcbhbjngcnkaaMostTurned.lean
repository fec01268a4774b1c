/- The law MostTurned, walked, out of the contracts of Of and of flow.Check. -/
import Derived.Test.YthlcbhbjngcnkaaMostC
import Derived.Test.YthlcbhbjngcnkaaTurnedN
namespace Go.Proofs.Ythlcbhbjngcnkaa
open Go.RowKit
set_option linter.unusedVariables false

set_option maxHeartbeats 800000 in
theorem mosts_any (hM : MOfC) (hK : FCheckC) (w : World) : Calls Try.prog 13 #[] w fun e w' => e = .returned (.bool true) ∧ Below w.heap.size w w' := by
  go_enter Try.func13, Try.ntmps13
  go_wp2_with fail
  refine (weir_any _).mono ?_
  rintro e w1 ⟨hb1, ao, cap, rfl, hG⟩
  have hz1 := hb1.size
  have hq := hM 4 0 3 ao cap weirL _ hG
  rw [weir_net] at hq
  go_wp2_with fail
  refine hq.mono ?_
  clear hq
  rintro e w2 ⟨hb2, a1, c1, F, v, rfl, hI, hT⟩
  have hz2 := hb2.size
  have hbb2 := hb1.trans (hb2.mono (by omega))
  obtain ⟨hFl, hgv⟩ := hT.flow rfl
  have hv : 5 = v := weir_max.unique weir_net (hT.most rfl)
  subst hv
  have hFlen : F.length = 5 := hFl.len
  rw [hFlen]
  have hfe : flowErr 4 0 3 weirL F = 0 := flow_mk weir_net hFl
  have HI : Hid (IntsIn w2 a1 c1 F) := hI
  have g1 : ((0 : Int) == 0) = true := rfl
  have g2 : ((5 : Int) == 5) = true := rfl
  clear hb1 hb2 hG hT hI hFl hgv
  go_wp2_with fail
  refine (weir_any _).mono ?_
  rintro e w3 ⟨hb3, ao3, cap3, rfl, hG3⟩
  have hz3 := hb3.size
  have hbb3 := hbb2.trans (hb3.mono (by omega))
  have hq := hK 4 0 3 ao3 a1 cap3 c1 weirL F _ hG3 (HI.out.below hb3 (Nat.le_refl _))
  rw [hfe, hFlen] at hq
  clear hb3 hG3 hbb2 hfe hFlen
  go_wp2_with fail
  refine hq.mono ?_
  clear hq
  rintro e w4 ⟨hb4, rfl⟩
  have HB : Hid (Below w.heap.size w w4) := hbb3.trans (hb4.mono (by omega))
  clear hb4
  go_wp2
  go_ret
  exact ⟨rfl, HB.out⟩

set_option maxHeartbeats 800000 in
theorem MostTurned_any (hM : MOfC) (hK : FCheckC) (n s t : Int) (ao : Option Addr) (cap : Nat) (l : List Arc3) (w : World) (hG : GraphIn w ao cap l) :
    Calls Try.prog 5 #[.agg #[.int .i64 n, .int .i64 s, .int .i64 t, .slice ao l.length cap]] w fun e w' => e = .returned (.bool true) ∧ Below w.heap.size w w' := by
  have hG0 := hG.alloc (.cells #[.int .i64 n, .int .i64 s, .int .i64 t, .slice ao l.length cap] 24)
  have x0 := blk_new w (.cells #[.int .i64 n, .int .i64 s, .int .i64 t, .slice ao l.length cap] 24)
  go_enter Try.func5, Try.ntmps5
  go_wp2_with fail
  refine (mosts_any hM hK _).mono ?_
  rintro e w1 ⟨rfl, hb1⟩
  simp only [World.size_alloc] at hb1
  have hz1 := hb1.size
  simp only [World.size_alloc] at hz1
  have x1 := blk_below hb1 x0 (by omega)
  have hG1 := hG0.below hb1 (by simp)
  have hbb1 := below_in hb1 (by omega)
  obtain ⟨r0, r1, r2, r3⟩ := blk4 x1
  clear hb1 x0 hG0
  go_wp2_with fail
  refine (hM n s t ao cap l _ hG1).mono ?_
  rintro e w2 ⟨hb2, a1, c1, F, v, rfl, _, hT⟩
  have hz2 := hb2.size
  have x2 := blk_below hb2 x1 (by omega)
  have hG2 := hG1.below hb2 (Nat.le_refl _)
  have hbb2 := hbb1.trans (hb2.mono (by omega))
  have HT : Hid (MostTells n s t l F v (netErr n s t l)) := hT
  clear r0 r1 r2 r3 x1 hG1 hb2 hbb1 hT
  obtain ⟨r0, r1, r2, r3⟩ := blk4 x2
  obtain ⟨E, hE⟩ : ∃ E, netErr n s t l = E := ⟨_, rfl⟩
  rw [hE] at HT ⊢
  have HE : Hid (netErr n s t l = E) := hE
  clear hE
  go_wp2_with fail
  refine (turned_any n s t ao cap l _ hG2).mono ?_
  rintro e w3 ⟨hb3, ao', cap', l', rfl, hG3, hTu⟩
  have hz3 := hb3.size
  have hbb3 := hbb2.trans (hb3.mono (by omega))
  clear r0 r1 r2 r3 x2 hG2 hb3 hbb2
  go_wp2_with fail
  refine (hM n t s ao' cap' l' _ hG3).mono ?_
  rintro e w4 ⟨hb4, a4, c4, F4, v4, rfl, _, hT4⟩
  have HB4 : Hid (Below w.heap.size w w4) := hbb3.trans (hb4.mono (by omega))
  clear hb4 hbb3 hG3
  by_cases h0 : E = 0
  · subst h0
    obtain ⟨hn1, hn2⟩ := (err_ok (net_ok HE.out).1).1
    obtain rfl := hTu (err_long (net_ok HE.out).1)
    obtain ⟨N, rfl⟩ := Int.eq_ofNat_of_zero_le (show 0 ≤ n by omega)
    have e1 := net_turn HE.out
    rw [e1] at hT4 ⊢
    have m1 := HT.out.most rfl
    have m2 := hT4.most rfl
    rw [Int.toNat_natCast] at m1 m2
    obtain rfl : v = v4 := (m1.turn HE.out).unique e1 m2
    have g1 : ((0 : Int) != 0) = false := rfl
    have g2 : ((0 : Int) == 0) = true := rfl
    have g3 : (v == v) = true := by simp
    clear e1 m1 m2 hT4 HT HE hTu
    go_wp2
    go_ret
    exact ⟨rfl, HB4.out⟩
  · have g1 : (E != 0) = true := by simpa using h0
    clear h0 hTu hT4
    go_wp2
    go_ret
    exact ⟨rfl, HB4.out⟩

end Go.Proofs.Ythlcbhbjngcnkaa
