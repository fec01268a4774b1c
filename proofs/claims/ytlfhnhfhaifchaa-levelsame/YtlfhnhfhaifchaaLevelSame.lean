/- The law LevelSame, walked out of the contracts of level.Of, most.More and flow.Check. -/
import Derived.Test.YtlfhnhfhaifchaaLevelC
namespace Go.Proofs.Ytlfhnhfhaifchaa
open Go.RowKit
set_option linter.unusedVariables false

set_option maxHeartbeats 2000000 in
set_option maxRecDepth 100000 in
theorem LevelSame_any (hO : LOfC) (hM : MMoreC) (hK : FCheckC) (n s t : Int) (ao : Option Addr) (cap : Nat) (l : List Arc3) (w : World) (hG : GraphIn w ao cap l) :
    Calls Try.prog 6 #[.agg #[.int .i64 n, .int .i64 s, .int .i64 t, .slice ao l.length cap]] w fun e w' => e = .returned (.bool true) ∧ Below w.heap.size w w' := by
  have hG0 := hG.alloc (.cells #[.int .i64 n, .int .i64 s, .int .i64 t, .slice ao l.length cap] 24)
  have x0 := blk_new w (.cells #[.int .i64 n, .int .i64 s, .int .i64 t, .slice ao l.length cap] 24)
  have g00 : ((0 : Int) != 0) = false := rfl
  have g01 : ((0 : Int) == 0) = true := rfl
  have g55 : ((5 : Int) != 5) = false := rfl
  go_enter Try.func6, Try.ntmps6
  go_wp2_with fail
  refine (weir_any _).mono ?_
  rintro e w1 ⟨hb1, aw, cw, rfl, hGw⟩
  simp only [World.size_alloc] at hb1
  have hz1 := hb1.size
  simp only [World.size_alloc] at hz1
  have x1 := blk_below hb1 x0 (by omega)
  have hG1 := hG0.below hb1 (by simp)
  have HB1 : Hid (Below w.heap.size w w1) := below_in hb1 (by omega)
  have hq := hO 4 0 3 aw cw weirL w1 hGw
  rw [weir_net] at hq
  clear hb1 x0 hG0 hGw
  go_wp2_with fail
  refine hq.mono ?_
  clear hq
  rintro e w2 ⟨hb2, a2, c2, F, v, r, rfl, hIF, hT⟩
  have hz2 := hb2.size
  have x2 := blk_below hb2 x1 (by omega)
  have hG2 := hG1.below hb2 (Nat.le_refl _)
  have HB2 : Hid (Below w.heap.size w w2) := HB1.out.trans (hb2.mono (by omega))
  obtain ⟨rfl, -, -, -, hFE⟩ := hT.weir
  have HIF : Hid (IntsIn w2 a2 c2 F) := hIF
  have HFE : Hid (flowErr 4 0 3 weirL F = 0) := hFE
  clear hb2 x1 hG1 HB1 hT hIF hFE
  go_wp2_with fail
  refine (weir_any _).mono ?_
  rintro e w3 ⟨hb3, aw3, cw3, rfl, hGw3⟩
  have hz3 := hb3.size
  have x3 := blk_below hb3 x2 (by omega)
  have hG3 := hG2.below hb3 (Nat.le_refl _)
  have HB3 : Hid (Below w.heap.size w w3) := HB2.out.trans (hb3.mono (by omega))
  have hq := hK 4 0 3 aw3 a2 cw3 c2 weirL F _ hGw3 (HIF.out.below hb3 (Nat.le_refl _))
  rw [HFE.out] at hq
  clear hb3 x2 hG2 HB2 HIF HFE hGw3
  go_wp2_with fail
  refine hq.mono ?_
  clear hq
  rintro e w4 ⟨hb4, rfl⟩
  have hz4 := hb4.size
  have x4 := blk_below hb4 x3 (by omega)
  have hG4 := hG3.below hb4 (Nat.le_refl _)
  have HB4 : Hid (Below w.heap.size w w4) := HB3.out.trans (hb4.mono (by omega))
  clear hb4 x3 hG3 HB3
  obtain ⟨r0, r1, r2, r3⟩ := blk4 x4
  go_wp2_with fail
  refine (hO n s t ao cap l _ hG4).mono ?_
  rintro e w5 ⟨hb5, a5, c5, G, u, q, rfl, hIG, hT5⟩
  have hz5 := hb5.size
  have x5 := blk_below hb5 x4 (by omega)
  have hG5 := hG4.below hb5 (Nat.le_refl _)
  have HB5 : Hid (Below w.heap.size w w5) := HB4.out.trans (hb5.mono (by omega))
  have HT5 : Hid (LevelTells n s t l G u q (netErr n s t l)) := hT5
  have hm := hM n s t ao a5 cap c5 l G w5 hG5 hIG
  obtain ⟨E, hE⟩ : ∃ E, netErr n s t l = E := ⟨_, rfl⟩
  rw [hE] at HT5 ⊢
  have HE : Hid (netErr n s t l = E) := hE
  obtain ⟨Y, hY⟩ : ∃ Y, flowErr n s t l G = Y := ⟨_, rfl⟩
  rw [hY] at hm
  have HY : Hid (flowErr n s t l G = Y) := hY
  clear hb5 x4 hG4 HB4 hIG hT5 hE hY r0 r1 r2 r3 hG5
  obtain ⟨r0, r1, r2, r3⟩ := blk4 x5
  go_wp2_with fail
  refine hm.mono ?_
  clear hm
  rintro e w6 ⟨hb6, a6, c6, H, y, rfl, _, hT6⟩
  have HB6 : Hid (Below w.heap.size w w6) := HB5.out.trans (hb6.mono (by omega))
  clear hb6 x5 HB5 r0 r1 r2 r3
  by_cases h0 : E = 0
  · subst h0
    have h1 := HT5.out.most.flow rfl
    have hY0 : 0 = Y := (flow_mk HE.out h1.1).symm.trans HY.out
    subst hY0
    have e1 : u = y := by
      obtain ⟨N, rfl⟩ := Int.eq_ofNat_of_zero_le (show 0 ≤ n by have := (err_ok (net_ok HE.out).1).1; omega)
      have q1 := HT5.out.most.most rfl
      have q2 := hT6.most rfl
      rw [Int.toNat_natCast] at q1 q2
      exact q1.unique HE.out q2
    subst e1
    have e2 : (u == u) = true := by simp
    clear HT5 hT6 h1
    go_wp2
    go_ret
    exact ⟨rfl, HB6.out⟩
  · have e1 : (E != 0) = true := by simpa using h0
    clear h0 HT5 hT6
    go_wp2
    go_ret
    exact ⟨rfl, HB6.out⟩

end Go.Proofs.Ytlfhnhfhaifchaa
