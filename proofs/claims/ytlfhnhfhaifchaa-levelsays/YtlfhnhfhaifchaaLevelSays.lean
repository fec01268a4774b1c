/- The law LevelSays, walked out of the contract of level.Of. -/
import Derived.Test.YtlfhnhfhaifchaaLevelC
import Derived.Test.YtlfhnhfhaifchaaRightR
namespace Go.Proofs.Ytlfhnhfhaifchaa
open Go.RowKit
set_option linter.unusedVariables false

set_option maxHeartbeats 2000000 in
set_option maxRecDepth 100000 in
theorem LevelSays_any (hO : LOfC) (n s t : Int) (ao : Option Addr) (cap : Nat) (l : List Arc3) (w : World) (hG : GraphIn w ao cap l) :
    Calls Try.prog 3 #[.agg #[.int .i64 n, .int .i64 s, .int .i64 t, .slice ao l.length cap]] w fun e w' => e = .returned (.bool true) ∧ Below w.heap.size w w' := by
  have hG0 := hG.alloc (.cells #[.int .i64 n, .int .i64 s, .int .i64 t, .slice ao l.length cap] 24)
  have x0 := blk_new w (.cells #[.int .i64 n, .int .i64 s, .int .i64 t, .slice ao l.length cap] 24)
  obtain ⟨r0, r1, r2, r3⟩ := blk4 x0
  go_enter Try.func3, Try.ntmps3
  go_wp2_with fail
  refine (hO n s t ao cap l _ hG0).mono ?_
  rintro e w1 ⟨hb1, a1, c1, F, v, r, rfl, hIF, hT⟩
  simp only [World.size_alloc] at hb1
  have hz1 := hb1.size
  simp only [World.size_alloc] at hz1
  have x1 := blk_below hb1 x0 (by omega)
  have hG1 := hG0.below hb1 (by simp)
  have HB1 : Hid (Below w.heap.size w w1) := below_in hb1 (by omega)
  obtain ⟨E, hE⟩ : ∃ E, netErr n s t l = E := ⟨_, rfl⟩
  have HT : Hid (LevelTells n s t l F v r E) := by rw [← hE]; exact hT
  rw [hE]
  have HE : Hid (netErr n s t l = E) := hE
  have HIF : Hid (IntsIn w1 a1 c1 F) := hIF
  have hq := refNetErr_any n s t ao cap l w1 hG1.len hG1.arcs
  rw [hE] at hq
  clear hb1 x0 hG0 hT hE hIF r0 r1 r2 r3
  obtain ⟨r0, r1, r2, r3⟩ := blk4 x1
  go_wp2_with fail
  refine hq.mono ?_
  clear hq
  rintro e w2 ⟨rfl, hb2⟩
  have hz2 := hb2.size
  have x2 := blk_below hb2 x1 (by omega)
  have HG2 : Hid (GraphIn w2 ao cap l) := hG1.below hb2 (Nat.le_refl _)
  have HI2 : Hid (IntsIn w2 a1 c1 F) := HIF.out.below hb2 (Nat.le_refl _)
  have HB2 : Hid (Below w.heap.size w w2) := HB1.out.trans (hb2.mono (by omega))
  have hw2 : w.heap.size < w2.heap.size := by omega
  clear hb2 hG1 HB1 HIF x1 r0 r1 r2 r3
  obtain ⟨r0, r1, r2, r3⟩ := blk4 x2
  have HX : Hid (w2.heap[w.heap.size]? = some (.cells #[.int .i64 n, .int .i64 s, .int .i64 t, .slice ao l.length cap] 24 (0, 0))) := x2
  clear x2
  have g00 : ((0 : Int) != 0) = false := rfl
  have g01 : ((0 : Int) == 0) = true := rfl
  by_cases hE : E = 0
  · subst hE
    obtain ⟨_, hs, ht, _⟩ := net_ok HE.out
    obtain ⟨N, rfl⟩ := Int.eq_ofNat_of_zero_le (show 0 ≤ n by omega)
    obtain ⟨sN, rfl⟩ := Int.eq_ofNat_of_zero_le hs.1
    obtain ⟨tN, rfl⟩ := Int.eq_ofNat_of_zero_le ht.1
    have hm := HT.out.most
    have h1 := hm.flow rfl
    have h2 := hm.most rfl
    rw [Int.toNat_natCast] at h1 h2
    obtain ⟨l1, l2, l3⟩ := HT.out.low rfl
    have hq1 := right_any N sN tN ao a1 cap c1 l F v w2 ⟨HE.out, h1.1, h1.2, h2⟩ HG2.out.arcs HI2.out.ints
    have HL3 : Hid (r = 0 ↔ v = 0) := l3
    clear hs ht hm h1 h2 l3 HT
    go_wp2_with fail
    refine hq1.mono ?_
    clear hq1
    rintro e w3 ⟨rfl, hb3⟩
    have x3 := blk_below hb3 HX.out hw2
    have HB3 : Hid (Below w.heap.size w w3) := HB2.out.trans (hb3.mono (by omega))
    clear hb3 r0 r1 r2 r3
    obtain ⟨r0, r1, r2, r3⟩ := blk4 x3
    by_cases hr : r = 0
    · have hv : v = 0 := HL3.out.1 hr
      subst hr hv
      clear HL3 x3
      go_wp2
      go_ret
      exact ⟨rfl, HB3.out⟩
    · have hv : v ≠ 0 := fun h => hr (HL3.out.2 h)
      have e1 : (r == 0) = false := by simpa using hr
      have e2 : (v == 0) = false := by simpa using hv
      clear HL3 hr hv x3
      go_wp2
      go_ret
      exact ⟨rfl, HB3.out⟩
  · have e1 : (E != 0) = true := by simpa using hE
    have e2 : (E == E) = true := by simp
    obtain ⟨rfl, hv⟩ := HT.out.most.none hE
    have hr := HT.out.none hE
    subst hv hr
    clear hE HT
    simp only [List.length_nil]
    go_wp2
    go_ret
    exact ⟨rfl, HB2.out⟩

end Go.Proofs.Ytlfhnhfhaifchaa
