/- The law MostCut, walked out of the contracts of most.Of, cut.Cap, flow.Value and flow.Check. -/
import Derived.Test.YtfmlgepoiaehgaaMosts
import Derived.Test.YtfmlgepoiaehgaaCutC
namespace Go.Proofs.Ytfmlgepoiaehgaa
open Go.RowKit
set_option linter.unusedVariables false

theorem cap_ge {n s t v : Int} {l : List Arc3} {side : Int} (hM : MaxIs n.toNat s t l v) (h : capErr n s t l side = 0) : v ≤ capVal n s t l side := by
  obtain ⟨hN, _, h1, h2⟩ := cap_ok h
  unfold capVal
  rw [if_pos h]
  obtain ⟨N, rfl⟩ := Int.eq_ofNat_of_zero_le (show 0 ≤ n by have := (err_ok (net_ok hN).1).1; omega)
  rw [Int.toNat_natCast] at hM
  exact hM.ge hN h1 h2
theorem value_le {n s t v : Int} {l : List Arc3} {f : List Int} (hM : MaxIs n.toNat s t l v) (h : flowErr n s t l f = 0) : valueOf n s t l f ≤ v := by
  obtain ⟨hN, hf⟩ := flow_ok h
  unfold valueOf
  rw [if_pos h]
  obtain ⟨N, rfl⟩ := Int.eq_ofNat_of_zero_le (show 0 ≤ n by have := (err_ok (net_ok hN).1).1; omega)
  rw [Int.toNat_natCast] at hM hf
  exact hM.le hN hf

set_option maxHeartbeats 2000000 in
set_option maxRecDepth 100000 in
theorem MostCut_any (hM : MOfC) (hK : FCheckC) (hC : CCapC) (hV : FValueC) (n s t side : Int) (hsd : 0 ≤ side ∧ side < 65536) (ao af : Option Addr) (cap capf : Nat) (l : List Arc3) (f : List Int) (w : World) (hG : GraphIn w ao cap l) (hI : IntsIn w af capf f) :
    Calls Try.prog 4 #[.agg #[.int .i64 n, .int .i64 s, .int .i64 t, .slice ao l.length cap], .int .u16 side, .slice af f.length capf] w fun e w' => e = .returned (.bool true) ∧ Below w.heap.size w w' := by
  have hG0 := hG.alloc (.cells #[.int .i64 n, .int .i64 s, .int .i64 t, .slice ao l.length cap] 24)
  have hI0 := hI.alloc (.cells #[.int .i64 n, .int .i64 s, .int .i64 t, .slice ao l.length cap] 24)
  have x0 := blk_new w (.cells #[.int .i64 n, .int .i64 s, .int .i64 t, .slice ao l.length cap] 24)
  go_enter Try.func4, Try.ntmps4
  go_wp2_with fail
  refine (mosts_any hM hK _).mono ?_
  rintro e w1 ⟨rfl, hb1⟩
  simp only [World.size_alloc] at hb1
  have hz1 := hb1.size
  simp only [World.size_alloc] at hz1
  have x1 := blk_below hb1 x0 (by omega)
  have hG1 := hG0.below hb1 (by simp)
  have hI1 := hI0.below hb1 (by simp)
  have HB1 : Hid (Below w.heap.size w w1) := below_in hb1 (by omega)
  obtain ⟨r0, r1, r2, r3⟩ := blk4 x1
  clear hb1 x0 hG0 hI0 hG hI
  go_wp2_with fail
  refine (hM n s t ao cap l _ hG1).mono ?_
  rintro e w2 ⟨hb2, a1, c1, F, v, rfl, _, hT⟩
  have hz2 := hb2.size
  have x2 := blk_below hb2 x1 (by omega)
  have hG2 := hG1.below hb2 (Nat.le_refl _)
  have hI2 := hI1.below hb2 (Nat.le_refl _)
  have HB2 : Hid (Below w.heap.size w w2) := HB1.out.trans (hb2.mono (by omega))
  have HCa : Hid (netErr n s t l = 0 → capErr n s t l side = 0 → v ≤ capVal n s t l side) := fun h1 h2 => cap_ge (hT.most h1) h2
  have HFa : Hid (netErr n s t l = 0 → flowErr n s t l f = 0 → valueOf n s t l f ≤ v) := fun h1 h2 => value_le (hT.most h1) h2
  have HN0 : Hid (netErr n s t l ≠ 0 → v = 0) := fun h => (hT.none h).2
  have HN1 : Hid (netErr n s t l ≠ 0 → capErr n s t l side ≠ 0 ∧ flowErr n s t l f ≠ 0) := fun h => ⟨by rw [cap_net h]; exact h, by rw [flow_bad h]; exact h⟩
  clear hb2 x1 hG1 hI1 HB1 hT r0 r1 r2 r3
  obtain ⟨r0, r1, r2, r3⟩ := blk4 x2
  have hq3 := hC n s t side ao cap l w2 hsd hG2
  have HQ4 : Hid (∀ x : World, GraphIn x ao cap l → IntsIn x af capf f → Calls Try.prog 16 #[.agg #[.int .i64 n, .int .i64 s, .int .i64 t, .slice ao l.length cap], .slice af f.length capf] x fun e w' => Below x.heap.size x w' ∧ e = .returned (.tuple #[.int .i64 (valueOf n s t l f), .int .i64 (flowErr n s t l f)])) := fun x h1 h2 => hV n s t ao af cap capf l f x h1 h2
  generalize netErr n s t l = E1 at *
  generalize capErr n s t l side = E2 at *
  generalize flowErr n s t l f = E3 at *
  generalize capVal n s t l side = c at *
  generalize valueOf n s t l f = u at *
  go_wp2_with fail
  refine hq3.mono ?_
  clear hq3
  rintro e w3 ⟨hb3, rfl⟩
  have hz3 := hb3.size
  have x3 := blk_below hb3 x2 (by omega)
  have hG3 := hG2.below hb3 (Nat.le_refl _)
  have hI3 := hI2.below hb3 (Nat.le_refl _)
  have HB3 : Hid (Below w.heap.size w w3) := HB2.out.trans (hb3.mono (by omega))
  clear hb3 x2 hG2 hI2 HB2 r0 r1 r2 r3
  obtain ⟨r0, r1, r2, r3⟩ := blk4 x3
  go_wp2_with fail
  refine (HQ4.out _ hG3 hI3).mono ?_
  rintro e w4 ⟨hb4, rfl⟩
  have HB4 : Hid (Below w.heap.size w w4) := HB3.out.trans (hb4.mono (by omega))
  clear hb4 x3 hG3 hI3 HB3 r0 r1 r2 r3
  have g00 : ((0 : Int) != 0) = false := rfl
  have g01 : ((0 : Int) == 0) = true := rfl
  by_cases h1 : E1 = 0
  · subst h1
    by_cases h2 : E2 = 0
    · subst h2
      have hle := HCa.out rfl rfl
      by_cases h3 : E3 = 0
      · subst h3
        have hle2 := HFa.out rfl rfl
        go_wp2
        go_ret
        exact ⟨rfl, HB4.out⟩
      · have e3 : (E3 != 0) = true := by simpa using h3
        clear h3
        go_wp2
        go_ret
        exact ⟨rfl, HB4.out⟩
    · have e2 : (E2 != 0) = true := by simpa using h2
      clear h2
      by_cases h3 : E3 = 0
      · subst h3
        have hle2 := HFa.out rfl rfl
        go_wp2
        go_ret
        exact ⟨rfl, HB4.out⟩
      · have e3 : (E3 != 0) = true := by simpa using h3
        clear h3
        go_wp2
        go_ret
        exact ⟨rfl, HB4.out⟩
  · have e1 : (E1 != 0) = true := by simpa using h1
    obtain ⟨h2, h3⟩ := HN1.out h1
    have hv := HN0.out h1
    subst hv
    have e2 : (E2 != 0) = true := by simpa using h2
    have e3 : (E3 != 0) = true := by simpa using h3
    clear h1 h2 h3
    go_wp2
    go_ret
    exact ⟨rfl, HB4.out⟩

end Go.Proofs.Ytfmlgepoiaehgaa
