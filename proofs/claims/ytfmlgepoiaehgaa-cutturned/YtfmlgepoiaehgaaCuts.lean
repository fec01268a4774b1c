/- The law's own helper 'cuts', and CutSub, MostCut, walked out of contracts of package cut. -/
import Derived.Test.YtfmlgepoiaehgaaCutC
import Derived.Test.YtfmlgepoiaehgaaCutL
import Derived.Test.YtfmlgepoiaehgaaCapR
import Derived.Test.YtfmlgepoiaehgaaFlowC
namespace Go.Proofs.Ytfmlgepoiaehgaa
open Go.RowKit
set_option linter.unusedVariables false

set_option maxHeartbeats 1000000 in
theorem cuts_any (hL : CLeastC) (hC : CCapC) (w : World) : Calls Try.prog 17 #[] w fun e w' => e = .returned (.bool true) ∧ Below w.heap.size w w' := by
  go_enter Try.func17, Try.ntmps17
  go_wp2_with fail
  refine (weir_any _).mono ?_
  rintro e w1 ⟨hb1, a1, c1, rfl, hG1⟩
  have hq := hL 4 0 3 a1 c1 weirL w1 hG1
  rw [weir_net] at hq
  clear hG1
  go_wp2_with fail
  refine hq.mono ?_
  clear hq
  rintro e w2 ⟨hb2, x, v, rfl, hT⟩
  have hz1 := hb1.size
  have hz2 := hb2.size
  have HB2 : Hid (Below w.heap.size w w2) := hb1.trans (hb2.mono hz1)
  obtain ⟨hi, hp⟩ := hT.some weir_net
  obtain ⟨e1, e2, _⟩ := PartIs.unique hp weir_part
  subst e1
  subst e2
  clear hb1 hb2 hp hT
  go_wp2_with fail
  refine (weir_any _).mono ?_
  rintro e w3 ⟨hb3, a3, c3, rfl, hG3⟩
  have hz3 := hb3.size
  have hq := hC 4 0 3 1 a3 c3 weirL w3 (by omega) hG3
  rw [show capVal 4 0 3 weirL 1 = 7 by decide, show capErr 4 0 3 weirL 1 = 0 by decide] at hq
  have HB3 : Hid (Below w.heap.size w w3) := HB2.out.trans (hb3.mono (by omega))
  clear hG3 hb3 HB2
  go_wp2_with fail
  refine hq.mono ?_
  clear hq
  rintro e w4 ⟨hb4, rfl⟩
  have HB4 : Hid (Below w.heap.size w w4) := HB3.out.trans (hb4.mono (by omega))
  clear hb4 HB3
  go_wp2
  go_ret
  exact ⟨rfl, HB4.out⟩

theorem capVal_bound {n s t : Int} {l : List Arc3} (side : Int) : 0 ≤ capVal n s t l side ∧ capVal n s t l side ≤ 600000 := by
  unfold capVal
  split
  · rename_i h
    obtain ⟨_, h60, hall⟩ := err_ok (net_ok (cap_ok h).1).1
    have := capK_bound (side := side) (l := l) l.length fun i hi => (hall _ (at3_mem l i hi)).2.2
    unfold capS; omega
  · omega
theorem sub_laws {n s t : Int} {l : List Arc3} {a b : Nat} (h1 : capErr n s t l a = 0) (h2 : capErr n s t l b = 0) :
    capErr n s t l ((a &&& b : Nat) : Int) = 0 ∧ capErr n s t l ((a ||| b : Nat) : Int) = 0 ∧ capVal n s t l ((a &&& b : Nat) : Int) + capVal n s t l ((a ||| b : Nat) : Int) ≤ capVal n s t l a + capVal n s t l b := by
  obtain ⟨hN, p1, p2, p3⟩ := cap_ok h1
  obtain ⟨_, q1, q2, q3⟩ := cap_ok h2
  have a1 : a < 2 ^ n.toNat := by exact_mod_cast p1
  have b1 : b < 2 ^ n.toNat := by exact_mod_cast q1
  have e1 : capErr n s t l ((a &&& b : Nat) : Int) = 0 := cap_mk hN ⟨by exact_mod_cast Nat.lt_of_le_of_lt Nat.and_le_left a1, by rw [bt_and, p2, q2]; rfl, by rw [bt_and, p3]; simp⟩
  have e2 : capErr n s t l ((a ||| b : Nat) : Int) = 0 := cap_mk hN ⟨by exact_mod_cast Nat.or_lt_two_pow a1 b1, by rw [bt_or, p2, q2]; rfl, by rw [bt_or, p3, q3]; rfl⟩
  refine ⟨e1, e2, ?_⟩
  unfold capVal
  rw [if_pos e1, if_pos e2, if_pos h1, if_pos h2]
  exact capS_sub (fun k hk => ((err_ok (net_ok hN).1).2.2 _ (at3_mem l k hk)).2.2.1) a b

set_option maxHeartbeats 2000000 in
set_option maxRecDepth 100000 in
theorem CutSub_any (hL : CLeastC) (hC : CCapC) (n s t : Int) (a b : Nat) (ha : a < 65536) (hb : b < 65536) (ao : Option Addr) (cap : Nat) (l : List Arc3) (w : World) (hG : GraphIn w ao cap l) :
    Calls Try.prog 5 #[.agg #[.int .i64 n, .int .i64 s, .int .i64 t, .slice ao l.length cap], .int .u16 (a : Int), .int .u16 (b : Int)] w fun e w' => e = .returned (.bool true) ∧ Below w.heap.size w w' := by
  have hG0 := hG.alloc (.cells #[.int .i64 n, .int .i64 s, .int .i64 t, .slice ao l.length cap] 24)
  have x0 := blk_new w (.cells #[.int .i64 n, .int .i64 s, .int .i64 t, .slice ao l.length cap] 24)
  have u1 := and_u16_nat a b ha hb
  have u2 := or_u16_nat a b ha hb
  have ha2 : a &&& b < 65536 := Nat.lt_of_le_of_lt Nat.and_le_left ha
  have hb2 : a ||| b < 65536 := Nat.or_lt_two_pow (n := 16) ha hb
  have HS : Hid (capErr n s t l (a : Int) = 0 → capErr n s t l (b : Int) = 0 → capErr n s t l ((a &&& b : Nat) : Int) = 0 ∧ capErr n s t l ((a ||| b : Nat) : Int) = 0 ∧ capVal n s t l ((a &&& b : Nat) : Int) + capVal n s t l ((a ||| b : Nat) : Int) ≤ capVal n s t l a + capVal n s t l b) := fun h1 h2 => sub_laws h1 h2
  have B1 := capVal_bound (n := n) (s := s) (t := t) (l := l) (a : Int)
  have B2 := capVal_bound (n := n) (s := s) (t := t) (l := l) (b : Int)
  have B3 := capVal_bound (n := n) (s := s) (t := t) (l := l) ((a &&& b : Nat) : Int)
  have B4 := capVal_bound (n := n) (s := s) (t := t) (l := l) ((a ||| b : Nat) : Int)
  have HC1 : Hid (∀ x : World, GraphIn x ao cap l → Calls Try.prog 8 #[.agg #[.int .i64 n, .int .i64 s, .int .i64 t, .slice ao l.length cap], .int .u16 (a : Int)] x fun e w' => Below x.heap.size x w' ∧ e = .returned (.tuple #[.int .i64 (capVal n s t l a), .int .i64 (capErr n s t l a)])) := fun x h => hC n s t a ao cap l x (by omega) h
  have HC2 : Hid (∀ x : World, GraphIn x ao cap l → Calls Try.prog 8 #[.agg #[.int .i64 n, .int .i64 s, .int .i64 t, .slice ao l.length cap], .int .u16 (b : Int)] x fun e w' => Below x.heap.size x w' ∧ e = .returned (.tuple #[.int .i64 (capVal n s t l b), .int .i64 (capErr n s t l b)])) := fun x h => hC n s t b ao cap l x (by omega) h
  have HC3 : Hid (∀ x : World, GraphIn x ao cap l → Calls Try.prog 8 #[.agg #[.int .i64 n, .int .i64 s, .int .i64 t, .slice ao l.length cap], .int .u16 ((a &&& b : Nat) : Int)] x fun e w' => Below x.heap.size x w' ∧ e = .returned (.tuple #[.int .i64 (capVal n s t l ((a &&& b : Nat) : Int)), .int .i64 (capErr n s t l ((a &&& b : Nat) : Int))])) := fun x h => hC n s t _ ao cap l x (by omega) h
  have HC4 : Hid (∀ x : World, GraphIn x ao cap l → Calls Try.prog 8 #[.agg #[.int .i64 n, .int .i64 s, .int .i64 t, .slice ao l.length cap], .int .u16 ((a ||| b : Nat) : Int)] x fun e w' => Below x.heap.size x w' ∧ e = .returned (.tuple #[.int .i64 (capVal n s t l ((a ||| b : Nat) : Int)), .int .i64 (capErr n s t l ((a ||| b : Nat) : Int))])) := fun x h => hC n s t _ ao cap l x (by omega) h
  generalize capErr n s t l (a : Int) = E1 at *
  generalize capErr n s t l (b : Int) = E2 at *
  generalize capErr n s t l ((a &&& b : Nat) : Int) = E3 at *
  generalize capErr n s t l ((a ||| b : Nat) : Int) = E4 at *
  generalize capVal n s t l (a : Int) = V1 at *
  generalize capVal n s t l (b : Int) = V2 at *
  generalize capVal n s t l ((a &&& b : Nat) : Int) = V3 at *
  generalize capVal n s t l ((a ||| b : Nat) : Int) = V4 at *
  go_enter Try.func5, Try.ntmps5
  go_wp2_with fail
  refine (cuts_any hL hC _).mono ?_
  rintro e w1 ⟨rfl, hb1⟩
  simp only [World.size_alloc] at hb1
  have hz1 := hb1.size
  simp only [World.size_alloc] at hz1
  have x1 := blk_below hb1 x0 (by omega)
  have hG1 := hG0.below hb1 (by simp)
  have HB1 : Hid (Below w.heap.size w w1) := below_in hb1 (by omega)
  obtain ⟨r0, r1, r2, r3⟩ := blk4 x1
  clear hb1 x0 hG0 hG
  go_wp2_with fail
  refine (HC1.out _ hG1).mono ?_
  rintro e w2 ⟨hb2', rfl⟩
  have hz2 := hb2'.size
  have x2 := blk_below hb2' x1 (by omega)
  have hG2 := hG1.below hb2' (Nat.le_refl _)
  have HB2 : Hid (Below w.heap.size w w2) := HB1.out.trans (hb2'.mono (by omega))
  clear hb2' x1 hG1 HB1 r0 r1 r2 r3
  obtain ⟨r0, r1, r2, r3⟩ := blk4 x2
  go_wp2_with fail
  refine (HC2.out _ hG2).mono ?_
  rintro e w3 ⟨hb3', rfl⟩
  have hz3 := hb3'.size
  have x3 := blk_below hb3' x2 (by omega)
  have hG3 := hG2.below hb3' (Nat.le_refl _)
  have HB3 : Hid (Below w.heap.size w w3) := HB2.out.trans (hb3'.mono (by omega))
  clear hb3' x2 hG2 HB2 r0 r1 r2 r3
  obtain ⟨r0, r1, r2, r3⟩ := blk4 x3
  go_wp2_with fail
  refine (HC3.out _ hG3).mono ?_
  rintro e w4 ⟨hb4', rfl⟩
  have hz4 := hb4'.size
  have x4 := blk_below hb4' x3 (by omega)
  have hG4 := hG3.below hb4' (Nat.le_refl _)
  have HB4 : Hid (Below w.heap.size w w4) := HB3.out.trans (hb4'.mono (by omega))
  clear hb4' x3 hG3 HB3 r0 r1 r2 r3
  obtain ⟨r0, r1, r2, r3⟩ := blk4 x4
  go_wp2_with fail
  refine (HC4.out _ hG4).mono ?_
  rintro e w5 ⟨hb5', rfl⟩
  have HB5 : Hid (Below w.heap.size w w5) := HB4.out.trans (hb5'.mono (by omega))
  clear hb5' x4 hG4 HB4 r0 r1 r2 r3 u1 u2
  have g00 : ((0 : Int) != 0) = false := rfl
  have g01 : ((0 : Int) == 0) = true := rfl
  by_cases h1 : E1 = 0
  · subst h1
    by_cases h2 : E2 = 0
    · subst h2
      obtain ⟨rfl, rfl, hle⟩ := HS.out rfl rfl
      have v1 : IntKind.i64.wrap (V3 + V4) = V3 + V4 := by rw [IntKind.wrap_i64]; omega
      have v2 : IntKind.i64.wrap (V1 + V2) = V1 + V2 := by rw [IntKind.wrap_i64]; omega
      go_wp2
      go_ret
      exact ⟨rfl, HB5.out⟩
    · have e2 : (E2 != 0) = true := by simpa using h2
      clear h2
      go_wp2
      go_ret
      exact ⟨rfl, HB5.out⟩
  · have e1 : (E1 != 0) = true := by simpa using h1
    clear h1
    go_wp2
    go_ret
    exact ⟨rfl, HB5.out⟩
theorem CutSub_int (hL : CLeastC) (hC : CCapC) (n s t a b : Int) (ha : 0 ≤ a ∧ a < 65536) (hb : 0 ≤ b ∧ b < 65536) (ao : Option Addr) (cap : Nat) (l : List Arc3) (w : World) (hG : GraphIn w ao cap l) :
    Calls Try.prog 5 #[.agg #[.int .i64 n, .int .i64 s, .int .i64 t, .slice ao l.length cap], .int .u16 a, .int .u16 b] w fun e w' => e = .returned (.bool true) ∧ Below w.heap.size w w' := by
  obtain ⟨a, rfl⟩ := Int.eq_ofNat_of_zero_le ha.1
  obtain ⟨b, rfl⟩ := Int.eq_ofNat_of_zero_le hb.1
  exact CutSub_any hL hC n s t a b (by omega) (by omega) ao cap l w hG

end Go.Proofs.Ytfmlgepoiaehgaa
