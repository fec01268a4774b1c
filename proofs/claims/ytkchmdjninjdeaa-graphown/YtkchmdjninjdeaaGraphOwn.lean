/- The law GraphOwn, walked. -/
import Derived.Test.YtkchmdjninjdeaaOwn
namespace Go.Proofs.Ytkchmdjninjdeaa
open Go.RowKit
set_option linter.unusedVariables false

set_option maxHeartbeats 1000000 in
set_option maxRecDepth 100000 in
theorem GraphOwn_any (n k : Int) (ao : Option Addr) (cap : Nat) (l : List Arc3) (w : World) (hcap : l.length ≤ cap) (hcm : cap ≤ maxLen) (hA : ArcsAt w ao l)
    (hn : ao = none → l.length = 0 ∧ cap = 0) (hreach : l.length * 24 ≤ 140737488351232) :
    Calls Try.prog 6 #[.agg #[.int .i64 n, .slice ao l.length cap], .int .i64 k] w fun e w' => e = .returned (.bool true) ∧ Below w.heap.size w w' := by
  have hm := Nat.le_trans hcap hcm
  have hne : ((0 : Int) != 0) = false := rfl
  have hO : Hid (0 < l.length → ∀ c o2, ao = some ⟨c, o2, none⟩ → c < w.heap.size) := fun hl c o2 e => by
    obtain ⟨c', o', e', hlt, _⟩ := hA 0 hl
    rw [e'] at e; cases e; exact hlt
  have HN : Hid (ao = none → l.length = 0 ∧ cap = 0) := hn
  have hA0 := hA.alloc (.cells #[.int .i64 n, .slice ao l.length cap] 27)
  clear hn
  go_enter Try.func6, Try.ntmps6
  go_wp2_with fail
  refine (line_any _).mono ?_
  rintro e w1 ⟨hb1, ao1, cap1, rfl, hA1, _, _⟩
  simp only [World.size_alloc] at hb1
  go_wp2_with fail
  refine (Turn_ok 3 ao1 cap1 lineL _ hA1 (by decide)).mono ?_
  rintro e w2 ⟨hb2, b2, hb2l, rfl, _, _⟩
  have hll : lineL.length = 2 := rfl
  have hz1 := hb1.size
  simp only [World.size_alloc] at hz1
  have hz2 := hb2.size
  have x2 := blk_old (blk_below hb2 (blk_below hb1 (blk_new w (.cells #[.int .i64 n, .slice ao l.length cap] 27)) (by omega)) (by omega)) (.cells #[.int .i64 3, .slice (some ⟨b2, 0, none⟩) 2 2] 27)
  have hA2 := ((hA0.below hb1 (by simp)).below hb2 (by omega)).alloc (.cells #[.int .i64 3, .slice (some ⟨b2, 0, none⟩) 2 2] 27)
  have hbb2 := (below_in (hb1.trans (hb2.mono (by omega))) (by omega)).alloc (by omega) (.cells #[.int .i64 3, .slice (some ⟨b2, 0, none⟩) 2 2] 27)
  have y2 := blk_new w2 (.cells #[.int .i64 3, .slice (some ⟨b2, 0, none⟩) 2 2] 27)
  clear hA0 hA1 hb1 hb2
  obtain ⟨r0, r1, f0, f1⟩ := blk2 x2
  obtain ⟨s0, s1, g0, g1⟩ := blk2 y2
  have h22 : ((2 : Int) != 2) = false := rfl
  go_wp2_with fail
  refine (clone_any ao cap l _ hA2 HN.out hreach).mono ?_
  rintro e w3 ⟨hb3, ao3, cap3, rfl, hA3, hfr3⟩
  simp only [World.size_alloc] at hb3 hfr3
  have hz3 := hb3.size
  simp only [World.size_alloc] at hz3
  have x3 := blk_below hb3 x2 (by omega)
  have hA3' := hA2.below hb3 (by simp)
  have hbb3 := hbb2.trans (hb3.mono (by omega))
  have h3l : Hid (0 < l.length → ∀ c o2, ao3 = some ⟨c, o2, none⟩ → c < w3.heap.size) := fun hl c o2 e => by
    obtain ⟨c', o', e', hlt, _⟩ := hA3 0 hl
    rw [e'] at e; cases e; exact hlt
  clear hb3 x2 y2 hA2 hbb2 r0 r1 f0 f1 s0 s1 g0 g1 hfr3
  obtain ⟨r0, r1, f0, f1⟩ := blk2 x3
  go_wp2_with fail
  refine (Turn_own n ao cap l _ hm hA3').mono ?_
  rintro e w4 ⟨hb4, n4, ao4, m4, L4, rfl, hF4⟩
  have H4 : Hid (∀ b off, ao4 = some ⟨b, off, none⟩ → w3.heap.size ≤ b ∧ b < w4.heap.size) := hF4.bounds
  have hz4 := hb4.size
  obtain ⟨O4, hO4⟩ : ∃ O : Obj, O = .cells #[.int .i64 n4, .slice ao4 m4 m4] 27 := ⟨_, rfl⟩
  have x4 := blk_old (blk_below hb4 x3 (by omega)) O4
  have y4 := blk_new w4 O4
  have hA4 := (hA3'.below hb4 (by omega)).alloc O4
  have hW4 := (hA3.below hb4 (by omega)).alloc O4
  have hF4 := hF4.alloc O4
  have hbb4 := (hbb3.trans (hb4.mono (by omega))).alloc (by omega) O4
  have e4 : (w4.alloc O4).heap.size = w4.heap.size + 1 := by simp
  have HF4 : Hid (FreshRow w3.heap.size (w4.alloc O4) ao4 m4 L4) := hF4
  have HW4 : Hid (ArcsAt (w4.alloc O4) ao3 l) := hW4
  have HB4 : Hid (Below w.heap.size w (w4.alloc O4)) := hbb4
  clear hb4 x3 hA3 hA3' hbb3 r0 r1 f0 f1 hF4 hW4 hbb4
  subst hO4
  obtain ⟨r0, r1, f0, f1⟩ := blk2 x4
  go_wp2_with fail
  refine (Without_own n k ao cap l _ hcap hcm hA4).mono ?_
  rintro e w5 ⟨hb5, n5, ao5, m5, L5, rfl, hF5⟩
  rw [e4] at hb5 hF5
  have H5 : Hid (∀ b off, ao5 = some ⟨b, off, none⟩ → w4.heap.size + 1 ≤ b ∧ b < w5.heap.size) := hF5.bounds
  have hz5 := hb5.size
  rw [e4] at hz5
  obtain ⟨O5, hO5⟩ : ∃ O : Obj, O = .cells #[.int .i64 n5, .slice ao5 m5 m5] 27 := ⟨_, rfl⟩
  have x5 := blk_old (blk_below hb5 x4 (by omega)) O5
  have y5 := blk_old (blk_below hb5 y4 (by omega)) O5
  have z5 := blk_new w5 O5
  have e5 : (w5.alloc O5).heap.size = w5.heap.size + 1 := by simp
  have HA5 : Hid (ArcsAt (w5.alloc O5) ao l) := (hA4.below hb5 (by rw [e4]; omega)).alloc O5
  have HW5 : Hid (ArcsAt (w5.alloc O5) ao3 l) := (HW4.out.below hb5 (by rw [e4]; omega)).alloc O5
  have HF5 : Hid (FreshRow w3.heap.size (w5.alloc O5) ao4 m4 L4) := (HF4.out.below hb5 (by rw [e4]; omega)).alloc O5
  have HG5 : Hid (FreshRow (w4.heap.size + 1) (w5.alloc O5) ao5 m5 L5) := hF5.alloc O5
  have HB5 : Hid (Below w.heap.size w (w5.alloc O5)) := (HB4.out.trans (hb5.mono (by omega))).alloc (by omega) O5
  clear hb5 x4 y4 hA4 hF5 HF4 HW4 HB4 r0 r1 f0 f1 e4
  subst hO5
  obtain ⟨r0, r1, f0, f1⟩ := blk2 x5
  obtain ⟨s0, s1, g0, g1⟩ := blk2 y5
  go_wp2_with fail
  refine (spoil_any w3.heap.size ao4 m4 L4 _ _ _ _ HF5.out).mono ?_
  rintro e w6 ⟨rfl, hS6⟩
  have hz6 := hS6.size
  rw [e5] at hz6
  have x6 := hS6.blk x5 (fun b off e => by have := H4.out b off e; omega)
  have z6 := hS6.blk z5 (fun b off e => by have := H4.out b off e; omega)
  have HA6 : Hid (ArcsAt w6 ao l) := hS6.arcs HA5.out (fun hl c o2 b off e1 e2 => by have := H4.out b off e2; have := hO.out hl c o2 e1; omega)
  have HW6 : Hid (ArcsAt w6 ao3 l) := hS6.arcs HW5.out (fun hl c o2 b off e1 e2 => by have := H4.out b off e2; have := h3l.out hl c o2 e1; omega)
  have HG6 : Hid (FreshRow (w4.heap.size + 1) w6 ao5 m5 L5) := hS6.fresh HG5.out (fun b off e => by have := H4.out b off e; omega)
  have HB6 : Hid (Below w.heap.size w w6) := HB5.out.trans (hS6.below (fun b off e => by have := H4.out b off e; omega) (by rw [e5]; omega))
  clear hS6 x5 y5 z5 HA5 HW5 HF5 HG5 HB5 r0 r1 f0 f1 s0 s1 g0 g1 e5
  obtain ⟨s0, s1, g0, g1⟩ := blk2 z6
  go_wp2_with fail
  refine (spoil_any (w4.heap.size + 1) ao5 m5 L5 _ _ _ _ HG6.out).mono ?_
  rintro e w7 ⟨rfl, hS7⟩
  have hz7 := hS7.size
  have x7 := hS7.blk x6 (fun b off e => by have := H5.out b off e; omega)
  have hA7 : ArcsAt w7 ao l := hS7.arcs HA6.out (fun hl c o2 b off e1 e2 => by have := H5.out b off e2; have := hO.out hl c o2 e1; omega)
  have HW7 : Hid (ArcsAt w7 ao3 l) := hS7.arcs HW6.out (fun hl c o2 b off e1 e2 => by have := H5.out b off e2; have := h3l.out hl c o2 e1; omega)
  have HB7 : Hid (Below w.heap.size w w7) := HB6.out.trans (hS7.below (fun b off e => by have := H5.out b off e; omega) (by omega))
  clear hS7 x6 z6 HA6 HW6 HG6 HB6 s0 s1 g0 g1
  obtain ⟨r0, r1, f0, f1⟩ := blk2 x7
  go_wp2_with fail
  refine (Turn_own n ao cap l _ hm hA7).mono ?_
  rintro e w8 ⟨hb8, n8, ao8, m8, L8, rfl, hF8⟩
  have hz8 := hb8.size
  obtain ⟨O8, hO8⟩ : ∃ O : Obj, O = .cells #[.int .i64 n8, .slice ao8 m8 m8] 27 := ⟨_, rfl⟩
  have x8 := blk_old (blk_below hb8 x7 (by omega)) O8
  have y8 := blk_new w8 O8
  have hA8 := (hA7.below hb8 (by omega)).alloc O8
  have e8 : (w8.alloc O8).heap.size = w8.heap.size + 1 := by simp
  have HW8 : Hid (ArcsAt (w8.alloc O8) ao3 l) := (HW7.out.below hb8 (by omega)).alloc O8
  have HF8 : Hid (FreshRow w7.heap.size (w8.alloc O8) ao8 m8 L8) := hF8.alloc O8
  have HB8 : Hid (Below w.heap.size w (w8.alloc O8)) := (HB7.out.trans (hb8.mono (by omega))).alloc (by omega) O8
  clear hb8 x7 hA7 hF8 HW7 HB7 r0 r1 f0 f1
  subst hO8
  obtain ⟨r0, r1, f0, f1⟩ := blk2 x8
  go_wp2_with fail
  refine (Without_own n k ao cap l _ hcap hcm hA8).mono ?_
  rintro e w9 ⟨hb9, n9, ao9, m9, L9, rfl, hF9⟩
  rw [e8] at hb9 hF9
  have hz9 := hb9.size
  rw [e8] at hz9
  obtain ⟨O9, hO9⟩ : ∃ O : Obj, O = .cells #[.int .i64 n9, .slice ao9 m9 m9] 27 := ⟨_, rfl⟩
  have x9 := blk_old (blk_below hb9 x8 (by omega)) O9
  have y9 := blk_old (blk_below hb9 y8 (by omega)) O9
  have z9 := blk_new w9 O9
  have e9 : (w9.alloc O9).heap.size = w9.heap.size + 1 := by simp
  have hA9 : ArcsAt (w9.alloc O9) ao l := (hA8.below hb9 (by rw [e8]; omega)).alloc O9
  have hW9 : ArcsAt (w9.alloc O9) ao3 l := (HW8.out.below hb9 (by rw [e8]; omega)).alloc O9
  have HF9 : Hid (FreshRow w7.heap.size (w9.alloc O9) ao8 m8 L8) := (HF8.out.below hb9 (by rw [e8]; omega)).alloc O9
  have HG9 : Hid (FreshRow (w8.heap.size + 1) (w9.alloc O9) ao9 m9 L9) := hF9.alloc O9
  have HB9 : Hid (Below w.heap.size w (w9.alloc O9)) := (HB8.out.trans (hb9.mono (by omega))).alloc (by omega) O9
  clear hb9 x8 y8 hA8 hF9 HF8 HW8 HB8 r0 r1 f0 f1 e8
  subst hO9
  obtain ⟨r0, r1, f0, f1⟩ := blk2 x9
  have hEE : (graphErr n (-10000) l == graphErr n (-10000) l) = true := by simp
  have hWW : (woErr n l k == woErr n l k) = true := by simp
  go_wp2_with fail
  refine (equalArcsB ao ao3 cap cap3 l l _ hm hm hA9 hW9).mono ?_
  rintro e w10 ⟨rfl, hb10⟩
  rw [decide_eq_true (rfl : l = l)]
  rw [e9] at hb10
  have hz10 := hb10.size
  rw [e9] at hz10
  have y10 := blk_below hb10 y9 (by omega)
  have z10 := blk_below hb10 z9 (by omega)
  have HF10 : Hid (FreshRow w7.heap.size w10 ao8 m8 L8) := HF9.out.below hb10 (by rw [e9]; omega)
  have HG10 : Hid (FreshRow (w8.heap.size + 1) w10 ao9 m9 L9) := HG9.out.below hb10 (by rw [e9]; omega)
  have HB10 : Hid (Below w.heap.size w w10) := HB9.out.trans (hb10.mono (by omega))
  clear hb10 x9 y9 z9 hA9 hW9 HF9 HG9 HB9 r0 r1 f0 f1 e9
  obtain ⟨s0, s1, g0, g1⟩ := blk2 y10
  obtain ⟨t0, t1, u0, u1⟩ := blk2 z10
  go_wp2_with fail
  have hC := containsFunc1 ao8 m8 L8 w10 (by rw [HF10.out.len]; have := HF10.out.small; unfold maxLen; omega) HF10.out.arcs HF10.out.pos
  rw [HF10.out.len] at hC
  refine hC.mono ?_
  clear hC
  rintro e w11 ⟨rfl, hb11⟩
  have hz11 := hb11.size
  have z11 := blk_below hb11 z10 (by omega)
  have HG11 : Hid (FreshRow (w8.heap.size + 1) w11 ao9 m9 L9) := HG10.out.below hb11 (by omega)
  have HB11 : Hid (Below w.heap.size w w11) := HB10.out.trans (hb11.mono (by omega))
  clear hb11 y10 z10 HF10 HG10 HB10 s0 s1 g0 g1 t0 t1 u0 u1
  obtain ⟨t0, t1, u0, u1⟩ := blk2 z11
  go_wp2_with fail
  have hC := containsFunc2 ao9 m9 L9 w11 (by rw [HG11.out.len]; have := HG11.out.small; unfold maxLen; omega) HG11.out.arcs HG11.out.pos
  rw [HG11.out.len] at hC
  refine hC.mono ?_
  clear hC
  rintro e w12 ⟨rfl, hb12⟩
  have HB12 : Hid (Below w.heap.size w w12) := HB11.out.trans (hb12.mono (by omega))
  clear hb12
  go_wp2
  go_ret
  exact ⟨rfl, HB12.out⟩

end Go.Proofs.Ytkchmdjninjdeaa
