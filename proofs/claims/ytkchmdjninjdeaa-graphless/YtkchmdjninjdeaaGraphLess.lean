/- The law GraphLess, walked. -/
import Derived.Test.YtkchmdjninjdeaaWithout
import Derived.Test.YtkchmdjninjdeaaSl
import Derived.Test.YtkchmdjninjdeaaGMath
namespace Go.Proofs.Ytkchmdjninjdeaa
open Go.RowKit
set_option linter.unusedVariables false

set_option maxHeartbeats 1000000 in
set_option maxRecDepth 100000 in
theorem GraphLess_any (n k : Int) (ao : Option Addr) (cap : Nat) (l : List Arc3) (w : World) (hcap : l.length ≤ cap) (hcm : cap ≤ maxLen) (hA : ArcsAt w ao l) :
    Calls Try.prog 5 #[.agg #[.int .i64 n, .slice ao l.length cap], .int .i64 k] w fun e w' => e = .returned (.bool true) ∧ Below w.heap.size w w' := by
  have hne : ((0 : Int) != 0) = false := rfl
  have hA0 := hA.alloc (.cells #[.int .i64 n, .slice ao l.length cap] 27)
  go_enter Try.func5, Try.ntmps5
  go_wp2_with fail
  refine (line_any _).mono ?_
  rintro e w1 ⟨hb1, ao1, cap1, rfl, hA1, hc1, hcm1⟩
  simp only [World.size_alloc] at hb1
  go_wp2_with fail
  refine (Without_ok 3 ao1 cap1 lineL 0 _ hA1 (by decide) (by decide) hc1 hcm1).mono ?_
  rintro e w2 ⟨hb2, b2, hb2l, rfl, hL2⟩
  rw [show cut1 lineL 0 = [(1, 2, 3)] from rfl] at hL2
  have hll : lineL.length - 1 = 1 := rfl
  have hz1 := hb1.size
  simp only [World.size_alloc] at hz1
  have hz2 := hb2.size
  have x2 := blk_below hb2 (blk_below hb1 (blk_new w (.cells #[.int .i64 n, .slice ao l.length cap] 27)) (by omega)) (by omega)
  have hA2 := (hA0.below hb1 (by simp)).below hb2 (by omega)
  have hbb := below_in (hb1.trans (hb2.mono (by omega))) (by omega)
  clear hA0 hA1 hb1 hb2
  go_wp2_with fail
  obtain ⟨W, hW⟩ : ∃ W : World, W = w2.alloc (.cells #[.int .i64 3, .slice (some ⟨b2, 0, none⟩) 1 1] 27) := ⟨_, rfl⟩
  have y2 := blk_new w2 (.cells #[.int .i64 3, .slice (some ⟨b2, 0, none⟩) 1 1] 27)
  have x3 := blk_old x2 (.cells #[.int .i64 3, .slice (some ⟨b2, 0, none⟩) 1 1] 27)
  have hA3 := hA2.alloc (.cells #[.int .i64 3, .slice (some ⟨b2, 0, none⟩) 1 1] 27)
  have hL3 := hL2.alloc (.cells #[.int .i64 3, .slice (some ⟨b2, 0, none⟩) 1 1] 27)
  have hbb3 := hbb.alloc (by omega) (.cells #[.int .i64 3, .slice (some ⟨b2, 0, none⟩) 1 1] 27)
  have hWz : W.heap.size = w2.heap.size + 1 := by rw [hW]; simp
  have hWl : w2.heap.size < W.heap.size := by omega
  rw [← hW] at y2 x3 hA3 hL3 hbb3 ⊢
  have HWz : Hid (W.heap.size = w2.heap.size + 1) := hWz
  clear hW hWz x2 hA2 hL2 hbb
  obtain ⟨s0, s1, g0, g1⟩ := blk2 y2
  have HN : Hid (ArcsAt (W.alloc (.cells (flat [(1, 2, 3)]).toArray 41)) (some ⟨W.heap.size, 0, none⟩) [(1, 2, 3)]) := arcs_new W [(1, 2, 3)] 41
  have HL : Hid (ArcsAt W (some ⟨b2, 0, none⟩) [(1, 2, 3)]) := hL3
  have HX : Hid (W.heap[w.heap.size]? = some (.cells #[.int .i64 n, .slice ao l.length cap] 27 (0, 0))) := x3
  have HA : Hid (ArcsAt W ao l) := hA3
  have HB : Hid (Below w.heap.size w W) := hbb3
  clear hL3 x3 y2 hA3 hbb3
  go_cut [32] (fun s wx => s = .bool false ∧ Below W.heap.size W wx)
  case first =>
    go_region_with (first
      | (go_at_call 14; refine (arcs_any _ 1 [(1, 2, 3)] _ (by exact HN.out) (by decide)).mono ?_; rintro e w3 ⟨hb3, ao3, cap3, rfl, hA3, _, _, _⟩; have hb4 : Below W.heap.size W w3 := ((below_one W _).drew).trans (hb3.mono (by simp)); have t1 := later hb4 s1 hWl; have hL4 := HL.out.below hb4 (Nat.le_refl _))
      | (go_at_call 12; refine (equalArcsB _ _ 1 _ [(1, 2, 3)] [(1, 2, 3)] _ (by decide) (by decide) (by assumption) (by assumption)).mono ?_; rintro e w5 ⟨rfl, hb5⟩; rw [decide_eq_true (rfl : ([(1, 2, 3)] : List Arc3) = [(1, 2, 3)])]))
    all_goals
      go_wp2_with fail
      go_meet
      case rel => exact ⟨rfl, hb4.trans (hb5.mono hb4.size)⟩
  case rest =>
    obtain ⟨rfl, hb6⟩ := hcut
    have hz6 := hb6.size
    have hwz : w.heap.size < W.heap.size := by have := HWz.out; omega
    have x6 := blk_below hb6 HX.out hwz
    have hA6 := HA.out.below hb6 (Nat.le_refl _)
    have hbb6 := HB.out.trans (hb6.mono (by omega))
    have hm : l.length ≤ maxLen := Nat.le_trans hcap hcm
    clear hb6 s0 s1 g0 g1 HN HL HX HA HB
    obtain ⟨r0, r1, f0, f1⟩ := blk2 x6
    go_wp2_with fail
    by_cases hE : graphErr n (-10000) l = 0
    · by_cases hk : 0 ≤ k ∧ k < l.length
      · obtain ⟨hk0, hk1⟩ := hk
        obtain ⟨k, rfl⟩ := Int.eq_ofNat_of_zero_le hk0
        obtain ⟨⟨hn1, hn2⟩, hlen, _⟩ := err_ok hE
        obtain ⟨N, rfl⟩ := Int.eq_ofNat_of_zero_le (show 0 ≤ n by omega)
        have hk2 : k < l.length := by omega
        refine (Without_ok N ao cap l k _ hA6 hE hk2 hcap hcm).mono ?_
        rintro e w7 ⟨hb7, b7, hb7l, rfl, hC7⟩
        have hz7 := hb7.size
        obtain ⟨O7, hO7⟩ : ∃ O : Obj, O = .cells #[.int .i64 (N : Int), .slice (some ⟨b7, 0, none⟩) (l.length - 1) (l.length - 1)] 27 := ⟨_, rfl⟩
        have x7 := blk_old (blk_below hb7 x6 (by omega)) O7
        have y7 := blk_new w7 O7
        have hA7 := (hA6.below hb7 (by omega)).alloc O7
        have hC7 := hC7.alloc O7
        have hbb7 := (hbb6.trans (hb7.mono (by omega))).alloc (by omega) O7
        have e7 : (w7.alloc O7).heap.size = w7.heap.size + 1 := by simp
        subst hO7
        obtain ⟨r0, r1, f0, f1⟩ := blk2 x7
        obtain ⟨s0, s1, g0, g1⟩ := blk2 y7
        have hE7 := cut1_err hk2 hE
        have hl7 := cut1_length l k hk2
        have H7 : Hid (graphErr N (-10000) (cut1 l k) = 0) := hE7
        have HL7 : Hid ((cut1 l k).length = l.length - 1) := hl7
        have HE : Hid (graphErr N (-10000) l = 0) := hE
        clear hb7 x6 hA6 hbb6 hE7 hl7 hE
        go_wp2_with fail
        refine (Degrees_ok N ao cap l _ hA7 HE.out).mono ?_
        rintro e w8 ⟨hb8, b8, c8, hb8l, hb8c, rfl, ho8, hi8⟩
        rw [e7] at hb8 hb8l
        have hz8 := hb8.size
        rw [e7] at hz8
        have x8 := blk_below hb8 x7 (by omega)
        have y8 := blk_below hb8 y7 (by omega)
        have hA8 := hA7.below hb8 (by omega)
        have hC8 := hC7.below hb8 (by omega)
        have hbb8 := hbb7.trans (hb8.mono (by omega))
        clear hb8 hi8 x7 y7 hA7 hC7 hbb7 r0 r1 f0 f1 s0 s1 g0 g1
        obtain ⟨r0, r1, f0, f1⟩ := blk2 x8
        obtain ⟨s0, s1, g0, g1⟩ := blk2 y8
        go_wp2_with fail
        have hD := Degrees_ok N (some ⟨b7, 0, none⟩) (l.length - 1) (cut1 l k) _ hC8 H7.out
        rw [HL7.out] at hD
        refine hD.mono ?_
        clear hD
        rintro e w9 ⟨hb9, b9, c9, hb9l, hb9c, rfl, ho9, hi9⟩
        have hz9 := hb9.size
        have x9 := blk_below hb9 x8 (by omega)
        have y9 := blk_below hb9 y8 (by omega)
        have hA9 := hA8.below hb9 (by omega)
        have hC9 := hC8.below hb9 (by omega)
        have ho9' := ho8.below hb9 (by omega)
        have hbb9 := hbb8.trans (hb9.mono (by omega))
        clear hb9 hi9 x8 y8 hA8 hC8 ho8 hbb8 r0 r1 f0 f1 s0 s1 g0 g1
        obtain ⟨r0, r1, f0, f1⟩ := blk2 x9
        obtain ⟨s0, s1, g0, g1⟩ := blk2 y9
        have hkn : ¬ (k : Int) < 0 := by omega
        have hkl : ¬ (l.length : Int) ≤ (k : Int) := by omega
        have hNN : ((N : Int) != (N : Int)) = false := by simp
        obtain ⟨ba, oa, rfl, hba, q0, q1, q2⟩ := hA9 k hk2
        go_wp2_with fail
        go_loop [83] (fun i => ∃ v : Nat, v ≤ N ∧ i = .int .i64 v) (fun i => N - (intOf i).toNat)
        case atStart => exact ⟨0, Nat.zero_le _, rfl⟩
        case round =>
          obtain ⟨v, hv, rfl⟩ := hrel
          by_cases hlt : v < N
          · obtain ⟨bo, oo, eo, hbo, u0⟩ := ho9' v (by rw [outs_length]; exact hlt)
            obtain ⟨bp, op, ep, hbp, v0⟩ := ho9 v (by rw [outs_length]; exact hlt)
            simp only [Option.some.injEq, Addr.mk.injEq, and_true] at eo ep
            obtain ⟨rfl, rfl⟩ := eo
            obtain ⟨rfl, rfl⟩ := ep
            rw [ati_outs N _ v hlt, Nat.zero_add] at u0 v0
            have hcut := outDeg_cut l k v hk2
            have hd := outDeg_le l v
            generalize outDeg (cut1 l k) v = y at *
            generalize outDeg l v = x at *
            generalize hf : (at3 l k).1 = f at *
            by_cases hfv : f = (v : Int)
            · rw [if_pos hfv] at hcut
              subst hcut
              have hfv' : (f == (v : Int)) = true := by simpa using hfv
              clear hf hfv
              go_wp2
              go_round
              case rel => exact ⟨v + 1, by omega, by go_num⟩
              case measure => simp [intOf]; omega
            · rw [if_neg hfv] at hcut
              subst hcut
              have hfv' : (f == (v : Int)) = false := by simpa using hfv
              clear hf hfv
              go_wp2
              go_round
              case rel => exact ⟨v + 1, by omega, by go_num⟩
              case measure => simp [intOf]; omega
          · go_wp2_with fail
            have hCk := CheckLong_any N (some ⟨b7, 0, none⟩) (l.length - 1) (cut1 l k) w9 (by rw [HL7.out]; exact Nat.le_trans (Nat.sub_le _ _) hm) hC9
            rw [HL7.out, H7.out] at hCk
            refine hCk.mono ?_
            clear hCk
            rintro e w10 ⟨rfl, hb10⟩
            have hz10 := hb10.size
            have x10 := blk_below hb10 x9 (by omega)
            have y10 := blk_below hb10 y9 (by omega)
            have hA10 := hA9.below hb10 (by omega)
            have hC10 := hC9.below hb10 (by omega)
            have hbb10 := hbb9.trans (hb10.mono (by omega))
            clear hb10 x9 y9 hA9 hC9 hbb9 r0 r1 f0 f1 s0 s1 g0 g1 ho9 ho9'
            obtain ⟨r0, r1, f0, f1⟩ := blk2 x10
            obtain ⟨s0, s1, g0, g1⟩ := blk2 y10
            have h00 : ((0 : Int) == 0) = true := rfl
            go_wp2_with fail
            refine (Check_any N (some ⟨ba, oa, none⟩) cap l w10 hm hA10).mono ?_
            rintro e w11 ⟨rfl, hb11⟩
            have hz11 := hb11.size
            have y11 := blk_below hb11 y10 (by omega)
            have hC11 := hC10.below hb11 (by omega)
            have hbb11 := hbb10.trans (hb11.mono (by omega))
            clear hb11 x10 y10 hA10 hC10 hbb10 r0 r1 f0 f1 s0 s1 g0 g1
            obtain ⟨s0, s1, g0, g1⟩ := blk2 y11
            by_cases hG : graphErr N 0 l = 0
            · rw [hG]
              have HG : Hid (graphErr N 0 l = 0) := hG
              clear hG
              go_wp2_with fail
              have hH := Check_any N (some ⟨b7, 0, none⟩) (l.length - 1) (cut1 l k) w11 (by rw [HL7.out]; exact Nat.le_trans (Nat.sub_le _ _) hm) hC11
              rw [HL7.out, cut1_err hk2 HG.out] at hH
              refine hH.mono ?_
              clear hH
              rintro e w12 ⟨rfl, hb12⟩
              have hbb12 := hbb11.trans (hb12.mono (by omega))
              clear hb12 hbb11
              go_wp2
              go_ret
              exact ⟨rfl, hbb12⟩
            · have hG' : (graphErr N 0 l != 0) = true := by simpa using hG
              clear hG
              go_wp2
              go_ret
              exact ⟨rfl, hbb11⟩
      · refine (Without_none n k ao cap l _ hA6 hE (by omega)).mono ?_
        rintro e w7 ⟨hb7, rfl⟩
        have hbb7 := (hbb6.trans (hb7.mono (by omega))).alloc (by have := hb7.size; omega) (.cells #[.int .i64 0, .slice none 0 0] 27)
        clear hb7 hbb6 hk
        go_wp2
        go_ret
        exact ⟨rfl, hbb7⟩
    · have hE' : (graphErr n (-10000) l != 0) = true := by simpa using hE
      refine (Without_err n k ao cap l _ hm hA6 hE).mono ?_
      rintro e w7 ⟨hb7, rfl⟩
      have hbb7 := (hbb6.trans (hb7.mono (by omega))).alloc (by have := hb7.size; omega) (.cells #[.int .i64 0, .slice none 0 0] 27)
      clear hb7 hbb6
      go_wp2
      go_ret
      exact ⟨rfl, hbb7⟩

end Go.Proofs.Ytkchmdjninjdeaa
