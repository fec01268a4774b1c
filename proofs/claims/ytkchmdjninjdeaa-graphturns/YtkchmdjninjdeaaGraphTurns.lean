/- The law GraphTurns returns true and leaves its argument as it was. No condition. -/
import Derived.Test.YtkchmdjninjdeaaLits
import Derived.Test.YtkchmdjninjdeaaSl
import Derived.Test.YtkchmdjninjdeaaGMath
namespace Go.Proofs.Ytkchmdjninjdeaa
open Go.RowKit
set_option linter.unusedVariables false

set_option maxHeartbeats 1000000 in
theorem GraphTurns_any (n : Int) (ao : Option Addr) (cap : Nat) (l : List Arc3) (w : World) (hm : l.length ≤ maxLen) (hA : ArcsAt w ao l) :
    Calls Try.prog 4 #[.agg #[.int .i64 n, .slice ao l.length cap]] w fun e w' => e = .returned (.bool true) ∧ Below w.heap.size w w' := by
  have hne : ((0 : Int) != 0) = false := rfl
  have hA0 := hA.alloc (.cells #[.int .i64 n, .slice ao l.length cap] 27)
  go_enter Try.func4, Try.ntmps4
  go_wp2_with fail
  refine (line_any _).mono ?_
  rintro e w1 ⟨hb1, ao1, cap1, rfl, hA1⟩
  simp only [World.size_alloc] at hb1
  go_wp2_with fail
  refine (Degrees_ok 3 ao1 cap1 lineL _ hA1 (by decide)).mono ?_
  rintro e w2 ⟨hb2, b2, c2, hb2l, hb2c, rfl, ho, hi⟩
  rw [show outs 3 lineL = [1, 1, 0] from by decide] at ho
  rw [show ins 3 lineL = [0, 1, 1] from by decide] at hi
  have hz1 := hb1.size
  simp only [World.size_alloc] at hz1
  have hz2 := hb2.size
  have x2 := blk_below hb2 (blk_below hb1 (blk_new w (.cells #[.int .i64 n, .slice ao l.length cap] 27)) (by omega)) (by omega)
  have hA2 := (hA0.below hb1 (by simp)).below hb2 (by omega)
  clear hA0 hA1
  go_wp2_with fail
  refine (equalIntsB _ _ 3 3 [1, 1, 0] [1, 1, 0] _ (by decide) (by decide) (ho.alloc _) (ints_new w2 [1, 1, 0] 3)).mono ?_
  rintro e w3 ⟨rfl, hb3⟩
  rw [decide_eq_true (rfl : ([1, 1, 0] : List Int) = [1, 1, 0])]
  simp only [World.size_alloc] at hb3
  have hz3 := hb3.size
  simp only [World.size_alloc] at hz3
  have x3 := blk_below hb3 (blk_old x2 _) (by omega)
  have hA3 := (hA2.alloc _).below hb3 (by simp)
  have hi3 := (hi.alloc _).below hb3 (by simp)
  have hbb : Below w.heap.size w w3 := (below_in (hb1.trans (hb2.mono (by omega))) (by omega)).trans (((below_one w2 _).trans (hb3.mono (by omega))).mono (by omega))
  clear hb1 hb2 hb3 hA2 x2 ho hi
  go_wp2_with fail
  refine (equalIntsB _ _ 3 3 [0, 1, 1] [0, 1, 1] _ (by decide) (by decide) (hi3.alloc _) (ints_new w3 [0, 1, 1] 3)).mono ?_
  rintro e w4 ⟨rfl, hb4⟩
  rw [decide_eq_true (rfl : ([0, 1, 1] : List Int) = [0, 1, 1])]
  simp only [World.size_alloc] at hb4
  have hz4 := hb4.size
  simp only [World.size_alloc] at hz4
  have x4 := blk_below hb4 (blk_old x3 _) (by omega)
  have hA4 := (hA3.alloc _).below hb4 (by simp)
  have hbb : Below w.heap.size w w4 := hbb.trans (((below_one w3 _).trans (hb4.mono (by omega))).mono (by omega))
  clear hb4 hA3 x3 hi3
  obtain ⟨r0, r1, f0, f1⟩ := blk2 x4
  go_wp2_with fail
  by_cases hE : graphErr n (-10000) l = 0
  · obtain ⟨⟨hn1, hn2⟩, hlen, _⟩ := err_ok hE
    obtain ⟨N, rfl⟩ := Int.eq_ofNat_of_zero_le (show 0 ≤ n by omega)
    refine (Degrees_ok N ao cap l _ hA4 hE).mono ?_
    rintro e w5 ⟨hb5, b5, c5, hb5l, hb5c, rfl, ho5, hi5⟩
    have hz5 := hb5.size
    have x5 := blk_below hb5 x4 (by omega)
    have hA5 := hA4.below hb5 (by omega)
    have hbb5 := hbb.trans (hb5.mono (by omega))
    obtain ⟨r0, r1, f0, f1⟩ := blk2 x5
    clear hb5 hA4 x4 hbb
    go_wp2_with fail
    refine (Turn_ok N ao cap l _ hA5 hE).mono ?_
    rintro e w6 ⟨hb6, b6, hb6l, rfl, hT6⟩
    have hz6 := hb6.size
    have x6 := blk_old (blk_below hb6 x5 (by omega)) (.cells #[.int .i64 (N : Int), .slice (some ⟨b6, 0, none⟩) l.length l.length] 27)
    have y6 := blk_new w6 (.cells #[.int .i64 (N : Int), .slice (some ⟨b6, 0, none⟩) l.length l.length] 27)
    have hA6 := (hA5.below hb6 (by omega)).alloc (.cells #[.int .i64 (N : Int), .slice (some ⟨b6, 0, none⟩) l.length l.length] 27)
    have ho6 := (ho5.below hb6 (by omega)).alloc (.cells #[.int .i64 (N : Int), .slice (some ⟨b6, 0, none⟩) l.length l.length] 27)
    have hi6 := (hi5.below hb6 (by omega)).alloc (.cells #[.int .i64 (N : Int), .slice (some ⟨b6, 0, none⟩) l.length l.length] 27)
    have hT6 := hT6.alloc (.cells #[.int .i64 (N : Int), .slice (some ⟨b6, 0, none⟩) l.length l.length] 27)
    have hbb6 := (hbb5.trans (hb6.mono (by omega))).alloc (by omega) (.cells #[.int .i64 (N : Int), .slice (some ⟨b6, 0, none⟩) l.length l.length] 27)
    clear hb6 hA5 x5 hbb5 ho5 hi5
    go_wp2_with fail
    have hD := Degrees_ok N (some ⟨b6, 0, none⟩) l.length (l.map turnA) _ hT6 (turn_err hE)
    rw [List.length_map, outs_turn, ins_turn] at hD
    refine hD.mono ?_
    clear hD
    rintro e w7 ⟨hb7, b7, c7, hb7l, hb7c, rfl, ho7, hi7⟩
    simp only [World.size_alloc] at hb7 hb7l
    have hz7 := hb7.size
    simp only [World.size_alloc] at hz7
    have x7 := blk_below hb7 x6 (by omega)
    have y7 := blk_below hb7 y6 (by omega)
    have hA7 := hA6.below hb7 (by simp)
    have hT7 := hT6.below hb7 (by simp)
    have ho7' := ho6.below hb7 (by simp)
    have hi7' := hi6.below hb7 (by simp)
    have hbb7 := hbb6.trans (hb7.mono (by omega))
    obtain ⟨s0, s1, g0, g1⟩ := blk2 y7
    clear hb7 hA6 hT6 x6 y6 ho6 hi6 hbb6 hbb r0 r1 f0 f1
    go_wp2_with fail
    have hU := Turn_ok N (some ⟨b6, 0, none⟩) l.length (l.map turnA) _ hT7 (turn_err hE)
    rw [List.length_map, turn_turn] at hU
    refine hU.mono ?_
    clear hU
    rintro e w8 ⟨hb8, b8, hb8l, rfl, hU8⟩
    have hz8 := hb8.size
    obtain ⟨O8, hO8⟩ : ∃ O : Obj, O = .cells #[.int .i64 (N : Int), .slice (some ⟨b8, 0, none⟩) l.length l.length] 27 := ⟨_, rfl⟩
    have x8 := blk_old (blk_below hb8 x7 (by omega)) O8
    have y8 := blk_new w8 O8
    have hA8 := (hA7.below hb8 (by omega)).alloc O8
    have hU8 := hU8.alloc O8
    have p8 := (ho7.below hb8 (by omega)).alloc O8
    have q8 := (hi7.below hb8 (by omega)).alloc O8
    have p9 := (ho7'.below hb8 (by omega)).alloc O8
    have q9 := (hi7'.below hb8 (by omega)).alloc O8
    have hbb8 := (hbb7.trans (hb8.mono (by omega))).alloc (by omega) O8
    clear hb8 hA7 hT7 x7 y7 ho7 hi7 ho7' hi7' hbb7 s0 s1 g0 g1
    have hNN : N ≤ maxLen := by unfold maxLen; omega
    have E1 : Hid (∀ q, Calls Try.prog 7 #[.slice (some ⟨b7, 0, none⟩) N N, .slice (some ⟨c5, 0, none⟩) N N] ((w8.alloc O8).drewN q) fun e w' => e = .returned (.bool true) ∧ ∃ m, w' = ((w8.alloc O8).drewN q).drewN m) := by
      intro q
      have := equalInts (some ⟨b7, 0, none⟩) (some ⟨c5, 0, none⟩) N N (ins N l) (ins N l) ((w8.alloc O8).drewN q) (by rw [ins_length]; exact hNN) (by rw [ins_length]; exact hNN) (p8.drewN q) (q9.drewN q)
      rw [ins_length, decide_eq_true rfl] at this
      exact this
    have E2 : Hid (∀ q, Calls Try.prog 7 #[.slice (some ⟨c7, 0, none⟩) N N, .slice (some ⟨b5, 0, none⟩) N N] ((w8.alloc O8).drewN q) fun e w' => e = .returned (.bool true) ∧ ∃ m, w' = ((w8.alloc O8).drewN q).drewN m) := by
      intro q
      have := equalInts (some ⟨c7, 0, none⟩) (some ⟨b5, 0, none⟩) N N (outs N l) (outs N l) ((w8.alloc O8).drewN q) (by rw [outs_length]; exact hNN) (by rw [outs_length]; exact hNN) (q8.drewN q) (p9.drewN q)
      rw [outs_length, decide_eq_true rfl] at this
      exact this
    have E3 : Hid (∀ q, Calls Try.prog 12 #[.slice (some ⟨b8, 0, none⟩) l.length l.length, .slice ao l.length cap] ((w8.alloc O8).drewN q) fun e w' => e = .returned (.bool true) ∧ ∃ m, w' = ((w8.alloc O8).drewN q).drewN m) := by
      intro q
      have := equalArcs (some ⟨b8, 0, none⟩) ao l.length cap l l ((w8.alloc O8).drewN q) hm hm (hU8.drewN q) (hA8.drewN q)
      rw [decide_eq_true rfl] at this
      exact this
    have E4 : Hid (∀ q, Calls Try.prog 11 #[.slice (some ⟨b5, 0, none⟩) N N] ((w8.alloc O8).drewN q) fun e w' => e = .returned (.int .i64 l.length) ∧ w' = (w8.alloc O8).drewN q) := by
      intro q
      have := sum_any (some ⟨b5, 0, none⟩) N (outs N l) ((w8.alloc O8).drewN q) (by rw [outs_length]; exact hNN) (p9.drewN q) (fun k hk => by
        have := sum_take_le (outs N l) 60 (by omega) (fun x hx => by have := outs_mem x hx; omega) k
        rw [outs_length] at this; omega) (fun x hx => by have := outs_mem x hx; omega)
      rw [outs_length, outs_sum hE rfl] at this
      exact this
    have E5 : Hid (∀ q, Calls Try.prog 11 #[.slice (some ⟨c5, 0, none⟩) N N] ((w8.alloc O8).drewN q) fun e w' => e = .returned (.int .i64 l.length) ∧ w' = (w8.alloc O8).drewN q) := by
      intro q
      have := sum_any (some ⟨c5, 0, none⟩) N (ins N l) ((w8.alloc O8).drewN q) (by rw [ins_length]; exact hNN) (q9.drewN q) (fun k hk => by
        have := sum_take_le (ins N l) 60 (by omega) (fun x hx => by have := ins_mem x hx; omega) k
        rw [ins_length] at this; omega) (fun x hx => by have := ins_mem x hx; omega)
      rw [ins_length, ins_sum hE rfl] at this
      exact this
    have H8 : Hid (Below w.heap.size w (w8.alloc O8)) := hbb8
    clear p8 q8 p9 q9 hbb8 hU8 hA8 hE
    subst hO8
    obtain ⟨r0, r1, f0, f1⟩ := blk2 x8
    obtain ⟨s0, s1, g0, g1⟩ := blk2 y8
    clear x8 y8
    go_wp2_with fail
    go_quiet (first
      | (go_at_call_of 7 (Value.slice (some ⟨b7, 0, none⟩) N N); exact Calls.quiet_of (E1.out _))
      | (go_at_call_of 7 (Value.slice (some ⟨c7, 0, none⟩) N N); exact Calls.quiet_of (E2.out _))
      | (go_at_call 12; exact Calls.quiet_of (E3.out _))
      | (go_at_call_of 11 (Value.slice (some ⟨b5, 0, none⟩) N N); exact Calls.quiet_of_same (E4.out _))
      | (go_at_call_of 11 (Value.slice (some ⟨c5, 0, none⟩) N N); exact Calls.quiet_of_same (E5.out _)))
    go_wp2
    go_ret
    exact ⟨rfl, below_drewN H8.out _⟩
  · have hE' : (graphErr n (-10000) l != 0) = true := by simpa using hE
    refine (Degrees_err n ao cap l _ hm hA4 hE).mono ?_
    rintro e w5 ⟨hb5, rfl⟩
    have hz5 := hb5.size
    have x5 := blk_below hb5 x4 (by omega)
    have hA5 := hA4.below hb5 (by omega)
    have hbb := hbb.trans (hb5.mono (by omega))
    obtain ⟨r0, r1, f0, f1⟩ := blk2 x5
    clear hb5 hA4 x4
    go_wp2_with fail
    refine (Turn_err n ao cap l _ hm hA5 hE).mono ?_
    rintro e w6 ⟨hb6, rfl⟩
    have hbb6 := (hbb.trans (hb6.mono (by omega))).alloc (by have := hb6.size; omega) (.cells #[.int .i64 0, .slice none 0 0] 27)
    clear hb6 hbb
    go_wp2
    go_ret
    exact ⟨by simp, hbb6⟩

end Go.Proofs.Ytkchmdjninjdeaa
