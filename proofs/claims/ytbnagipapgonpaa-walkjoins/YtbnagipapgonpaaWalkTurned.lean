/- The law WalkTurned, walked, out of the contract of Far. -/
import Derived.Test.YtbnagipapgonpaaWalks
import Derived.Test.YtbnagipapgonpaaTurn
namespace Go.Proofs.Ytbnagipapgonpaa
open Go.RowKit
set_option linter.unusedVariables false

theorem turn_err' {n least : Int} {l : List Arc3} (h : graphErr n least l = 0) : graphErr n least (l.map turnA) = 0 := by
  obtain ⟨h1, h2, h3⟩ := err_ok h
  refine err_mk ⟨h1, by simpa using h2, fun a ha => ?_⟩
  obtain ⟨x, hx, rfl⟩ := List.mem_map.1 ha
  have := h3 x hx
  exact ⟨this.2.1, this.1, this.2.2⟩

theorem nil_in (w : World) : GraphIn w none 0 [] := ⟨fun i hi => absurd hi (Nat.not_lt_zero _), Nat.le_refl _, Nat.zero_le _, fun _ => ⟨rfl, rfl⟩⟩

set_option maxHeartbeats 1000000 in
set_option maxRecDepth 100000 in
theorem WalkTurned_any (hC : FarC) (n s t : Int) (ao : Option Addr) (cap : Nat) (l : List Arc3) (w : World) (hG : GraphIn w ao cap l) :
    Calls Try.prog 6 #[.agg #[.int .i64 n, .slice ao l.length cap], .int .i64 s, .int .i64 t] w fun e w' => e = .returned (.bool true) ∧ Below w.heap.size w w' := by
  have hm := hG.len
  have hG0 := hG.alloc (.cells #[.int .i64 n, .slice ao l.length cap] 24)
  have x0 := blk_new w (.cells #[.int .i64 n, .slice ao l.length cap] 24)
  have h00 : ((0 : Int) != 0) = false := rfl
  go_enter Try.func6, Try.ntmps6
  go_wp2_with fail
  refine (walks_any hC _).mono ?_
  rintro e w1 ⟨rfl, hb1⟩
  simp only [World.size_alloc] at hb1
  have hz1 := hb1.size
  simp only [World.size_alloc] at hz1
  have x1 := blk_below hb1 x0 (by omega)
  have hG1 := hG0.below hb1 (by simp)
  have hbb1 := below_in hb1 (by omega)
  clear hb1 x0 hG0
  obtain ⟨r0, r1, f0, f1⟩ := blk2 x1
  go_wp2_with fail
  by_cases hE : graphErr n (-10000) l = 0
  · have hlen := err_len hE
    refine (Turn_ok n ao cap l w1 hG1.arcs hE).mono ?_
    rintro e w2 ⟨hb2, b2, hb2l, rfl, hT2, _⟩
    have hz2 := hb2.size
    have x2 := blk_old (blk_below hb2 x1 (by omega)) (.cells #[.int .i64 n, .slice (some ⟨b2, 0, none⟩) l.length l.length] 24)
    have y2 := blk_new w2 (.cells #[.int .i64 n, .slice (some ⟨b2, 0, none⟩) l.length l.length] 24)
    have hG2 := (hG1.below hb2 (by omega)).alloc (.cells #[.int .i64 n, .slice (some ⟨b2, 0, none⟩) l.length l.length] 24)
    have hT2 := hT2.alloc (.cells #[.int .i64 n, .slice (some ⟨b2, 0, none⟩) l.length l.length] 24)
    have hbb2 := (hbb1.trans (hb2.mono (by omega))).alloc (by omega) (.cells #[.int .i64 n, .slice (some ⟨b2, 0, none⟩) l.length l.length] 24)
    have e2 : (w2.alloc (.cells #[.int .i64 n, .slice (some ⟨b2, 0, none⟩) l.length l.length] 24)).heap.size = w2.heap.size + 1 := by simp
    clear hb2 x1 hG1 hbb1 r0 r1 f0 f1
    obtain ⟨r0, r1, f0, f1⟩ := blk2 x2
    go_wp2_with fail
    refine (hC n s ao cap l _ hG2).mono ?_
    rintro e w3 ⟨hb3, ao3, cap3, F, rfl, hF3, hn3, hy3⟩
    rw [e2] at hb3
    have hz3 := hb3.size
    rw [e2] at hz3
    have y3 := blk_below hb3 y2 (by omega)
    have hT3 := hT2.below hb3 (by rw [e2]; omega)
    have hbb3 := hbb2.trans (hb3.mono (by omega))
    have HN3 : Hid (farErr n l s ≠ 0 → F = []) := hn3
    have HY3 : Hid (farErr n l s = 0 → FarIs n.toNat l s F) := hy3
    clear hb3 x2 y2 hG2 hT2 hbb2 r0 r1 f0 f1 hn3 hy3 e2
    obtain ⟨r0, r1, f0, f1⟩ := blk2 y3
    go_wp2_with fail
    have hGT : GraphIn w3 (some ⟨b2, 0, none⟩) l.length (l.map turnA) := ⟨hT3, by simp, hm, fun e => by cases e⟩
    have hF4 := hC n t (some ⟨b2, 0, none⟩) l.length (l.map turnA) w3 hGT
    rw [List.length_map] at hF4
    refine hF4.mono ?_
    clear hF4
    rintro e w4 ⟨hb4, ao4, cap4, G, rfl, hG4, hn4, hy4⟩
    have hF4 := hF3.below hb4 (by omega)
    have hbb4 := hbb3.trans (hb4.mono (by omega))
    have HN4 : Hid (farErr n (l.map turnA) t ≠ 0 → G = []) := hn4
    have HY4 : Hid (farErr n (l.map turnA) t = 0 → FarIs n.toNat (l.map turnA) t G) := hy4
    clear hb4 hF3 hbb3 hn4 hy4 y3 hT3 hGT
    obtain ⟨e3, he3⟩ : ∃ x, x = farErr n l s := ⟨_, rfl⟩
    obtain ⟨e4, he4⟩ : ∃ x, x = farErr n (l.map turnA) t := ⟨_, rfl⟩
    rw [← he3, ← he4]
    by_cases c3 : e3 = 0
    · by_cases c4 : e4 = 0
      · obtain ⟨_, hs0, hs1⟩ := farErr_ok (he3.symm.trans c3)
        obtain ⟨_, ht0, ht1⟩ := farErr_ok (he4.symm.trans c4)
        have hF := HY3.out (he3.symm.trans c3)
        have hGG := HY4.out (he4.symm.trans c4)
        obtain ⟨N, rfl⟩ := Int.eq_ofNat_of_zero_le (show 0 ≤ n by omega)
        obtain ⟨s, rfl⟩ := Int.eq_ofNat_of_zero_le hs0
        obtain ⟨t, rfl⟩ := Int.eq_ofNat_of_zero_le ht0
        rw [Int.toNat_natCast] at hF hGG
        have hsN : s < N := by omega
        have htN : t < N := by omega
        have heq := far_turned hF hGG hsN htN
        obtain ⟨b5, o5, rfl, _, q5⟩ := hF4 t (by rw [hF.len]; exact htN)
        obtain ⟨b6, o6, rfl, _, q6⟩ := hG4 s (by rw [hGG.len]; exact hsN)
        rw [← heq] at q6
        rw [hF.len, hGG.len]
        generalize ati F t = x at *
        have hxx : (x == x) = true := by simp
        have k1 : ¬ (N : Int) ≤ (t : Int) := by omega
        have k2 : ¬ (N : Int) ≤ (s : Int) := by omega
        have k1' : decide ((N : Int) ≤ (t : Int)) = false := by simpa using k1
        have k2' : decide ((N : Int) ≤ (s : Int)) = false := by simpa using k2
        subst c3
        subst c4
        clear he3 he4 HN3 HY3 HN4 HY4 hF hGG heq hE
        go_wp2_with fail
        go_quiet (fail)
        go_wp2
        go_ret
        exact ⟨rfl, below_drewN hbb4 _⟩
      · have c4' : (e4 != 0) = true := by simpa using c4
        subst c3
        clear c4 he3 he4 hE HN3 HY3 HN4 HY4
        go_wp2_with fail
        go_quiet (fail)
        go_wp2
        go_ret
        exact ⟨rfl, below_drewN hbb4 _⟩
    · have c3' : (e3 != 0) = true := by simpa using c3
      clear c3 he3 he4 hE HN3 HY3 HN4 HY4
      go_wp2_with fail
      go_quiet (fail)
      go_wp2
      go_ret
      exact ⟨rfl, below_drewN hbb4 _⟩
  · have hE' : (graphErr n (-10000) l != 0) = true := by simpa using hE
    refine (Turn_err n ao cap l w1 hm hG1.arcs hE).mono ?_
    rintro e w2 ⟨hb2, rfl⟩
    have hz2 := hb2.size
    have x2 := blk_old (blk_below hb2 x1 (by omega)) (.cells #[.int .i64 0, .slice none 0 0] 24)
    have y2 := blk_new w2 (.cells #[.int .i64 0, .slice none 0 0] 24)
    have hG2 := (hG1.below hb2 (by omega)).alloc (.cells #[.int .i64 0, .slice none 0 0] 24)
    have hbb2 := (hbb1.trans (hb2.mono (by omega))).alloc (by omega) (.cells #[.int .i64 0, .slice none 0 0] 24)
    have e2 : (w2.alloc (.cells #[.int .i64 0, .slice none 0 0] 24)).heap.size = w2.heap.size + 1 := by simp
    clear hb2 x1 hG1 hbb1 r0 r1 f0 f1 hE
    obtain ⟨r0, r1, f0, f1⟩ := blk2 x2
    go_wp2_with fail
    refine (hC n s ao cap l _ hG2).mono ?_
    rintro e w3 ⟨hb3, ao3, cap3, F, rfl, hF3, _, _⟩
    rw [e2] at hb3
    have hz3 := hb3.size
    rw [e2] at hz3
    have y3 := blk_below hb3 y2 (by omega)
    have hbb3 := hbb2.trans (hb3.mono (by omega))
    clear hb3 x2 y2 hG2 hbb2 r0 r1 f0 f1 e2
    obtain ⟨r0, r1, f0, f1⟩ := blk2 y3
    go_wp2_with fail
    refine (hC 0 t none 0 [] w3 (nil_in w3)).mono ?_
    rintro e w4 ⟨hb4, ao4, cap4, G, rfl, hG4, _, _⟩
    have hbb4 := hbb3.trans (hb4.mono (by omega))
    clear hb4 hbb3 y3 r0 r1 f0 f1
    generalize farErr n l s = e3
    generalize farErr 0 [] t = e4
    go_wp2_with fail
    go_quiet (fail)
    go_wp2
    go_ret
    exact ⟨rfl, below_drewN hbb4 _⟩

end Go.Proofs.Ytbnagipapgonpaa
