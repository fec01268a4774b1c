/- The law CutTurned, walked out of the contracts of Least, Greatest, Cap. -/
import Derived.Test.YtfmlgepoiaehgaaCuts
import Derived.Test.YtfmlgepoiaehgaaTurnedN
namespace Go.Proofs.Ytfmlgepoiaehgaa
open Go.RowKit
set_option linter.unusedVariables false

theorem other_bits {N y : Nat} (hy : y < 2 ^ N) : (2 ^ N - 1 - y) ||| y = 2 ^ N - 1 ∧ (2 ^ N - 1 - y) &&& y = 0 := by
  refine ⟨Nat.eq_of_testBit_eq fun v => ?_, Nat.eq_of_testBit_eq fun v => ?_⟩
  · rw [Nat.testBit_or, testBit_other hy, Nat.testBit_two_pow_sub_one]
    by_cases h : v < N
    · cases Nat.testBit y v <;> simp [h]
    · have : Nat.testBit y v = false := Nat.testBit_lt_two_pow (Nat.lt_of_lt_of_le hy (Nat.pow_le_pow_right (by omega) (by omega)))
      simp [h, this]
  · rw [Nat.testBit_and, testBit_other hy, Nat.zero_testBit]
    cases Nat.testBit y v <;> simp
/-- in the turned net the least side is what the greatest one leaves -/
theorem turned_sides {N sN tN x y : Nat} {l : List Arc3} {v u : Int} (hE : netErr N sN tN l = 0) (h1 : LeastTells N tN sN (l.map turnA) x v) (h2 : GreatTells N sN tN l y u) : v = u ∧ x = 2 ^ N - 1 - y ∧ y < 2 ^ N := by
  obtain ⟨hge, hs, ht, _⟩ := net_ok hE
  obtain ⟨hi', p1⟩ := h1.some (net_turn hE)
  obtain ⟨lo', p2⟩ := h2.some hE
  rw [Int.toNat_natCast, Int.toNat_natCast, Int.toNat_natCast] at p1 p2
  obtain ⟨m1, m2⟩ := part_ends (fun k hk => ((err_ok hge).2.2 _ (at3_mem l k hk)).2.2.1) p2
  have p3 := p2.turn (by omega) (by omega) (net_nodes hE) m1.lt m2.lt
  obtain ⟨e1, e2, _⟩ := p1.unique p3
  exact ⟨e1, e2, m2.lt⟩

set_option maxHeartbeats 2000000 in
set_option maxRecDepth 100000 in
theorem CutTurned_any (hL : CLeastC) (hC : CCapC) (hGr : CGreatC) (n s t : Int) (ao : Option Addr) (cap : Nat) (l : List Arc3) (w : World) (hG : GraphIn w ao cap l) :
    Calls Try.prog 7 #[.agg #[.int .i64 n, .int .i64 s, .int .i64 t, .slice ao l.length cap]] w fun e w' => e = .returned (.bool true) ∧ Below w.heap.size w w' := by
  have hG0 := hG.alloc (.cells #[.int .i64 n, .int .i64 s, .int .i64 t, .slice ao l.length cap] 24)
  have x0 := blk_new w (.cells #[.int .i64 n, .int .i64 s, .int .i64 t, .slice ao l.length cap] 24)
  go_enter Try.func7, Try.ntmps7
  go_wp2_with fail
  refine (cuts_any hL hC _).mono ?_
  rintro e w1 ⟨rfl, hb1⟩
  simp only [World.size_alloc] at hb1
  have hz1 := hb1.size
  simp only [World.size_alloc] at hz1
  have x1 := blk_below hb1 x0 (by omega)
  have hG1 := hG0.below hb1 (by simp)
  have HB1 : Hid (Below w.heap.size w w1) := below_in hb1 (by omega)
  obtain ⟨r0, r1, r2, r3⟩ := blk4 x1
  clear hb1 x0 hG0 hG
  go_wp2_with fail
  refine (turned_any n s t ao cap l _ hG1).mono ?_
  rintro e w2 ⟨hb2, ao', cap', l', rfl, hG2', hTu⟩
  have hz2 := hb2.size
  have x2 := blk_below hb2 x1 (by omega)
  have hG2 := hG1.below hb2 (Nat.le_refl _)
  have HB2 : Hid (Below w.heap.size w w2) := HB1.out.trans (hb2.mono (by omega))
  clear hb2 x1 hG1 HB1 r0 r1 r2 r3
  obtain ⟨r0, r1, r2, r3⟩ := blk4 x2
  go_wp2_with fail
  refine (hL n t s ao' cap' l' _ hG2').mono ?_
  rintro e w3 ⟨hb3, x, v, rfl, hT3⟩
  have hz3 := hb3.size
  have x3 := blk_below hb3 x2 (by omega)
  have hG3 := hG2.below hb3 (Nat.le_refl _)
  have HB3 : Hid (Below w.heap.size w w3) := HB2.out.trans (hb3.mono (by omega))
  have HT3 : Hid (LeastTells n t s l' x v) := hT3
  have HTu : Hid (graphErr n (-10000) l = 0 → l' = l.map turnA) := hTu
  obtain ⟨E', hE'⟩ : ∃ E', netErr n t s l' = E' := ⟨_, rfl⟩
  rw [hE']
  have HE' : Hid (netErr n t s l' = E') := hE'
  clear hb3 x2 hG2 hG2' HB2 hT3 hTu hE' r0 r1 r2 r3
  obtain ⟨r0, r1, r2, r3⟩ := blk4 x3
  go_wp2_with fail
  refine (hGr n s t ao cap l _ hG3).mono ?_
  rintro e w4 ⟨hb4, y, u, rfl, hT4⟩
  have hz4 := hb4.size
  have x4 := blk_below hb4 x3 (by omega)
  have HB4 : Hid (Below w.heap.size w w4) := HB3.out.trans (hb4.mono (by omega))
  have HT4 : Hid (GreatTells n s t l y u) := hT4
  obtain ⟨E, hE⟩ : ∃ E, netErr n s t l = E := ⟨_, rfl⟩
  rw [hE]
  have HE : Hid (netErr n s t l = E) := hE
  have hw4 : w.heap.size < w4.heap.size := by omega
  clear hb4 x3 hG3 HB3 hT4 hE r0 r1 r2 r3
  obtain ⟨r0, r1, r2, r3⟩ := blk4 x4
  have g00 : ((0 : Int) != 0) = false := rfl
  have g01 : ((0 : Int) == 0) = true := rfl
  by_cases h0 : E = 0
  · subst h0
    obtain ⟨hge, hs, ht, _⟩ := net_ok HE.out
    obtain ⟨hn1, hn2⟩ := (err_ok hge).1
    obtain rfl := HTu.out (err_long hge)
    obtain ⟨N, rfl⟩ := Int.eq_ofNat_of_zero_le (show 0 ≤ n by omega)
    obtain ⟨sN, rfl⟩ := Int.eq_ofNat_of_zero_le hs.1
    obtain ⟨tN, rfl⟩ := Int.eq_ofNat_of_zero_le ht.1
    obtain ⟨rfl, hx, hy⟩ := turned_sides HE.out HT3.out HT4.out
    have hE0 : 0 = E' := (net_turn HE.out).symm.trans HE'.out
    subst hE0
    obtain ⟨o1, o2⟩ := other_bits hy
    rw [← hx] at o1 o2
    have hx16 := HT3.out.small
    have hy16 := HT4.out.small
    have u1 := or_u16_nat x y hx16 hy16
    have u2 := and_u16_nat x y hx16 hy16
    rw [o1] at u1
    rw [o2] at u2
    have hN12 : N ≤ 12 := by omega
    have hmin : min N 16 = N := by omega
    obtain ⟨M, hM⟩ : ∃ M, 2 ^ N = M := ⟨_, rfl⟩
    have hM1 : M ≤ 4096 := by rw [← hM]; exact Nat.pow_le_pow_right (by omega) hN12
    have hM0 : 1 ≤ M := by rw [← hM]; exact Nat.one_le_two_pow
    rw [hM] at u1
    have hsh : IntKind.u16.wrap (2 ^ N) = (M : Int) := by
      rw [IntKind.wrap_u16, show ((2 : Int) ^ N) = ((2 ^ N : Nat) : Int) by simp, hM]; omega
    have hsb : IntKind.u16.wrap ((M : Int) - 1) = ((M - 1 : Nat) : Int) := by rw [IntKind.wrap_u16]; omega
    have e1 : (v == v) = true := by simp
    have e2 : (((M - 1 : Nat) : Int) == ((M - 1 : Nat) : Int)) = true := by simp
    have e3 : (((0 : Nat) : Int) == 0) = true := rfl
    generalize ((M - 1 : Nat) : Int) = q at *
    clear HT3 HT4 HTu HE HE' hge hs ht hx hy o1 o2 hM hM1 hM0 hn1 hn2 hx16 hy16
    go_wp2
    go_ret
    exact ⟨rfl, HB4.out⟩
  · have g1 : (E != 0) = true := by simpa using h0
    clear h0 HTu HT3 HT4
    go_wp2
    go_ret
    exact ⟨rfl, HB4.out⟩

end Go.Proofs.Ytfmlgepoiaehgaa
