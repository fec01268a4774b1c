/- The law CutSays, walked out of the contracts of Cap, Least, Greatest. -/
import Derived.Test.YtfmlgepoiaehgaaCutC
import Derived.Test.YtfmlgepoiaehgaaCutL
import Derived.Test.YtfmlgepoiaehgaaCapR
namespace Go.Proofs.Ytfmlgepoiaehgaa
open Go.RowKit
set_option linter.unusedVariables false

set_option maxHeartbeats 4000000 in
set_option maxRecDepth 100000 in
theorem CutSays_any (hC : CCapC) (hL : CLeastC) (hGr : CGreatC) (n s t side : Int) (hsd : 0 ≤ side ∧ side < 65536) (ao : Option Addr) (cap : Nat) (l : List Arc3) (w : World) (hG : GraphIn w ao cap l) :
    Calls Try.prog 3 #[.agg #[.int .i64 n, .int .i64 s, .int .i64 t, .slice ao l.length cap], .int .u16 side] w fun e w' => e = .returned (.bool true) ∧ Below w.heap.size w w' := by
  have hG0 := hG.alloc (.cells #[.int .i64 n, .int .i64 s, .int .i64 t, .slice ao l.length cap] 24)
  have x0 := blk_new w (.cells #[.int .i64 n, .int .i64 s, .int .i64 t, .slice ao l.length cap] 24)
  obtain ⟨r0, r1, r2, r3⟩ := blk4 x0
  have hq1 := hC n s t side ao cap l _ hsd hG0
  obtain ⟨C, hCe⟩ : ∃ C, capErr n s t l side = C := ⟨_, rfl⟩
  obtain ⟨V, hVe⟩ : ∃ V, capVal n s t l side = V := ⟨_, rfl⟩
  rw [hCe, hVe] at hq1
  have HC : Hid (capErr n s t l side = C) := hCe
  have HV : Hid (capVal n s t l side = V) := hVe
  clear hCe hVe
  go_enter Try.func3, Try.ntmps3
  go_wp2_with fail
  refine hq1.mono ?_
  clear hq1
  rintro e w1 ⟨hb1, rfl⟩
  simp only [World.size_alloc] at hb1
  have hz1 := hb1.size
  simp only [World.size_alloc] at hz1
  have x1 := blk_below hb1 x0 (by omega)
  have hG1 := hG0.below hb1 (by simp)
  have HB1 : Hid (Below w.heap.size w w1) := below_in hb1 (by omega)
  clear hb1 x0 hG0 hG r0 r1 r2 r3
  obtain ⟨r0, r1, r2, r3⟩ := blk4 x1
  go_wp2_with fail
  refine (hL n s t ao cap l _ hG1).mono ?_
  rintro e w2 ⟨hb2, x, v, rfl, hTL⟩
  have hz2 := hb2.size
  have x2 := blk_below hb2 x1 (by omega)
  have hG2 := hG1.below hb2 (Nat.le_refl _)
  have HB2 : Hid (Below w.heap.size w w2) := HB1.out.trans (hb2.mono (by omega))
  obtain ⟨E, hE⟩ : ∃ E, netErr n s t l = E := ⟨_, rfl⟩
  have HTL : Hid (LeastTells n s t l x v) := hTL
  rw [hE]
  have HE : Hid (netErr n s t l = E) := hE
  clear hb2 x1 hG1 HB1 hTL hE r0 r1 r2 r3
  obtain ⟨r0, r1, r2, r3⟩ := blk4 x2
  go_wp2_with fail
  refine (hGr n s t ao cap l _ hG2).mono ?_
  rintro e w3 ⟨hb3, y, u, rfl, hTG⟩
  have hz3 := hb3.size
  have x3 := blk_below hb3 x2 (by omega)
  have hG3 := hG2.below hb3 (Nat.le_refl _)
  have HB3 : Hid (Below w.heap.size w w3) := HB2.out.trans (hb3.mono (by omega))
  have HTG : Hid (GreatTells n s t l y u) := hTG
  rw [HE.out]
  have hq4 := refNetErr_any n s t ao cap l w3 hG3.len hG3.arcs
  rw [HE.out] at hq4
  clear hb3 x2 hG2 HB2 hTG r0 r1 r2 r3
  obtain ⟨r0, r1, r2, r3⟩ := blk4 x3
  go_wp2_with fail
  refine hq4.mono ?_
  clear hq4
  rintro e w4 ⟨rfl, hb4⟩
  have hz4 := hb4.size
  have x4 := blk_below hb4 x3 (by omega)
  have hG4 := hG3.below hb4 (Nat.le_refl _)
  have HB4 : Hid (Below w.heap.size w w4) := HB3.out.trans (hb4.mono (by omega))
  clear hb4 x3 hG3 HB3 r0 r1 r2 r3
  obtain ⟨r0, r1, r2, r3⟩ := blk4 x4
  have g00 : ((0 : Int) != 0) = false := rfl
  have g01 : ((0 : Int) == 0) = true := rfl
  by_cases hE : E = 0
  · subst hE
    obtain ⟨hge, hs, ht, hst⟩ := net_ok HE.out
    obtain ⟨⟨hn1, hn2⟩, hl60, hall⟩ := err_ok hge
    obtain ⟨N, rfl⟩ := Int.eq_ofNat_of_zero_le (show 0 ≤ n by omega)
    obtain ⟨sN, rfl⟩ := Int.eq_ofNat_of_zero_le hs.1
    obtain ⟨tN, rfl⟩ := Int.eq_ofNat_of_zero_le ht.1
    have hq5 := refParted_any N sN tN ao cap l w4 HE.out hG4.arcs
    have HCo : Hid (∀ W : World, ArcsAt W ao l → Calls Try.prog 13 #[.agg #[.int .i64 (N : Int), .int .i64 (sN : Int), .int .i64 (tN : Int), .slice ao l.length cap], .int .u16 side] W fun e w' => e = .returned (.int .i64 (capS side l)) ∧ Below W.heap.size W w') := fun W hA => refCapOf_any N sN tN side hsd ao cap l W hl60 hA fun k hk => by
      have := hall _ (at3_mem l k hk)
      exact ⟨by omega, by omega, this.2.2⟩
    have hN12 : N ≤ 12 := by omega
    have hs12 : sN < 12 := by omega
    have ht12 : tN < 12 := by omega
    have hG4a := hG4.arcs
    have HA4 : Hid (ArcsAt w4 ao l) := hG4.arcs
    clear hge hs ht hst hall hn1 hn2 hG4 hG4a
    go_wp2_with fail
    refine hq5.mono ?_
    clear hq5
    rintro e w5 ⟨hb5, best, lo, hi, rfl, hP, _, _⟩
    have hz5 := hb5.size
    have x5 := blk_below hb5 x4 (by omega)
    have HA5 : Hid (ArcsAt w5 ao l) := HA4.out.below hb5 (Nat.le_refl _)
    have HB5 : Hid (Below w.heap.size w w5) := HB4.out.trans (hb5.mono (by omega))
    obtain ⟨hi', p1⟩ := HTL.out.some HE.out
    obtain ⟨lo', p2⟩ := HTG.out.some HE.out
    rw [Int.toNat_natCast, Int.toNat_natCast, Int.toNat_natCast] at p1 p2
    obtain ⟨e1, e2, _⟩ := hP.unique p1
    obtain ⟨e3, _, e4⟩ := hP.unique p2
    subst e2 e4
    have e5 : best = v := e1
    subst e5
    have e6 : best = u := e3
    subst e6
    clear hb5 x4 HA4 HB4 r0 r1 r2 r3 hP p1 p2 e1 e3
    obtain ⟨r0, r1, r2, r3⟩ := blk4 x5
    have m1 : (best != best) = false := by simp
    have m2 : ((lo : Int) != (lo : Int)) = false := by simp
    have m3 : ((hi : Int) != (hi : Int)) = false := by simp
    have vw : IntKind.i64.wrap side = side := by rw [IntKind.wrap_i64]; omega
    obtain ⟨M, hM⟩ : ∃ M, 2 ^ N = M := ⟨_, rfl⟩
    have hM1 : M ≤ 4096 := by rw [← hM]; exact Nat.pow_le_pow_right (by omega) hN12
    have hsh : IntKind.i64.wrap (2 ^ N) = (M : Int) := by
      rw [IntKind.wrap_i64, show ((2 : Int) ^ N) = ((2 ^ N : Nat) : Int) by simp, hM]; omega
    have HM : Hid ((2 : Int) ^ (N : Int).toNat = M) := by rw [Hid, Int.toNat_natCast, show ((2 : Int) ^ N) = ((2 ^ N : Nat) : Int) by simp, hM]
    have u1 := bt_bits hsd sN
    have u2 := bt_bits hsd tN
    have HOk : Hid (side < (M : Int) ∧ bt side sN = 1 ∧ bt side tN = 0 → C = 0 ∧ V = capS side l) := fun h => by
      have h0 : capErr N sN tN l side = 0 := cap_mk HE.out (by rw [HM.out]; exact h)
      exact ⟨HC.out.symm.trans h0, by rw [← HV.out]; unfold capVal; rw [if_pos h0]⟩
    have HNo : Hid (¬ (side < (M : Int) ∧ bt side sN = 1 ∧ bt side tN = 0) → C = 3 ∧ V = 0) := fun h => by
      have h0 : capErr N sN tN l side = 3 := cap_form HE.out (by rw [HM.out]; exact h)
      exact ⟨HC.out.symm.trans h0, by rw [← HV.out]; unfold capVal; rw [if_neg (by rw [h0]; decide)]⟩
    have B1 := bt_01 side (sN : Int)
    have B2 := bt_01 side (tN : Int)
    generalize bt side (sN : Int) = P at *
    generalize bt side (tN : Int) = Q at *
    clear hM
    by_cases hside : side < (M : Int)
    · have k1 : ¬ (M : Int) ≤ side := by omega
      by_cases hP : P = 1
      · subst hP
        by_cases hQ : Q = 0
        · subst hQ
          obtain ⟨rfl, rfl⟩ := HOk.out ⟨hside, rfl, rfl⟩
          have k2 : ((1 : Int) == 0) = false := rfl
          have k3 : ((0 : Int) == 1) = false := rfl
          have hq6 := HCo.out w5 HA5.out
          have k4 : (capS side l == capS side l) = true := by simp
          clear HOk HNo B1 B2
          go_wp2_with fail
          refine hq6.mono ?_
          clear hq6
          rintro e w6 ⟨rfl, hb6⟩
          have HB6 : Hid (Below w.heap.size w w6) := HB5.out.trans (hb6.mono HB5.out.size)
          clear hb6 r0 r1 r2 r3
          go_wp2
          go_ret
          exact ⟨rfl, HB6.out⟩
        · obtain ⟨rfl, rfl⟩ := HNo.out (fun h => hQ h.2.2)
          obtain rfl : Q = 1 := by omega
          have k2 : ((1 : Int) == 0) = false := rfl
          have k3 : ((1 : Int) == 1) = true := rfl
          have k5 : ((3 : Int) == 3) = true := rfl
          clear HOk HNo B1 B2 hQ
          go_wp2
          go_ret
          exact ⟨rfl, HB5.out⟩
      · obtain ⟨rfl, rfl⟩ := HNo.out (fun h => hP h.2.1)
        obtain rfl : P = 0 := by omega
        have k5 : ((3 : Int) == 3) = true := rfl
        clear HOk HNo B1 B2 hP
        go_wp2
        go_ret
        exact ⟨rfl, HB5.out⟩
    · obtain ⟨rfl, rfl⟩ := HNo.out (fun h => hside h.1)
      have k1 : (M : Int) ≤ side := by omega
      have k5 : ((3 : Int) == 3) = true := rfl
      clear HOk HNo B1 B2 hside
      go_wp2
      go_ret
      exact ⟨rfl, HB5.out⟩
  · have e1 : (E != 0) = true := by simpa using hE
    obtain ⟨rfl, hv⟩ := HTL.out.none (by rw [HE.out]; exact hE)
    obtain ⟨rfl, hu⟩ := HTG.out.none (by rw [HE.out]; exact hE)
    subst hv hu
    have hCE : E = C := by rw [← HC.out, cap_net (by rw [HE.out]; exact hE), HE.out]
    subst hCE
    have hV0 : 0 = V := by rw [← HV.out]; unfold capVal; rw [if_neg (by rw [HC.out]; exact hE)]
    subst hV0
    have e2 : (E == E) = true := by simp
    have e3 : bits .or .u16 0 0 = 0 := by decide
    clear hE
    go_wp2
    go_ret
    exact ⟨rfl, HB4.out⟩

end Go.Proofs.Ytfmlgepoiaehgaa
