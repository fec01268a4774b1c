/- Package cut: Cap. -/
import Derived.Test.YtlfhnhfhaifchaaCutO
namespace Go.Proofs.Ytlfhnhfhaifchaa
open Go.RowKit
set_option linter.unusedVariables false

set_option maxHeartbeats 4000000 in
set_option maxRecDepth 100000 in
theorem CCap_nat (n s t : Int) (side : Nat) (hsd : side < 65536) (ao : Option Addr) (cap : Nat) (l : List Arc3) (w : World) (hG : GraphIn w ao cap l) :
    Calls Try.prog 23 #[.agg #[.int .i64 n, .int .i64 s, .int .i64 t, .slice ao l.length cap], .int .u16 (side : Int)] w fun e w' => Below w.heap.size w w' ∧ e = .returned (.tuple #[.int .i64 (capVal n s t l side), .int .i64 (capErr n s t l side)]) := by
  have hG0 := hG.alloc (.cells #[.int .i64 n, .int .i64 s, .int .i64 t, .slice ao l.length cap] 24)
  have x0 := blk_new w (.cells #[.int .i64 n, .int .i64 s, .int .i64 t, .slice ao l.length cap] 24)
  have hc := CheckNet_any n s t ao cap l _ hG.len hG0.arcs
  obtain ⟨r0, r1, r2, r3⟩ := blk4 x0
  obtain ⟨V, hV⟩ : ∃ V, capVal n s t l side = V := ⟨_, rfl⟩
  obtain ⟨C, hC⟩ : ∃ C, capErr n s t l side = C := ⟨_, rfl⟩
  rw [hV, hC]
  have HV : Hid (capVal n s t l side = V) := hV
  have HC : Hid (capErr n s t l side = C) := hC
  obtain ⟨E, hEE⟩ : ∃ E, netErr n s t l = E := ⟨_, rfl⟩
  rw [hEE] at hc
  have HE : Hid (netErr n s t l = E) := hEE
  clear hG hEE hV hC
  go_enter Try.func23, Try.ntmps23
  go_wp2_with fail
  refine hc.mono ?_
  clear hc
  rintro e w1 ⟨rfl, hb1⟩
  simp only [World.size_alloc] at hb1
  have hz1 := hb1.size
  simp only [World.size_alloc] at hz1
  have x1 := blk_below hb1 x0 (by omega)
  have HB1 : Hid (Below w.heap.size w w1) := below_in hb1 (by omega)
  have HG1 : Hid (GraphIn w1 ao cap l) := hG0.below hb1 (by simp)
  clear hb1 x0 hG0 r0 r1 r2 r3
  by_cases hE : E = 0
  · subst hE
    have h00 : ((0 : Int) != 0) = false := rfl
    obtain ⟨hge, ⟨hs0, hs1⟩, ⟨ht0, ht1⟩, _⟩ := net_ok HE.out
    obtain ⟨⟨hn1, hn2⟩, hl60, hall⟩ := err_ok hge
    obtain ⟨N, rfl⟩ := Int.eq_ofNat_of_zero_le (show 0 ≤ n by omega)
    obtain ⟨sN, rfl⟩ := Int.eq_ofNat_of_zero_le hs0
    obtain ⟨tN, rfl⟩ := Int.eq_ofNat_of_zero_le ht0
    have hp := parts_any N sN tN side ao cap l.length (by omega) (by omega) (by omega) hsd w1
    clear hge hall hs0 hs1 ht0 ht1
    obtain ⟨r0, r1, r2, r3⟩ := blk4 x1
    go_wp2_with fail
    refine hp.mono ?_
    clear hp
    rintro e w2 ⟨hb2, b, rfl, hbb⟩
    have hz2 := hb2.size
    have x2 := blk_below hb2 x1 (by omega)
    have HB2 : Hid (Below w.heap.size w w2) := HB1.out.trans (hb2.mono (by omega))
    have HG2 : Hid (GraphIn w2 ao cap l) := HG1.out.below hb2 (Nat.le_refl _)
    have hok : (side < 2 ^ N ∧ hasN side sN = true ∧ hasN side tN = false) ↔ ((side : Int) < 2 ^ (N : Int).toNat ∧ bt side sN = 1 ∧ bt side tN = 0) := by
      rw [hasN_bt, hasN_bt, Int.toNat_natCast]
      refine ⟨fun ⟨a, b, c⟩ => ⟨by exact_mod_cast a, by rw [b]; rfl, by rw [c]; rfl⟩, fun ⟨a, b, c⟩ => ⟨by exact_mod_cast a, ?_, ?_⟩⟩
      · cases e : hasN side sN
        · rw [e] at b; cases b
        · rfl
      · cases e : hasN side tN
        · rfl
        · rw [e] at c; cases c
    clear hb2 HB1 HG1 x1 r0 r1 r2 r3
    obtain ⟨r0, r1, r2, r3⟩ := blk4 x2
    cases b
    · have hno : ¬ ((side : Int) < 2 ^ (N : Int).toNat ∧ bt side sN = 1 ∧ bt side tN = 0) := fun h => by cases hbb.2 (hok.2 h)
      have hc3 := cap_form HE.out hno
      have hv3 : capVal N sN tN l side = 0 := by unfold capVal; rw [hc3]; rfl
      have HR : Hid (V = 0 ∧ C = 3) := ⟨HV.out.symm.trans hv3, HC.out.symm.trans hc3⟩
      clear hbb hok hno hc3 hv3 x2
      go_wp2
      go_ret2
      obtain ⟨rfl, rfl⟩ := HR.out
      exact ⟨HB2.out, rfl⟩
    · have hyes := hok.1 (hbb.1 rfl)
      have hc0 := cap_mk HE.out hyes
      have hv0 : capVal N sN tN l side = capK side l l.length := by unfold capVal; rw [if_pos hc0]; rfl
      have HR : Hid (V = capK side l l.length ∧ C = 0) := ⟨HV.out.symm.trans hv0, HC.out.symm.trans hc0⟩
      have HBd : Hid (∀ k, k ≤ l.length → 0 ≤ capK side l k ∧ capK side l k ≤ 10000 * (k : Int)) := fun k hk =>
        capK_bound (side := side) (l := l) k fun i hi => ((err_ok (net_ok HE.out).1).2.2 _ (at3_mem l i (by omega))).2.2
      have hw2 : w.heap.size < w2.heap.size := by omega
      clear hbb hok hyes hc0 hv0 x2 hz1 hz2
      go_wp2
      go_loopw [7, 22] (fun u i wr => ∃ k : Nat, k ≤ l.length ∧ i = .int .i64 k ∧ u = .int .i64 (capK side l k) ∧ Below w2.heap.size w2 wr) (fun _ i _ => l.length - (intOf i).toNat)
      case atStart => exact ⟨0, Nat.zero_le _, rfl, rfl, Below.refl _ _⟩
      case round =>
        obtain ⟨k, hk, rfl, rfl, hB⟩ := hrel
        have hz := hB.size
        clear r0 r1 r2 r3
        by_cases hlt : k < l.length
        · obtain ⟨p, q, hp, hq, hpN, hqN, hc0, hc1⟩ := arcNodes HE.out hlt
          obtain ⟨bA, offA, rfl, hbA, a0, a1, a2⟩ := HG2.out.arcs.below hB (Nat.le_refl _) k hlt
          obtain ⟨o1, o2⟩ := HBd.out k hk
          have HN : Hid (capK side l (k + 1) = capK side l k + (at3 l k).2.2 * bt side (at3 l k).1 * (1 - bt side (at3 l k).2.1)) := capK_succ _ _ _
          have S1 : Hid (∀ W, Calls Try.prog 36 #[.int .u16 (side : Int), .int .i64 (p : Int)] W fun e w' => e = .returned (.bool (hasN side p)) ∧ w' = W) := has_any side p hsd (by omega)
          have S2 : Hid (∀ W, Calls Try.prog 36 #[.int .u16 (side : Int), .int .i64 (q : Int)] W fun e w' => e = .returned (.bool (hasN side q)) ∧ w' = W) := has_any side q hsd (by omega)
          rw [hp, hq, hasN_bt, hasN_bt] at HN
          rw [hp] at a0
          rw [hq] at a1
          generalize (at3 l k).2.2 = c at *
          generalize capK side l k = x at *
          clear hp hq
          have v1 : IntKind.i64.wrap (x + c) = x + c := by rw [IntKind.wrap_i64]; omega
          cases g1 : hasN side p
          · rw [g1] at S1 HN
            simp only [Bool.false_eq_true, if_false, Int.mul_zero, Int.zero_mul, Int.add_zero] at HN
            clear g1 S2 v1
            go_wp2_with (first
              | (go_at_call_of 36 (Value.int .i64 (p : Int)); refine (S1.out _).mono ?_; rintro e w' ⟨rfl, hw⟩; rw [hw]; clear hw))
            go_roundw
            case rel => exact ⟨k + 1, by omega, by go_num, by rw [HN.out], hB.alloc (by omega) _⟩
            case measure => simp [intOf]; omega
          · cases g2 : hasN side q
            · rw [g1] at S1
              rw [g2] at S2
              rw [g1, g2] at HN
              simp only [Bool.false_eq_true, if_false, if_true, Int.mul_one, Int.sub_zero] at HN
              clear g1 g2
              go_wp2_with (first
                | (go_at_call_of 36 (Value.int .i64 (p : Int)); refine (S1.out _).mono ?_; rintro e w' ⟨rfl, hw⟩; rw [hw]; clear hw)
                | (go_at_call_of 36 (Value.int .i64 (q : Int)); refine (S2.out _).mono ?_; rintro e w' ⟨rfl, hw⟩; rw [hw]; clear hw))
              go_roundw
              case rel => exact ⟨k + 1, by omega, by go_num, by rw [HN.out], hB.alloc (by omega) _⟩
              case measure => simp [intOf]; omega
            · rw [g1] at S1
              rw [g2] at S2
              rw [g1, g2] at HN
              simp only [if_true, Int.mul_one, Int.sub_self, Int.mul_zero, Int.add_zero] at HN
              clear g1 g2 v1
              go_wp2_with (first
                | (go_at_call_of 36 (Value.int .i64 (p : Int)); refine (S1.out _).mono ?_; rintro e w' ⟨rfl, hw⟩; rw [hw]; clear hw)
                | (go_at_call_of 36 (Value.int .i64 (q : Int)); refine (S2.out _).mono ?_; rintro e w' ⟨rfl, hw⟩; rw [hw]; clear hw))
              go_roundw
              case rel => exact ⟨k + 1, by omega, by go_num, by rw [HN.out], hB.alloc (by omega) _⟩
              case measure => simp [intOf]; omega
        · have hkk : k = l.length := by omega
          subst hkk
          go_wp2
          go_ret2
          obtain ⟨rfl, rfl⟩ := HR.out
          exact ⟨HB2.out.trans (hB.mono (by omega)), rfl⟩
  · have hE' : (E != 0) = true := by simpa using hE
    have hcE : capErr n s t l side = E := by rw [cap_net (by rw [HE.out]; exact hE)]; exact HE.out
    have hvE : capVal n s t l side = 0 := by unfold capVal; rw [if_neg (by rw [hcE]; exact hE)]
    have HR : Hid (V = 0 ∧ C = E) := ⟨HV.out.symm.trans hvE, HC.out.symm.trans hcE⟩
    obtain ⟨r0, r1, r2, r3⟩ := blk4 x1
    clear hE hcE hvE x1 HG1 HE HV HC
    go_wp2
    go_ret2
    obtain ⟨rfl, rfl⟩ := HR.out
    exact ⟨HB1.out, rfl⟩

theorem CCap_any : CCapC := fun n s t side ao cap l w hsd hG => by
  obtain ⟨side, rfl⟩ := Int.eq_ofNat_of_zero_le hsd.1
  exact CCap_nat n s t side (by omega) ao cap l w hG

end Go.Proofs.Ytlfhnhfhaifchaa
