/- The law FlowCuts, walked, out of the contract of Value. -/
import Derived.Test.YtpomdnjfogfnbaaFlowC
import Derived.Test.YtpomdnjfogfnbaaBit16
namespace Go.Proofs.Ytpomdnjfogfnbaa
open Go.RowKit
set_option linter.unusedVariables false

/-- what goes across a side along the first k arcs -/
def overK (side : Int) (l : List Arc3) (f : List Int) (k : Nat) : Int := sumN (fun i => bt side (at3 l i).1 * ati f i - bt side (at3 l i).2.1 * ati f i) k
theorem overK_succ (side : Int) (l : List Arc3) (f : List Int) (k : Nat) : overK side l f (k + 1) = overK side l f k + ati f k * (bt side (at3 l k).1 - bt side (at3 l k).2.1) := by
  show overK side l f k + (bt side (at3 l k).1 * ati f k - bt side (at3 l k).2.1 * ati f k) = _
  rw [Int.mul_sub, Int.mul_comm (bt side _), Int.mul_comm (bt side _)]
theorem over_step {x y z : Int} (hx : x = 0 ∨ x = 1) (hy : y = 0 ∨ y = 1) (hz : 0 ≤ z ∧ z ≤ 10000) : -10000 ≤ z * (x - y) ∧ z * (x - y) ≤ 10000 := by
  rcases hx with rfl | rfl <;> rcases hy with rfl | rfl <;> simp <;> omega
theorem overK_bound {side : Int} {l : List Arc3} {f : List Int} : ∀ k, (∀ i, i < k → 0 ≤ ati f i ∧ ati f i ≤ 10000) → -(10000 * (k : Int)) ≤ overK side l f k ∧ overK side l f k ≤ 10000 * (k : Int)
  | 0, _ => by simp [overK, sumN]
  | k + 1, h => by
    have ih := overK_bound (side := side) (l := l) (f := f) k fun i hi => h i (by omega)
    have := over_step (bt_01 side (at3 l k).1) (bt_01 side (at3 l k).2.1) (h k (by omega))
    rw [overK_succ]
    omega

set_option maxHeartbeats 2000000 in
theorem FlowCuts_any (hC : FValueC) (n s t side : Int) (hsd : 0 ≤ side ∧ side < 65536) (ao af : Option Addr) (cap capf : Nat) (l : List Arc3) (f : List Int) (w : World) (hG : GraphIn w ao cap l) (hF : IntsIn w af capf f) :
    Calls Try.prog 4 #[.agg #[.int .i64 n, .int .i64 s, .int .i64 t, .slice ao l.length cap], .slice af f.length capf, .int .u16 side] w fun e w' => e = .returned (.bool true) ∧ Below w.heap.size w w' := by
  have hG0 := hG.alloc (.cells #[.int .i64 n, .int .i64 s, .int .i64 t, .slice ao l.length cap] 24)
  have hF0 := hF.alloc (.cells #[.int .i64 n, .int .i64 s, .int .i64 t, .slice ao l.length cap] 24)
  have x0 := blk_new w (.cells #[.int .i64 n, .int .i64 s, .int .i64 t, .slice ao l.length cap] 24)
  go_enter Try.func4, Try.ntmps4
  go_wp2_with fail
  refine (flows_any hC _).mono ?_
  rintro e w1 ⟨rfl, hb1⟩
  simp only [World.size_alloc] at hb1
  have hz1 := hb1.size
  simp only [World.size_alloc] at hz1
  have x1 := blk_below hb1 x0 (by omega)
  have hG1 := hG0.below hb1 (by simp)
  have hF1 := hF0.below hb1 (by simp)
  have hbb1 := below_in hb1 (by omega)
  obtain ⟨r0, r1, r2, r3⟩ := blk4 x1
  clear hb1 x0 hG0 hF0
  go_wp2_with fail
  refine (hC n s t ao af cap capf l f _ hG1 hF1).mono ?_
  rintro e W ⟨hb2, rfl⟩
  have hz2 := hb2.size
  have x2 := blk_below hb2 x1 (by omega)
  have HG : Hid (GraphIn W ao cap l) := hG1.below hb2 (Nat.le_refl _)
  have HF : Hid (IntsIn W af capf f) := hF1.below hb2 (Nat.le_refl _)
  have HB : Hid (Below w.heap.size w W) := hbb1.trans (hb2.mono (by omega))
  clear r0 r1 r2 r3 x1 hG1 hF1 hb2 hbb1
  obtain ⟨r0, r1, r2, r3⟩ := blk4 x2
  have hwz : w.heap.size < W.heap.size := by omega
  clear x2
  by_cases h0 : flowErr n s t l f = 0
  · obtain ⟨hN, hFl⟩ := flow_ok h0
    obtain ⟨hge, hs, ht, hst⟩ := net_ok hN
    obtain ⟨⟨hn1, hn2⟩, hl60, hall⟩ := err_ok hge
    obtain ⟨N, rfl⟩ := Int.eq_ofNat_of_zero_le (show 0 ≤ n by omega)
    rw [Int.toNat_natCast] at hFl
    obtain ⟨s, rfl⟩ := Int.eq_ofNat_of_zero_le hs.1
    obtain ⟨t, rfl⟩ := Int.eq_ofNat_of_zero_le ht.1
    have hval : valueOf N s t l f = gone l (ati f) s := by unfold valueOf; rw [if_pos h0]
    have hside := hFl.side hN (bt side)
    have Hside : Hid (overK side l f l.length = bt side s * gone l (ati f) s + bt side t * gone l (ati f) t) := hside
    rw [h0, hval]
    have g1 : ((0 : Int) != 0) = false := rfl
    have HFl : Hid (f.length = l.length) := hFl.len
    rw [HFl.out]
    have g2 : ((l.length : Int) != (l.length : Int)) = false := by simp
    have g3 : ((l.length : Int) == (l.length : Int)) = true := by simp
    have hs12 : s < 12 := by omega
    have ht12 : t < 12 := by omega
    have b1 := bt_bits hsd s
    have b2 := bt_bits hsd t
    have Bs := bt_01 side s
    have Bt := bt_01 side t
    have HBd : Hid (∀ k, k < l.length → 0 ≤ ati f k ∧ ati f k ≤ 10000) := fun k hk => by
      have := hFl.bnd k hk
      have := (hall _ (at3_mem l k hk)).2.2
      omega
    have HNd : Hid (∀ k, k < l.length → (0 ≤ (at3 l k).1 ∧ (at3 l k).1 < (N : Int)) ∧ (0 ≤ (at3 l k).2.1 ∧ (at3 l k).2.1 < (N : Int))) := fun k hk => by
      have := hall _ (at3_mem l k hk)
      exact ⟨this.1, this.2.1⟩
    clear h0 hval hside hFl hN hge hall hs ht
    generalize gone l (ati f) s = V at *
    generalize gone l (ati f) t = U at *
    generalize bt side s = X at *
    generalize bt side t = Y at *
    by_cases hX : X = 0
    · have e1 : (X == 0) = true := by simpa using hX
      clear hX Bs Bt Hside
      go_wp2
      go_ret
      exact ⟨rfl, HB.out⟩
    · have e1 : (X == 0) = false := by simpa using hX
      by_cases hY : Y = 1
      · have e2 : (Y == 1) = true := by simpa using hY
        clear hX hY Bs Bt Hside
        go_wp2
        go_ret
        exact ⟨rfl, HB.out⟩
      · have e2 : (Y == 1) = false := by simpa using hY
        have HS : Hid (overK side l f l.length = V) := by
          rw [Hid, Hside.out, show X = 1 by omega, show Y = 0 by omega]; omega
        clear hX hY Bs Bt Hside
        go_wp2
        go_loopw [9, 55] (fun u i wr => ∃ k : Nat, k ≤ l.length ∧ i = .int .i64 k ∧ u = .int .i64 (overK side l f k) ∧ Below W.heap.size W wr) (fun _ i _ => l.length - (intOf i).toNat)
        case atStart => exact ⟨0, Nat.zero_le _, rfl, rfl, Below.refl _ _⟩
        case round =>
          obtain ⟨k, hk, rfl, rfl, hB⟩ := hrel
          have hz := hB.size
          clear b1 b2 e1 e2 r0 r1 r2 r3
          by_cases hlt : k < l.length
          · obtain ⟨b, off, rfl, hbb, c0, c1, c2⟩ := HG.out.arcs.below hB (Nat.le_refl _) k hlt
            obtain ⟨bf, of, rfl, hbf, d0⟩ := HF.out.ints.below hB (Nat.le_refl _) k (by rw [HFl.out]; exact hlt)
            obtain ⟨⟨p1, p2⟩, p3, p4⟩ := HNd.out k hlt
            have HN : Hid (overK side l f (k + 1) = overK side l f k + ati f k * (bt side (at3 l k).1 - bt side (at3 l k).2.1)) := overK_succ _ _ _ _
            obtain ⟨y1, y2⟩ := HBd.out k hlt
            obtain ⟨o1, o2⟩ := overK_bound (side := side) (l := l) (f := f) k fun i hi => HBd.out i (by omega)
            obtain ⟨m1, m2⟩ := over_step (bt_01 side (at3 l k).1) (bt_01 side (at3 l k).2.1) (HBd.out k hlt)
            have B1 := bt_01 side (at3 l k).1
            have B2 := bt_01 side (at3 l k).2.1
            generalize (at3 l k).1 = p at *
            generalize (at3 l k).2.1 = q at *
            obtain ⟨p, rfl⟩ := Int.eq_ofNat_of_zero_le p1
            obtain ⟨q, rfl⟩ := Int.eq_ofNat_of_zero_le p3
            have u1 := bt_bits hsd p
            have u2 := bt_bits hsd q
            have hp12 : p < 12 := by omega
            have hq12 : q < 12 := by omega
            generalize overK side l f k = x at *
            generalize ati f k = y at *
            generalize bt side p = P at *
            generalize bt side q = Q at *
            have v1 : IntKind.i64.wrap P = P := by rw [IntKind.wrap_i64]; omega
            have v2 : IntKind.i64.wrap Q = Q := by rw [IntKind.wrap_i64]; omega
            have v3 : IntKind.i64.wrap (P - Q) = P - Q := by rw [IntKind.wrap_i64]; omega
            obtain ⟨z, hz'⟩ : ∃ z, y * (P - Q) = z := ⟨_, rfl⟩
            rw [hz'] at m1 m2 HN
            have v4 : IntKind.i64.wrap (y * (P - Q)) = z := by rw [hz', IntKind.wrap_i64]; omega
            have v5 : IntKind.i64.wrap (x + z) = x + z := by rw [IntKind.wrap_i64]; omega
            clear hz' B1 B2 p1 p2 p3 p4
            go_wp2
            go_quiet (fail)
            go_wp2
            go_roundw
            case rel => exact ⟨k + 1, by omega, by go_num, by rw [HN.out], below_drewN (hB.alloc (by omega) _) _⟩
            case measure => simp [intOf]; omega
          · have hkk : l.length = k := by omega
            subst hkk
            rw [HS.out]
            have e5 : (V == V) = true := by simp
            go_wp2
            go_ret
            exact ⟨rfl, HB.out.trans (hB.mono (by omega))⟩
  · have hv : valueOf n s t l f = 0 := by unfold valueOf; rw [if_neg h0]
    rw [hv]
    have g1 : (flowErr n s t l f != 0) = true := by simpa using h0
    have g2 : ((0 : Int) == 0) = true := rfl
    clear h0 hv
    generalize flowErr n s t l f = E at *
    go_wp2
    go_ret
    exact ⟨rfl, HB.out⟩

end Go.Proofs.Ytpomdnjfogfnbaa
