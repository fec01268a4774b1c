/- Contracts of the document's own CapOf, Parted and Value. -/
import Derived.Test.YtlfhnhfhaifchaaPartM
import Derived.Test.YtlfhnhfhaifchaaNet
namespace Go.Proofs.Ytlfhnhfhaifchaa
open Go.RowKit
set_option linter.unusedVariables false

theorem or_u16_nat (a b : Nat) (ha : a < 65536) (hb : b < 65536) : bits .or .u16 (a : Int) (b : Int) = ((a ||| b : Nat) : Int) := by
  have hx : a ||| b < 65536 := Nat.or_lt_two_pow (n := 16) ha hb
  have h1 : (BitVec.ofInt 16 (a : Int)).toNat = a := by
    rw [BitVec.ofInt_natCast, BitVec.toNat_ofNat]; exact Nat.mod_eq_of_lt (by omega)
  have h2 : (BitVec.ofInt 16 (b : Int)).toNat = b := by
    rw [BitVec.ofInt_natCast, BitVec.toNat_ofNat]; exact Nat.mod_eq_of_lt (by omega)
  show IntKind.u16.wrap ((BitVec.ofInt 16 (a : Int) ||| BitVec.ofInt 16 (b : Int)).toNat : Int) = _
  rw [BitVec.toNat_or, h1, h2, IntKind.wrap_u16]
  omega

theorem cap_step {x y c : Int} (hx : x = 0 ∨ x = 1) (hy : y = 0 ∨ y = 1) (hc : 0 ≤ c ∧ c ≤ 10000) : (0 ≤ c * x ∧ c * x ≤ 10000) ∧ 0 ≤ c * x * (1 - y) ∧ c * x * (1 - y) ≤ 10000 := by
  rcases hx with rfl | rfl <;> rcases hy with rfl | rfl <;> simp <;> omega

set_option maxHeartbeats 2000000 in
theorem refCapOf_any (n s t side : Int) (hsd : 0 ≤ side ∧ side < 65536) (ao : Option Addr) (cap : Nat) (l : List Arc3) (w : World) (hl60 : l.length ≤ 60) (hA : ArcsAt w ao l)
    (hb : ∀ k, k < l.length → (0 ≤ (at3 l k).1 ∧ (at3 l k).1 < 12) ∧ (0 ≤ (at3 l k).2.1 ∧ (at3 l k).2.1 < 12) ∧ 0 ≤ (at3 l k).2.2 ∧ (at3 l k).2.2 ≤ 10000) :
    Calls Try.prog 39 #[.agg #[.int .i64 n, .int .i64 s, .int .i64 t, .slice ao l.length cap], .int .u16 side] w fun e w' => e = .returned (.int .i64 (capS side l)) ∧ Below w.heap.size w w' := by
  have HA : Hid (ArcsAt (w.alloc (.cells #[.int .i64 n, .int .i64 s, .int .i64 t, .slice ao l.length cap] 24)) ao l) := hA.alloc _
  have HNd : Hid (∀ k, k < l.length → (0 ≤ (at3 l k).1 ∧ (at3 l k).1 < 12) ∧ (0 ≤ (at3 l k).2.1 ∧ (at3 l k).2.1 < 12) ∧ 0 ≤ (at3 l k).2.2 ∧ (at3 l k).2.2 ≤ 10000) := hb
  have HG : Hid (capS side l = capK side l l.length) := rfl
  clear hA hb
  go_enter Try.func39, Try.ntmps39
  go_wp2
  go_loopw [5, 11] (fun u i wr => ∃ k : Nat, k ≤ l.length ∧ i = .int .i64 k ∧ u = .int .i64 (capK side l k) ∧ Below (w.heap.size + 1) (w.alloc (.cells #[.int .i64 n, .int .i64 s, .int .i64 t, .slice ao l.length cap] 24)) wr) (fun _ i _ => l.length - (intOf i).toNat)
  case atStart => exact ⟨0, Nat.zero_le _, rfl, rfl, Below.refl _ _⟩
  case round =>
    obtain ⟨k, hk, rfl, rfl, hB⟩ := hrel
    have hz := hB.size
    simp only [World.size_alloc] at hz
    by_cases hlt : k < l.length
    · obtain ⟨b, off, rfl, hbb, c0, c1, c2⟩ := HA.out.below hB (by simp) k hlt
      obtain ⟨⟨p1, p2⟩, ⟨p3, p4⟩, p5⟩ := HNd.out k hlt
      have HN : Hid (capK side l (k + 1) = capK side l k + (at3 l k).2.2 * bt side (at3 l k).1 * (1 - bt side (at3 l k).2.1)) := capK_succ _ _ _
      obtain ⟨o1, o2⟩ := capK_bound (side := side) (l := l) k fun i hi => (HNd.out i (by omega)).2.2
      obtain ⟨⟨m1, m2⟩, m3, m4⟩ := cap_step (bt_01 side (at3 l k).1) (bt_01 side (at3 l k).2.1) p5
      have B1 := bt_01 side (at3 l k).1
      have B2 := bt_01 side (at3 l k).2.1
      generalize (at3 l k).1 = p at *
      generalize (at3 l k).2.1 = q at *
      generalize (at3 l k).2.2 = c at *
      obtain ⟨p, rfl⟩ := Int.eq_ofNat_of_zero_le p1
      obtain ⟨q, rfl⟩ := Int.eq_ofNat_of_zero_le p3
      have u1 := bt_bits hsd p
      have u2 := bt_bits hsd q
      have hp12 : p < 12 := by omega
      have hq12 : q < 12 := by omega
      generalize capK side l k = x at *
      generalize bt side p = P at *
      generalize bt side q = Q at *
      have v1 : IntKind.i64.wrap P = P := by rw [IntKind.wrap_i64]; omega
      have v2 : IntKind.u16.wrap (1 - Q) = 1 - Q := by rw [IntKind.wrap_u16]; omega
      have v3 : IntKind.i64.wrap (1 - Q) = 1 - Q := by rw [IntKind.wrap_i64]; omega
      obtain ⟨y, hy⟩ : ∃ y, c * P = y := ⟨_, rfl⟩
      rw [hy] at m1 m2 m3 m4 HN
      obtain ⟨z, hz'⟩ : ∃ z, y * (1 - Q) = z := ⟨_, rfl⟩
      rw [hz'] at m3 m4 HN
      have v4 : IntKind.i64.wrap (c * P) = y := by rw [hy, IntKind.wrap_i64]; omega
      have v5 : IntKind.i64.wrap (y * (1 - Q)) = z := by rw [hz', IntKind.wrap_i64]; omega
      have v6 : IntKind.i64.wrap (x + z) = x + z := by rw [IntKind.wrap_i64]; omega
      clear hy hz' B1 B2 p1 p2 p3 p4
      go_wp2
      go_quiet (fail)
      go_wp2
      go_roundw
      case rel => exact ⟨k + 1, by omega, by go_num, by rw [HN.out], below_drewN (hB.alloc (by omega) _) _⟩
      case measure => simp [intOf]; omega
    · have hkk : l.length = k := by omega
      subst hkk
      go_wp2
      go_ret
      rw [HG.out]
      exact ⟨rfl, below_in hB (by omega)⟩

set_option maxHeartbeats 4000000 in
theorem refParted_any (N s t : Nat) (ao : Option Addr) (cap : Nat) (l : List Arc3) (w : World) (hE : netErr N s t l = 0) (hA : ArcsAt w ao l) :
    Calls Try.prog 34 #[.agg #[.int .i64 (N : Int), .int .i64 (s : Int), .int .i64 (t : Int), .slice ao l.length cap]] w fun e w' => Below w.heap.size w w' ∧
      ∃ (best : Int) (lo hi : Nat), e = .returned (.tuple #[.int .i64 best, .int .u16 (lo : Int), .int .u16 (hi : Int)]) ∧ PartIs N s t l best lo hi ∧ lo < 65536 ∧ hi < 65536 := by
  have HE : Hid (netErr N s t l = 0) := hE
  obtain ⟨hge, hs, ht, hst⟩ := net_ok hE
  obtain ⟨⟨hn1, hn2⟩, hl60, hall⟩ := err_ok hge
  have x0 := blk_new w (.cells #[.int .i64 (N : Int), .int .i64 (s : Int), .int .i64 (t : Int), .slice ao l.length cap] 24)
  have HCap : Hid (∀ (side : Nat) (W : World), side < 65536 → ArcsAt W ao l → Calls Try.prog 39 #[.agg #[.int .i64 (N : Int), .int .i64 (s : Int), .int .i64 (t : Int), .slice ao l.length cap], .int .u16 (side : Int)] W fun e w' => e = .returned (.int .i64 (capS side l)) ∧ Below W.heap.size W w') := fun side W hsd hA =>
    refCapOf_any N s t side (by omega) ao cap l W hl60 hA fun k hk => by
      have := hall _ (at3_mem l k hk)
      exact ⟨by omega, by omega, this.2.2⟩
  have HC0 : Hid (∀ side, 0 ≤ capS side l ∧ capS side l ≤ 600000) := fun side => by
    have := capK_bound (side := side) (l := l) l.length fun i hi => (hall _ (at3_mem l i hi)).2.2
    unfold capS; omega
  have HA : Hid (ArcsAt (w.alloc (.cells #[.int .i64 (N : Int), .int .i64 (s : Int), .int .i64 (t : Int), .slice ao l.length cap] 24)) ao l) := hA.alloc _
  have hN12 : N ≤ 12 := by omega
  have hs12 : s < 12 := by omega
  have ht12 : t < 12 := by omega
  have hsN : s < N := by omega
  have HST : Hid (s ≠ t) := by rw [Hid]; omega
  obtain ⟨M, hM⟩ : ∃ M, 2 ^ N = M := ⟨_, rfl⟩
  have hM1 : M ≤ 4096 := by rw [← hM]; exact Nat.pow_le_pow_right (by omega) hN12
  have HM : Hid (2 ^ N = M) := hM
  have hsh : IntKind.u16.wrap (2 ^ N) = (M : Int) := by
    rw [IntKind.wrap_u16, show ((2 : Int) ^ N) = ((2 ^ N : Nat) : Int) by simp, hM]; omega
  clear hE hge hs ht hst hn1 hn2 hall hA hM
  obtain ⟨r0, r1, r2, r3⟩ := blk4 x0
  go_enter Try.func34, Try.ntmps34
  go_wp2
  go_loopw [5, 6, 7, 13] (fun b lo hi i wr => ∃ (k : Nat) (best : Int) (lo' hi' : Nat), k ≤ M ∧ i = .int .u16 (k : Int) ∧ b = .int .i64 best ∧ lo = .int .u16 (lo' : Int) ∧ hi = .int .u16 (hi' : Int) ∧ (lo' < 65536 ∧ hi' < 65536 ∧ -1 ≤ best ∧ best ≤ 600000) ∧ Hid (PartK s t l k best lo' hi') ∧
    Below (w.heap.size + 1) (w.alloc (.cells #[.int .i64 (N : Int), .int .i64 (s : Int), .int .i64 (t : Int), .slice ao l.length cap] 24)) wr) (fun _ _ _ i _ => M - (intOf i).toNat)
  case atStart => exact ⟨0, -1, 0, 0, Nat.zero_le _, rfl, rfl, rfl, rfl, ⟨by omega, by omega, by omega, by omega⟩, PartK.start _ _ _, Below.refl _ _⟩
  case round =>
    obtain ⟨k, best, lo, hi, hk, rfl, rfl, rfl, rfl, ⟨hlo, hhi, hb1, hb2⟩, hP, hB⟩ := hrel
    have hz := hB.size
    simp only [World.size_alloc] at hz
    clear r0 r1 r2 r3
    obtain ⟨r0, r1, r2, r3⟩ := blk4 (blk_below hB x0 (by omega))
    by_cases hlt : k < M
    · have u1 := bt_bits (side := (k : Int)) (by omega) s
      have u2 := bt_bits (side := (k : Int)) (by omega) t
      have hkw : IntKind.u16.wrap ((k : Int) + 1) = ((k + 1 : Nat) : Int) := by rw [IntKind.wrap_u16]; omega
      have HSd : Hid (SideN s t k ↔ bt (k : Int) (s : Int) = 1 ∧ bt (k : Int) (t : Int) = 0) := sideN_bt
      have B1 := bt_01 (k : Int) (s : Int)
      have B2 := bt_01 (k : Int) (t : Int)
      generalize bt (k : Int) (s : Int) = P at *
      generalize bt (k : Int) (t : Int) = Q at *
      have hcap := HCap.out k wr (by omega) (HA.out.below hB (by simp))
      have hC0 := HC0.out (k : Int)
      by_cases hP0 : P = 0
      · have e1 : (P == 0) = true := by simpa using hP0
        have HN : Hid (PartK s t l (k + 1) best lo hi) := hP.out.none fun h => by have := HSd.out.1 h; omega
        clear B1 B2 hP0 hcap
        go_wp2
        go_roundw
        case rel => exact ⟨k + 1, best, lo, hi, by omega, rfl, rfl, rfl, rfl, ⟨hlo, hhi, hb1, hb2⟩, HN, hB⟩
        case measure => simp [intOf]; omega
      · have e1 : (P == 0) = false := by simpa using hP0
        by_cases hQ1 : Q = 1
        · have e2 : (Q == 1) = true := by simpa using hQ1
          have HN : Hid (PartK s t l (k + 1) best lo hi) := hP.out.none fun h => by have := HSd.out.1 h; omega
          clear B1 B2 hP0 hQ1 hcap
          go_wp2
          go_roundw
          case rel => exact ⟨k + 1, best, lo, hi, by omega, rfl, rfl, rfl, rfl, ⟨hlo, hhi, hb1, hb2⟩, HN, hB⟩
          case measure => simp [intOf]; omega
        · have e2 : (Q == 1) = false := by simpa using hQ1
          have hS : SideN s t k := HSd.out.2 ⟨by omega, by omega⟩
          have HLess : Hid (best < 0 ∨ capS k l < best → PartK s t l (k + 1) (capS k l) k k) := fun h => hP.out.less hS hC0.1 h
          have HSame : Hid (0 ≤ best → capS k l = best → PartK s t l (k + 1) best (lo &&& k) (hi ||| k)) := fun h1 h2 => hP.out.same hS h1 h2
          have HMore : Hid (0 ≤ best → best < capS k l → PartK s t l (k + 1) best lo hi) := fun h1 h2 => hP.out.more h1 h2
          have a1 := and_u16_nat lo k hlo (by omega)
          have a2 := or_u16_nat hi k hhi (by omega)
          have a3 : lo &&& k < 65536 := Nat.lt_of_le_of_lt Nat.and_le_left hlo
          have a4 : hi ||| k < 65536 := Nat.or_lt_two_pow (n := 16) hhi (by omega)
          generalize capS k l = c at *
          generalize lo &&& k = lk at *
          generalize hi ||| k = hk' at *
          clear hP hS B1 B2 hP0 hQ1
          go_wp2_with fail
          refine hcap.mono ?_
          clear hcap
          rintro e w2 ⟨rfl, hb⟩
          have HB2 : Hid (Below (w.heap.size + 1) (w.alloc (.cells #[.int .i64 (N : Int), .int .i64 (s : Int), .int .i64 (t : Int), .slice ao l.length cap] 24)) w2) := hB.trans (hb.mono (by omega))
          clear hb hB
          by_cases hbn : best < 0
          · have e3 : decide (best < 0) = true := decide_eq_true hbn
            have HN : Hid (PartK s t l (k + 1) c k k) := HLess.out (Or.inl hbn)
            clear HLess HSame HMore hbn
            go_wp2
            go_roundw
            case rel => exact ⟨k + 1, c, k, k, by omega, rfl, rfl, rfl, rfl, ⟨by omega, by omega, by omega, by omega⟩, HN, HB2.out⟩
            case measure => simp [intOf]; omega
          · have e3 : decide (best < 0) = false := decide_eq_false hbn
            rcases Int.lt_trichotomy c best with q | q | q
            · have e4 : decide (c < best) = true := decide_eq_true q
              have HN : Hid (PartK s t l (k + 1) c k k) := HLess.out (Or.inr q)
              clear HLess HSame HMore
              go_wp2
              go_roundw
              case rel => exact ⟨k + 1, c, k, k, by omega, rfl, rfl, rfl, rfl, ⟨by omega, by omega, by omega, by omega⟩, HN, HB2.out⟩
              case measure => simp [intOf]; omega
            · have e4 : decide (c < best) = false := decide_eq_false (by omega)
              have e5 : (c == best) = true := by simpa using q
              have HN : Hid (PartK s t l (k + 1) best lk hk') := HSame.out (by omega) q
              clear HLess HSame HMore q
              go_wp2
              go_roundw
              case rel => exact ⟨k + 1, best, lk, hk', by omega, rfl, rfl, rfl, rfl, ⟨a3, a4, hb1, hb2⟩, HN, HB2.out⟩
              case measure => simp [intOf]; omega
            · have e4 : decide (c < best) = false := decide_eq_false (by omega)
              have e5 : (c == best) = false := by simp; omega
              have HN : Hid (PartK s t l (k + 1) best lo hi) := HMore.out (by omega) q
              clear HLess HSame HMore q
              go_wp2
              go_roundw
              case rel => exact ⟨k + 1, best, lo, hi, by omega, rfl, rfl, rfl, rfl, ⟨hlo, hhi, hb1, hb2⟩, HN, HB2.out⟩
              case measure => simp [intOf]; omega
    · have hkM : k = M := by omega
      subst hkM
      have HD : Hid (PartIs N s t l best lo hi) := by
        have := hP.out
        rw [← HM.out] at this
        exact this.done hsN HST.out
      go_wp2
      go_ret3
      exact ⟨below_in hB (by omega), best, lo, hi, rfl, HD.out, hlo, hhi⟩

end Go.Proofs.Ytlfhnhfhaifchaa
