/- The law NeedSets, walked out of contracts of package need. -/
import Derived.Test.YtmneajmfoljflaaNeeds
import Derived.BigRegion
namespace Go.Proofs.Ytmneajmfoljflaa
open Go.RowKit
set_option linter.unusedVariables false

set_option maxHeartbeats 4000000 in
set_option maxRecDepth 100000 in
theorem NeedSets_any (hR : NRoundC) (hFa : NFaultC) (n side : Int) (hsd : 0 ≤ side ∧ side < 65536) (ao : Option Addr) (cap : Nat) (l : List Need4) (w : World) (hX : NeedsIn w ao cap l) :
    Calls Try.prog 4 #[.int .i64 n, .slice ao l.length cap, .int .u16 side] w fun e w' => e = .returned (.bool true) ∧ Below w.heap.size w w' := by
  go_enter Try.func4, Try.ntmps4
  go_wp2_with fail
  refine (needs_any hR _).mono ?_
  rintro e w1 ⟨rfl, hb1⟩
  have hX1 := hX.below hb1 (Nat.le_refl _)
  have HB1 : Hid (Below w.heap.size w w1) := hb1
  have HX1 : Hid (NeedsIn w1 ao cap l) := hX1
  have hq := hR n ao cap l w1 hX1
  clear hb1 hX hX1
  go_wp2_with fail
  refine hq.mono ?_
  clear hq
  rintro e w2 ⟨hb2, a1, c1, F, E, rfl, hO, hT⟩
  have HX2 : Hid (NeedsIn w2 ao cap l) := HX1.out.below hb2 (Nat.le_refl _)
  have HB2 : Hid (Below w.heap.size w w2) := HB1.out.trans (hb2.mono HB1.out.size)
  have HT : Hid (RoundTells n l F E) := hT
  have hq := hFa n ao cap l w2 HX2.out
  clear hb2 hO hT HX1 HB1
  go_wp2_with fail
  refine hq.mono ?_
  clear hq
  rintro e w3 ⟨hb3, x, G, rfl, hT3⟩
  have HX3 : Hid (NeedsIn w3 ao cap l) := HX2.out.below hb3 (Nat.le_refl _)
  have HB3 : Hid (Below w.heap.size w w3) := HB2.out.trans (hb3.mono HB2.out.size)
  have HT3 : Hid (FaultTells n l x G) := hT3
  clear hb3 hT3 HX2 HB2
  by_cases hE : E = 0
  · subst hE
    obtain ⟨hn, hRd⟩ := HT.out.ok rfl
    have hG : G = 5 := by
      rcases tells_same hn HT.out HT3.out with h | h
      · exact h.2.1
      · exact absurd h.1 (by decide)
    subst hG
    obtain ⟨⟨hn1, hn2⟩, hl30, hall⟩ := need_ok hn
    have hnn : ((n.toNat : Nat) : Int) = n := by omega
    have hle : mustS l side ≤ mayS l side := hRd.eased (by rw [hnn]; exact hn) side
    have HLe : Hid (mustK l side l.length ≤ mayK l side l.length) := hle
    have HAll : Hid (∀ k, k < l.length → (0 ≤ (at4 l k).1 ∧ (at4 l k).1 < n) ∧ (0 ≤ (at4 l k).2.1 ∧ (at4 l k).2.1 < n) ∧ 0 ≤ (at4 l k).2.2.1 ∧ (at4 l k).2.2.1 ≤ (at4 l k).2.2.2 ∧ (at4 l k).2.2.2 ≤ 333) := hall
    have HMu : Hid (∀ k, k ≤ l.length → 0 ≤ mustK l side k ∧ mustK l side k ≤ 333 * (k : Int)) := fun k hk => must_bound (by omega) k fun i hi => by have := hall i (by omega); omega
    have HMa : Hid (∀ k, k ≤ l.length → 0 ≤ mayK l side k ∧ mayK l side k ≤ 333 * (k : Int)) := fun k hk => may_bound (by omega) k fun i hi => by have := hall i (by omega); omega
    have g0 : ((0 : Int) != 0) = false := rfl
    have g5 : ((5 : Int) == 5) = true := rfl
    clear hn hRd hall hle hnn HT HT3
    go_wp2
    go_loopw [11, 12, 46] (fun u o i wr => ∃ k : Nat, k ≤ l.length ∧ i = .int .i64 k ∧ u = .int .i64 (mustK l side k) ∧ o = .int .i64 (mayK l side k) ∧ Hid (Below w3.heap.size w3 wr)) (fun _ _ i _ => l.length - (intOf i).toNat)
    case atStart => exact ⟨0, Nat.zero_le _, rfl, rfl, rfl, Below.refl _ _⟩
    case round =>
      obtain ⟨k, hk, rfl, rfl, rfl, HB⟩ := hrel
      have hzr := HB.out.size
      by_cases hlt : k < l.length
      · have HK : Hid (k + 1 ≤ l.length) := hlt
        obtain ⟨b, off, rfl, hbb, e0, e1, e2, e3⟩ := HX3.out.needs.below HB.out (Nat.le_refl _) k hlt
        obtain ⟨⟨p1, p2⟩, ⟨p3, p4⟩, p5, p6, p7⟩ := HAll.out k hlt
        obtain ⟨m1, m2⟩ := HMu.out k hk
        obtain ⟨m3, m4⟩ := HMa.out k hk
        have HN1 : Hid (mustK l side (k + 1) = mustK l side k + (1 - bt side (at4 l k).1) * bt side (at4 l k).2.1 * (at4 l k).2.2.1) := rfl
        have HN2 : Hid (mayK l side (k + 1) = mayK l side k + bt side (at4 l k).1 * (1 - bt side (at4 l k).2.1) * (at4 l k).2.2.2) := rfl
        have B1 := bt_01 side (at4 l k).1
        have B2 := bt_01 side (at4 l k).2.1
        generalize mustK l side k = mu at *
        generalize mayK l side k = ma at *
        generalize (at4 l k).1 = p at *
        generalize (at4 l k).2.1 = q at *
        generalize (at4 l k).2.2.1 = lo at *
        generalize (at4 l k).2.2.2 = c at *
        obtain ⟨p, rfl⟩ := Int.eq_ofNat_of_zero_le p1
        obtain ⟨q, rfl⟩ := Int.eq_ofNat_of_zero_le p3
        have u1 := bt_bits hsd p
        have u2 := bt_bits hsd q
        have hp12 : p < 12 := by omega
        have hq12 : q < 12 := by omega
        have v1 : IntKind.i64.wrap (mu + lo) = mu + lo := by rw [IntKind.wrap_i64]; omega
        have v2 : IntKind.i64.wrap (ma + c) = ma + c := by rw [IntKind.wrap_i64]; omega
        generalize bt side p = P at *
        generalize bt side q = Q at *
        rcases B1 with rfl | rfl <;> rcases B2 with rfl | rfl
        all_goals
          simp only [Int.sub_zero, Int.sub_self, Int.one_mul, Int.zero_mul, Int.mul_zero, Int.add_zero, Int.mul_one] at HN1 HN2
          clear p1 p2 p3 p4
          go_wp2
          go_quiet (fail)
          go_wp2
          go_roundw
          case rel => exact ⟨k + 1, HK.out, by go_num, by rw [HN1.out], by rw [HN2.out], below_drewN (HB.out.alloc (by omega) _) _⟩
          case measure => have := HK.out; simp [intOf]; omega
      · have hkk : k = l.length := by omega
        subst hkk
        have hle := HLe.out
        obtain ⟨m1, m2⟩ := HMu.out _ (Nat.le_refl l.length)
        generalize mustK l side l.length = mu at *
        generalize mayK l side l.length = ma at *
        have g1 : decide (mu ≤ ma) = true := by simpa using hle
        go_wp2
        go_ret
        exact ⟨rfl, HB3.out.trans (HB.out.mono HB3.out.size)⟩
  · obtain ⟨hF, h5⟩ := HT.out.no hE
    subst hF
    have hE' : (E != 0) = true := by simpa using hE
    by_cases h : E = 5
    · have hG : G = 0 := by
        rcases tells_same (h5 h).1 HT.out HT3.out with h' | h'
        · exact absurd h'.1 hE
        · exact h'.2.1
      subst hG
      subst h
      have g1 : ((5 : Int) != 5) = false := rfl
      have g2 : ((0 : Int) == 0) = true := rfl
      clear HT HT3 h5
      go_wp2
      go_ret
      exact ⟨rfl, HB3.out⟩
    · have g1 : (E != 5) = true := by simpa using h
      clear HT HT3 h5 h
      go_wp2
      go_ret
      exact ⟨rfl, HB3.out⟩

end Go.Proofs.Ytmneajmfoljflaa
