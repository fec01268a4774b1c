/- Contracts of the document's own errors: GraphErr, LongErr. -/
import Derived.Test.YtlfhnhfhaifchaaGErr
namespace Go.Proofs.Ytlfhnhfhaifchaa
open Go.RowKit
set_option linter.unusedVariables false

set_option maxHeartbeats 1000000 in
theorem refGraphErr_any (n least : Int) (ao : Option Addr) (cap : Nat) (l : List Arc3) (w : World) (hm : l.length ≤ maxLen) (hA : ArcsAt w ao l) :
    Calls Try.prog 19 #[.agg #[.int .i64 n, .slice ao l.length cap], .int .i64 least] w fun e w' =>
      e = .returned (.int .i64 (graphErr n least l)) ∧ Below w.heap.size w w' := by
  unfold maxLen at hm
  by_cases h1 : n < 1
  · have h1' : n ≤ 0 := by omega
    clear h1
    have hfin : graphErr n least l = 1 := by rw [graphErr, if_pos (by omega)]
    rw [hfin]
    clear hfin
    go_enter Try.func19, Try.ntmps19
    go_wp2
    go_ret
    exact ⟨rfl, below_one _ _⟩
  by_cases h2 : 12 < n
  · have h2' : 13 ≤ n := by omega
    clear h2
    have hfin : graphErr n least l = 1 := by rw [graphErr, if_pos (by omega)]
    rw [hfin]
    clear hfin
    go_enter Try.func19, Try.ntmps19
    go_wp2
    go_ret
    exact ⟨rfl, below_one _ _⟩
  by_cases h3 : 60 < l.length
  · have hfin : graphErr n least l = 2 := by rw [graphErr, if_neg (by omega), if_pos h3]
    rw [hfin]
    clear hfin
    go_enter Try.func19, Try.ntmps19
    go_wp2
    go_ret
    exact ⟨rfl, below_one _ _⟩
  have HG : Hid (graphErr n least l = arcsErr n least l) := by rw [Hid, graphErr, if_neg (by omega), if_neg h3]
  go_enter Try.func19, Try.ntmps19
  go_wp2
  go_loopw [24] (fun i wr => ∃ k : Nat, k ≤ l.length ∧ i = .int .i64 k ∧ Hid (arcsErr n least (l.take k) = 0) ∧ Below (w.heap.size + 1) (w.alloc (.cells #[.int .i64 n, .slice ao l.length cap] 49)) wr) (fun i _ => l.length - (intOf i).toNat)
  case atStart => exact ⟨0, Nat.zero_le _, rfl, rfl, Below.refl _ _⟩
  case round =>
    obtain ⟨k, hk, rfl, hok, hB⟩ := hrel
    have hz := hB.size
    simp at hz
    have hz' : w.heap.size < wr.heap.size := by omega
    by_cases hlt : k < l.length
    · obtain ⟨b, off, rfl, hb, c0, c1, c2⟩ := (hA.alloc (.cells #[.int .i64 n, .slice ao l.length cap] 49)).below hB (by simp) k hlt
      have g0 : wr.cell? ⟨w.heap.size, 0, none⟩ = some (.int .i64 n) := later hB (newest #[.int .i64 n, .slice (some ⟨b, off, none⟩) l.length cap] 49 0) (by omega)
      generalize ha : at3 l k = a at *
      obtain ⟨f, t, c⟩ := a
      have HA : Hid (at3 l k = (f, t, c)) := ha
      clear ha
      simp only at c0 c1 c2
      by_cases hbad : (0 ≤ f ∧ f < n) ∧ (0 ≤ t ∧ t < n)
      case neg =>
        have HN : Hid (graphErr n least l = 4) := HG.out.trans (by
          have e : arcErr n least f t c = 4 := by unfold arcErr isN; rw [if_neg (by simp; omega)]
          rw [arcsErr_at n least l k hlt hok (f, t, c) HA (by simp only; rw [e]; decide)]; exact e)
        rcases (by omega : (f = t ∧ f < 0) ∨ (f < t ∧ f < 0) ∨ (t < f ∧ t < 0) ∨ (f = t ∧ 0 ≤ f ∧ n ≤ f) ∨ (f < t ∧ 0 ≤ f ∧ n ≤ t) ∨ (t < f ∧ 0 ≤ t ∧ n ≤ f)) with ⟨rfl, q2⟩ | ⟨q1, q2⟩ | ⟨q1, q2⟩ | ⟨rfl, q2, q3⟩ | ⟨q1, q2, q3⟩ | ⟨q1, q2, q3⟩
        all_goals
          clear hbad
          go_wp2
          go_ret
          rw [HN.out]
          exact ⟨rfl, below_in (hB.alloc (by omega) _) (by omega)⟩
      have HNN : Hid ((0 ≤ f ∧ f < n) ∧ (0 ≤ t ∧ t < n)) := hbad
      obtain ⟨⟨p1, p2⟩, p3, p4⟩ := hbad
      by_cases hcc : least ≤ c ∧ c ≤ 10000
      · have HN : Hid (arcsErr n least (l.take (k + 1)) = 0) := arcsErr_next n least l k hlt hok (f, t, c) HA (arcErr_mk ⟨HNN.out.1, HNN.out.2, hcc.1, hcc.2⟩)
        obtain ⟨k1, k2⟩ := hcc
        rcases Int.lt_trichotomy f t with q1 | rfl | q1
        all_goals
          go_wp2
          go_roundw
          case rel => exact ⟨k + 1, by omega, by go_num, HN, hB.alloc (by omega) _⟩
          case measure => simp [intOf]; omega
      · have HN : Hid (graphErr n least l = 1) := HG.out.trans (by
          have e : arcErr n least f t c = 1 := by have := HNN.out; unfold arcErr isN; rw [if_pos (by simp; omega), if_neg hcc]
          rw [arcsErr_at n least l k hlt hok (f, t, c) HA (by simp only; rw [e]; decide)]; exact e)
        have hc2 : c < least ∨ (least ≤ c ∧ 10000 < c) := by omega
        clear hcc
        rcases Int.lt_trichotomy f t with q1 | rfl | q1 <;> rcases hc2 with k1 | ⟨k1, k2⟩
        all_goals
          go_wp2
          go_ret
          rw [HN.out]
          exact ⟨rfl, below_in (hB.alloc (by omega) _) (by omega)⟩
    · have hkl : k = l.length := by omega
      subst hkl
      rw [List.take_length] at hok
      go_wp2
      go_ret
      rw [HG.out, hok.out]
      exact ⟨rfl, below_in hB (by omega)⟩


end Go.Proofs.Ytlfhnhfhaifchaa
