/- Parts of the law TreeLess: its closure; what Without tells. -/
import Derived.Test.YtamckjbddnocpaaTCnt
import Derived.Test.YtamckjbddnocpaaTFull
import Derived.Test.YtamckjbddnocpaaWithout
import Derived.Test.YtamckjbddnocpaaAppJoin
import Derived.Deep.RegionLaw
namespace Go.Proofs.Ytamckjbddnocpaa
open Go.RowKit
set_option linter.unusedVariables false

set_option maxHeartbeats 800000 in
theorem at_any (N f t : Nat) (hne : f ≠ t) (i : Int) (pa pg : Nat) (w : World) (h8 : N ≤ 8) (hf : f < N) (ht : t < N) (ha : pa < w.heap.size) (hg : pg < w.heap.size)
    (a0 : w.cell? ⟨pa, 0, none⟩ = some (.int .i64 (f : Int))) (a1 : w.cell? ⟨pa, 1, none⟩ = some (.int .i64 (t : Int))) (g0 : w.cell? ⟨pg, 0, none⟩ = some (.int .i64 (N : Int))) :
    Calls Try.prog 16 #[.int .i64 i, .pointer (some ⟨pa, 0, none⟩), .pointer (some ⟨pg, 0, none⟩)] w fun e w' => e = .returned (.int .i64 (ctr N f t i)) ∧ w' = w := by
  rcases Nat.lt_or_gt_of_ne hne with h | h
  · have hmx : ((max f t : Nat) : Int) = (t : Int) := by omega
    have hmn : ((min f t : Nat) : Int) = (f : Int) := by omega
    have q1 : (f : Int) < t := by omega
    have q2 : ¬ (t : Int) < f := by omega
    by_cases e1 : i = (t : Int)
    · subst e1
      rw [show ctr N f t (t : Int) = (f : Int) from by unfold ctr; rw [hmx, if_pos rfl, hmn]]
      clear hmx hmn h hne
      go_enter Try.func16, Try.ntmps16
      go_wp2
      go_ret
      exact ⟨rfl, rfl⟩
    · have e1' : (i == (t : Int)) = false := by simpa using e1
      by_cases e2 : i = (N : Int) - 1
      · subst e2
        rw [show ctr N f t ((N : Int) - 1) = (t : Int) from by unfold ctr; rw [hmx, if_neg e1, if_pos rfl]]
        have e2' : ((N : Int) - 1 == (N : Int) - 1) = true := by simp
        clear hmx hmn h hne e1
        go_enter Try.func16, Try.ntmps16
        go_wp2
        go_ret
        exact ⟨rfl, rfl⟩
      · rw [show ctr N f t i = i from by unfold ctr; rw [hmx, if_neg e1, if_neg e2]]
        have e2' : (i == (N : Int) - 1) = false := by simpa using e2
        clear hmx hmn h hne e1 e2
        go_enter Try.func16, Try.ntmps16
        go_wp2
        go_ret
        exact ⟨rfl, rfl⟩
  · have hmx : ((max f t : Nat) : Int) = (f : Int) := by omega
    have hmn : ((min f t : Nat) : Int) = (t : Int) := by omega
    have q1 : ¬ (f : Int) < t := by omega
    have q2 : (t : Int) < f := by omega
    by_cases e1 : i = (f : Int)
    · subst e1
      rw [show ctr N f t (f : Int) = (t : Int) from by unfold ctr; rw [hmx, if_pos rfl, hmn]]
      clear hmx hmn h hne
      go_enter Try.func16, Try.ntmps16
      go_wp2
      go_ret
      exact ⟨rfl, rfl⟩
    · have e1' : (i == (f : Int)) = false := by simpa using e1
      by_cases e2 : i = (N : Int) - 1
      · subst e2
        rw [show ctr N f t ((N : Int) - 1) = (f : Int) from by unfold ctr; rw [hmx, if_neg e1, if_pos rfl]]
        have e2' : ((N : Int) - 1 == (N : Int) - 1) = true := by simp
        clear hmx hmn h hne e1
        go_enter Try.func16, Try.ntmps16
        go_wp2
        go_ret
        exact ⟨rfl, rfl⟩
      · rw [show ctr N f t i = i from by unfold ctr; rw [hmx, if_neg e1, if_neg e2]]
        have e2' : (i == (N : Int) - 1) = false := by simpa using e2
        clear hmx hmn h hne e1 e2
        go_enter Try.func16, Try.ntmps16
        go_wp2
        go_ret
        exact ⟨rfl, rfl⟩

/-- whatever Without tells -/
theorem Without_any (n k : Int) (ao : Option Addr) (cap : Nat) (l : List Arc3) (w : World) (hG : GraphIn w ao cap l) :
    Calls Try.prog 15 #[.agg #[.int .i64 n, .slice ao l.length cap], .int .i64 k] w fun e w' => Below w.heap.size w w' ∧
      ∃ x a lc cc f, e = .returned (.tuple #[.agg #[.int .i64 x, .slice a lc cc], .int .i64 f]) := by
  by_cases hg : graphErr n (-10000) l = 0
  · by_cases hk : k < 0 ∨ (l.length : Int) ≤ k
    · exact (Without_none n k ao cap l w hG.arcs hg hk).mono fun e w' ⟨h1, h2⟩ => ⟨h1, _, _, _, _, _, h2⟩
    · obtain ⟨k', rfl⟩ : ∃ k' : Nat, k = (k' : Int) := ⟨k.toNat, by omega⟩
      exact (Without_ok n ao cap l k' w hG.arcs hg (by omega) hG.le hG.max).mono fun e w' ⟨h1, b, _, h2, _⟩ => ⟨h1, _, _, _, _, _, h2⟩
  · exact (Without_err n k ao cap l w hG.len hG.arcs hg).mono fun e w' ⟨h1, h2⟩ => ⟨h1, _, _, _, _, _, h2⟩

end Go.Proofs.Ytamckjbddnocpaa
