/- Contracts of package tree: Count. -/
import Derived.Test.YtamckjbddnocpaaTRed
import Derived.Test.YtamckjbddnocpaaTExp
import Derived.Test.YtamckjbddnocpaaWalkC
namespace Go.Proofs.Ytamckjbddnocpaa
open Go.RowKit
set_option linter.unusedVariables false

theorem trees_det {N : Nat} {l : List Arc3} (h1 : 1 ≤ N) (h : ∀ a ∈ l, (0 ≤ a.1 ∧ a.1 < (N : Int)) ∧ (0 ≤ a.2.1 ∧ a.2.1 < (N : Int))) : trees N l = det (N - 1) (lap l) := by
  rw [trees_any h (x := N - 1) (by omega)]
  have e : others N (N - 1) = List.range (N - 1) := by
    obtain ⟨m, rfl⟩ : ∃ m, N = m + 1 := ⟨N - 1, by omega⟩
    unfold others
    rw [Nat.add_sub_cancel, List.range_succ, List.filter_append]
    have e1 : (List.range m).filter (fun i => decide (i ≠ m)) = List.range m := List.filter_eq_self.2 fun i hi => by
      have : i < m := by simpa using hi
      simp; omega
    rw [e1]
    simp
  rw [e]
  unfold dd d2
  rw [List.length_range]
  refine det_congr fun i j hi hj => ?_
  rw [List.getD_eq_getElem?_getD, List.getD_eq_getElem?_getD, List.getElem?_range hi, List.getElem?_range hj]; rfl

theorem mtx_tbl (R : Nat → Nat) (N : Nat) (l : List Arc3) {i k : Nat} (hi : i < N - 1) (hk : k < N - 1) : mtx (tbl R N l) i k = lap l i k := by
  unfold mtx
  rw [tbl_at R N l hi]
  rw [ati_lt _ _ (by simpa using hk)]
  simp

def countErr (n : Int) (l : List Arc3) : Int := if graphErr n (-10000) l = 0 then (if 8 < n ∨ 30 < l.length then 2 else 0) else graphErr n (-10000) l

theorem countErr_ok {n : Int} {l : List Arc3} (h : countErr n l = 0) : graphErr n (-10000) l = 0 ∧ n ≤ 8 ∧ l.length ≤ 30 := by
  unfold countErr at h
  by_cases e : graphErr n (-10000) l = 0
  · rw [if_pos e] at h
    by_cases c : 8 < n ∨ 30 < l.length
    · rw [if_pos c] at h; cases h
    · exact ⟨e, by omega, by omega⟩
  · rw [if_neg e] at h; exact absurd h e

theorem countErr_mk {n : Int} {l : List Arc3} (h : graphErr n (-10000) l = 0) (h8 : n ≤ 8) (h30 : l.length ≤ 30) : countErr n l = 0 := by
  unfold countErr; rw [if_pos h, if_neg (by omega)]

set_option maxHeartbeats 800000 in
theorem Count_ok (N : Nat) (ao : Option Addr) (cap : Nat) (l : List Arc3) (w : World) (hG : GraphIn w ao cap l) (he : countErr N l = 0) :
    Calls Try.prog 11 #[.agg #[.int .i64 (N : Int), .slice ao l.length cap]] w fun e w' => Below w.heap.size w w' ∧ e = .returned (.tuple #[.int .i64 (trees N l), .int .i64 0]) := by
  obtain ⟨hg, h8, h30⟩ := countErr_ok he
  obtain ⟨⟨hn1, hn2⟩, hlen, harcs⟩ := err_ok hg
  have hl : ∀ a ∈ l, (0 ≤ a.1 ∧ a.1 < (N : Int)) ∧ (0 ≤ a.2.1 ∧ a.2.1 < (N : Int)) := fun a ha => ⟨(harcs a ha).1, (harcs a ha).2.1⟩
  have hA := hG.arcs
  have hm : l.length ≤ maxLen := hG.len
  have HT : Hid (trees N l = det (N - 1) (lap l)) := trees_det (by omega) hl
  have HL : Hid (∀ a ∈ l, (0 ≤ a.1 ∧ a.1 < (N : Int)) ∧ (0 ≤ a.2.1 ∧ a.2.1 < (N : Int))) := hl
  have hc1 := CheckLong_any (N : Int) ao cap l _ hm (hA.alloc (.cells #[.int .i64 (N : Int), .slice ao l.length cap] 34))
  rw [hg] at hc1
  have HA : Hid (ArcsAt w ao l) := hA
  have hne : ((0 : Int) != 0) = false := rfl
  have h8' : ¬ (8 : Int) < (N : Int) := by omega
  have h30' : ¬ (30 : Int) < (l.length : Int) := by omega
  clear he hg harcs hl hG hA
  go_enter Try.func11, Try.ntmps11
  go_wp2_with fail
  refine hc1.mono ?_
  rintro e w1 ⟨rfl, hb1⟩
  have hz := hb1.size
  simp only [World.size_alloc] at hz hb1
  have HB1 : Hid (Below (w.heap.size + 1) (w.alloc (.cells #[.int .i64 (N : Int), .slice ao l.length cap] 34)) w1) := hb1
  have hbx : w1.heap[w.heap.size]? = some (.cells #[.int .i64 (N : Int), .slice ao l.length cap] 34 (0, 0)) := (hb1.block w.heap.size (by omega)).trans (blk_new w _)
  obtain ⟨x0, x1, xf0, xf1⟩ := blk2 hbx
  have hr := reduced_any N (by omega) (by omega) ao cap l w1 ((HA.out.alloc _).below hb1 (by simp)) h30 HL.out
  clear hb1 hc1 hbx
  go_wp2_with fail
  refine hr.mono ?_
  rintro e w2 ⟨hb2, D, R, rfl, hR⟩
  have hx := expand_any (N - 1) (by omega) (some ⟨D, 0, none⟩) N (tbl R N l) w2 (tbl_len R N l) hR (fun i hi => by rw [tbl_at R N l hi]; simp) (fun i k hi hk => by
    rw [mtx_tbl R N l hi hk]; exact Nat.le_trans (lap_abs l i k) (by omega)) (N - 1) 0 0 (by omega) (by omega) (by rw [cols_zero]; simp)
  rw [cols_zero, dx_all, det_congr (N := lap l) (fun i k hi hk => mtx_tbl R N l hi hk), ← HT.out] at hx
  have HB2 : Hid (Below w1.heap.size w1 w2) := hb2
  clear hr hb2 hR HL HA HT
  go_wp2_with fail
  refine hx.mono ?_
  rintro e w3 ⟨hw, rfl⟩
  subst hw
  clear hx
  go_wp2_with fail
  go_ret2
  exact ⟨below_in (HB1.out.trans (HB2.out.mono (by omega))) (by omega), rfl⟩

set_option maxHeartbeats 800000 in
theorem Count_err (n : Int) (ao : Option Addr) (cap : Nat) (l : List Arc3) (w : World) (hG : GraphIn w ao cap l) (he : countErr n l ≠ 0) :
    Calls Try.prog 11 #[.agg #[.int .i64 n, .slice ao l.length cap]] w fun e w' => Below w.heap.size w w' ∧ e = .returned (.tuple #[.int .i64 0, .int .i64 (countErr n l)]) := by
  have hA := hG.arcs
  have hm : l.length ≤ maxLen := hG.len
  have hc1 := CheckLong_any n ao cap l _ hm (hA.alloc (.cells #[.int .i64 n, .slice ao l.length cap] 34))
  unfold maxLen at hm
  clear hA hG
  by_cases hg : graphErr n (-10000) l = 0
  · obtain ⟨⟨hn1, hn2⟩, hlen, harcs⟩ := err_ok hg
    have hc : 8 < n ∨ 30 < l.length := Decidable.byContradiction fun hc => he (countErr_mk hg (by omega) (by omega))
    have e2 : countErr n l = 2 := by unfold countErr; rw [if_pos hg, if_pos hc]
    rw [e2]
    rw [hg] at hc1
    have hne : ((0 : Int) != 0) = false := rfl
    clear he hg harcs e2
    go_enter Try.func11, Try.ntmps11
    go_wp2_with fail
    refine hc1.mono ?_
    rintro e w1 ⟨rfl, hb1⟩
    have hz := hb1.size
    simp only [World.size_alloc] at hz hb1
    have HB1 : Hid (Below (w.heap.size + 1) (w.alloc (.cells #[.int .i64 n, .slice ao l.length cap] 34)) w1) := hb1
    have hbx : w1.heap[w.heap.size]? = some (.cells #[.int .i64 n, .slice ao l.length cap] 34 (0, 0)) := (hb1.block w.heap.size (by omega)).trans (blk_new w _)
    obtain ⟨x0, x1, xf0, xf1⟩ := blk2 hbx
    clear hb1 hc1 hbx
    by_cases h8 : 8 < n
    · clear hc
      go_wp2_with fail
      go_ret2
      exact ⟨below_in HB1.out (by omega), rfl⟩
    · have h30 : (30 : Int) < (l.length : Int) := by omega
      clear hc
      go_wp2_with fail
      go_ret2
      exact ⟨below_in HB1.out (by omega), rfl⟩
  · have e2 : countErr n l = graphErr n (-10000) l := by unfold countErr; rw [if_neg hg]
    rw [e2]
    have hne : (graphErr n (-10000) l != 0) = true := by simpa using hg
    clear he hg e2
    generalize graphErr n (-10000) l = E at *
    go_enter Try.func11, Try.ntmps11
    go_wp2_with fail
    refine hc1.mono ?_
    rintro e w1 ⟨rfl, hb1⟩
    have hz := hb1.size
    simp only [World.size_alloc] at hz hb1
    have HB1 : Hid (Below (w.heap.size + 1) (w.alloc (.cells #[.int .i64 n, .slice ao l.length cap] 34)) w1) := hb1
    clear hb1 hc1
    go_wp2_with fail
    go_ret2
    exact ⟨below_in HB1.out (by omega), rfl⟩

end Go.Proofs.Ytamckjbddnocpaa
