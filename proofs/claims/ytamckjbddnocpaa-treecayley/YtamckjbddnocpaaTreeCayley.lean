/- The law TreeCayley, walked. -/
import Derived.Test.YtamckjbddnocpaaTCnt
import Derived.Test.YtamckjbddnocpaaTFull
import Derived.Test.YtamckjbddnocpaaRest
import Derived.Test.YtamckjbddnocpaaLits
import Derived.Test.YtamckjbddnocpaaAppJoin
import Derived.Deep.RegionLaw
namespace Go.Proofs.Ytamckjbddnocpaa
open Go.RowKit
set_option linter.unusedVariables false

theorem full_nodes : ∀ n, n < 9 → ∀ a ∈ fullL n, (0 ≤ a.1 ∧ a.1 < (n : Int)) ∧ (0 ≤ a.2.1 ∧ a.2.1 < (n : Int)) ∧ -10000 ≤ a.2.2 ∧ a.2.2 ≤ 10000 := by decide +kernel
theorem ring_nodes : ∀ n, n < 9 → ∀ a ∈ ringL n, (0 ≤ a.1 ∧ a.1 < (n : Int)) ∧ (0 ≤ a.2.1 ∧ a.2.1 < (n : Int)) ∧ -10000 ≤ a.2.2 ∧ a.2.2 ≤ 10000 := by decide +kernel
theorem ringL_len (n : Nat) : (ringL n).length = n := by simp [ringL]

theorem full_ok {n : Nat} (h1 : 1 ≤ n) (h8 : n ≤ 8) : countErr n (fullL n) = 0 := by
  have := fullL_le n (by omega)
  exact countErr_mk (err_mk ⟨by omega, by omega, full_nodes n (by omega)⟩) (by omega) (by omega)
theorem ring_ok {n : Nat} (h1 : 1 ≤ n) (h8 : n ≤ 8) : countErr n (ringL n) = 0 :=
  countErr_mk (err_mk ⟨by omega, by rw [ringL_len]; omega, ring_nodes n (by omega)⟩) (by omega) (by rw [ringL_len]; omega)

theorem full_trees {n : Nat} (h2 : 2 ≤ n) (h8 : n ≤ 8) : trees n (fullL n) = (n : Int) ^ (n - 2) := by
  rw [trees_det (by omega) fun a ha => ⟨(full_nodes n (by omega) a ha).1, (full_nodes n (by omega) a ha).2.1⟩, ← full_det n (by omega) h2]
  exact det_congr fun i j hi hj => full_lap n (by omega) i hi j hj
theorem ring_trees {n : Nat} (h2 : 2 ≤ n) (h8 : n ≤ 8) : trees n (ringL n) = (n : Int) := by
  rw [trees_det (by omega) fun a ha => ⟨(ring_nodes n (by omega) a ha).1, (ring_nodes n (by omega) a ha).2.1⟩]
  refine (det_congr fun i j hi hj => ring_lap n (by omega) h2 i hi j hj).trans (ring_det n (by omega) h2)

theorem line_trees : trees 3 lineL = 1 := by decide +kernel
theorem line_ok : countErr 3 lineL = 0 := by decide +kernel
theorem pow_le : ∀ n : Nat, n < 9 → ∀ j : Nat, j < 7 → 0 ≤ (n : Int) ^ j ∧ (n : Int) ^ j ≤ 262144 := by decide +kernel

theorem arcs_some {w : World} {ao : Option Addr} {l : List Arc3} (h : ArcsAt w ao l) (hl : 0 < l.length) : ao ≠ none := by
  obtain ⟨b, off, e, _⟩ := h 0 hl
  rw [e]; exact fun h => by cases h

set_option maxHeartbeats 2000000 in
theorem TreeCayley_walk (n : Int) (w : World) :
    Calls Try.prog 4 #[.int .i64 n] w fun e w' => e = .returned (.bool true) ∧ Below w.heap.size w w' := by
  have hne : ((0 : Int) != 0) = false := rfl
  have hne1 : ((1 : Int) != 1) = false := rfl
  have heq : ((0 : Int) == 0) = true := rfl
  obtain ⟨r, hr, hr7⟩ : ∃ r : Nat, restV n 7 = (r : Int) ∧ r < 7 := by
    have := restV_in n (show 0 < 7 by omega)
    exact ⟨(restV n 7).toNat, by omega, by omega⟩
  have hrest := rest_any n 7 (by omega) (by omega)
  rw [hr] at hrest
  obtain ⟨i0, hi, hz0, hz1, hz2⟩ := info_parts infoArc
  go_enter Try.func4, Try.ntmps4
  go_wp2_with fail
  refine (line_any w).mono ?_
  rintro e w1 ⟨hb1, ao1, cap1, rfl, hA1, hc1, hm1⟩
  have hcnt := Count_ok 3 ao1 cap1 lineL w1 ⟨hA1, hc1, hm1, fun e => absurd e (arcs_some hA1 (by decide))⟩ line_ok
  rw [line_trees, show lineL.length = 2 from rfl, show ((3 : Nat) : Int) = 3 from rfl] at hcnt
  have HB1 : Hid (Below w.heap.size w w1) := hb1
  have hz1' := hb1.size
  clear hb1 hA1
  go_wp2_with fail
  refine hcnt.mono ?_
  rintro e w2 ⟨hb2, rfl⟩
  have HB2 : Hid (Below w.heap.size w w2) := HB1.out.trans (hb2.mono (by omega))
  have hz2' := hb2.size
  clear hb2 hcnt HB1
  go_wp2_with fail
  refine (hrest w2).mono ?_
  rintro e w3 ⟨rfl, hw3⟩
  subst hw3
  have hfull := full_any (r + 2) (by omega) w3
  rw [show ((r + 2 : Nat) : Int) = 2 + (r : Int) from by omega] at hfull
  go_wp2_with fail
  refine hfull.mono ?_
  rintro e w4 ⟨hb4, ao4, cap4, rfl, hG4⟩
  have hcnt := Count_ok (r + 2) ao4 cap4 (fullL (r + 2)) w4 hG4 (full_ok (by omega) (by omega))
  rw [full_trees (by omega) (by omega), show ((r + 2 : Nat) : Int) = 2 + (r : Int) from by omega, Nat.add_sub_cancel] at hcnt
  have HB4 : Hid (Below w.heap.size w w4) := HB2.out.trans (hb4.mono (by omega))
  have hz4 := hb4.size
  clear hb4 hfull HB2 hG4
  go_wp2_with fail
  refine hcnt.mono ?_
  rintro e w5 ⟨hb5, rfl⟩
  have HB5 : Hid (Below w.heap.size w w5) := HB4.out.trans (hb5.mono (by omega))
  have hz5 := hb5.size
  clear hb5 hcnt HB4
  have HP : Hid (∀ j, j < 7 → 0 ≤ (2 + (r : Int)) ^ j ∧ (2 + (r : Int)) ^ j ≤ 262144) := fun j hj => by
    have := pow_le (r + 2) (by omega) j hj
    rwa [show ((r + 2 : Nat) : Int) = 2 + (r : Int) from by omega] at this
  go_wp2_with fail
  go_loop [7, 34] (fun s i => ∃ j : Nat, j ≤ r ∧ i = .int .i64 j ∧ s = .int .i64 ((2 + (r : Int)) ^ j)) (fun _ i => r - (intOf i).toNat)
  case atStart => exact ⟨0, Nat.zero_le _, rfl, by simp⟩
  case round =>
    obtain ⟨j, hj, rfl, rfl⟩ := hrel
    by_cases hlt : j < r
    · have p1 := HP.out j (by omega)
      have p2 := HP.out (j + 1) (by omega)
      rw [Int.pow_succ] at p2
      have HS : Hid ((2 + (r : Int)) ^ (j + 1) = (2 + (r : Int)) ^ j * (2 + (r : Int))) := Int.pow_succ ..
      generalize (2 + (r : Int)) ^ j = y at *
      go_wp2_with fail
      go_round
      case rel => exact ⟨j + 1, by omega, by go_num, by rw [HS.out]⟩
      case measure => simp [intOf]; omega
    · have hjr : j = r := by omega
      subst hjr
      go_wp2_with fail
      go_loopw [43] (fun i wr => ∃ k : Nat, k ≤ j + 2 ∧ i = .int .i64 k ∧ (∃ v, wr.heap[w5.heap.size]? = some (.cells #[.int .i64 (2 + (j : Int)), v] 34 (0, 0)) ∧ wr.ownsRow w5.heap.size 39 3 v k (flat ((ringL (j + 2)).take k))) ∧ Below w5.heap.size w5 wr) (fun i _ => j + 2 - (intOf i).toNat)
      case atStart => exact ⟨0, Nat.zero_le _, rfl, ⟨_, blk_new _ _, World.ownsRow_nil _ _ _ _⟩, below_one _ _⟩
      case round =>
        obtain ⟨k, hk, rfl, ⟨v, hblk, hown⟩, hB⟩ := hrel
        have hz := hB.size
        have hpl : w5.heap.size < wr.heap.size := (Array.getElem?_eq_some_iff.1 hblk).1
        obtain ⟨ao6, cap6, rfl⟩ := owns_shape hown
        obtain ⟨s0, s1, g0, g1⟩ := blk2 hblk
        by_cases hlt : k < j + 2
        · have HBk : Hid (wr.heap[w5.heap.size]? = some (.cells #[.int .i64 (2 + (j : Int)), .slice ao6 k cap6] 34 (0, 0))) := hblk
          have hj0 : ¬ (2 + (j : Int)) = 0 := by omega
          obtain ⟨X, hX⟩ : ∃ X : Int, X = (IntKind.i64.wrap ((k : Int) + 1)).tmod (2 + (j : Int)) := ⟨_, rfl⟩
          have HE : Hid ((ringL (j + 2)).take (k + 1) = (ringL (j + 2)).take k ++ [((k : Int), X, 0)]) := by
            rw [Hid, take_snoc3 _ _ (by rw [ringL_len]; exact hlt), at3_lt _ _ (by rw [ringL_len]; exact hlt)]
            congr 2
            have e1 : IntKind.i64.wrap ((k : Int) + 1) = (k : Int) + 1 := by rw [IntKind.wrap_i64]; omega
            rw [hX, e1, Int.tmod_eq_emod_of_nonneg (by omega), show 2 + (j : Int) = ((j + 2 : Nat) : Int) from by omega]
            simp [ringL]
          have HS : Hid (flat ((ringL (j + 2)).take (k + 1)) = flat ((ringL (j + 2)).take k) ++ [.int .i64 (k : Int), .int .i64 X, .int .i64 0]) := by
            rw [Hid, HE.out, flat_append]; rfl
          have HO : Hid ((wr.alloc (.cells #[.int .i64 (k : Int), .int .i64 X, .int .i64 0] 39)).drew.ownsRow w5.heap.size 39 3 (.slice ao6 k cap6) k (flat ((ringL (j + 2)).take k))) := (hown.alloc _).drew
          have HBl : Hid (Below w5.heap.size w5 (wr.alloc (.cells #[.int .i64 (k : Int), .int .i64 X, .int .i64 0] 39)).drew) := (hB.alloc hz _).drew
          have HC1 : Hid (∀ i u, [Value.int .i64 (k : Int), .int .i64 X, .int .i64 0][i]? = some u → (wr.alloc (.cells #[.int .i64 (k : Int), .int .i64 X, .int .i64 0] 39)).drew.cell? ((⟨wr.heap.size, 0, none⟩ : Addr).add i) = some u) := news3 (t := 39) (blk_drew (blk_new _ _))
          have HC2 : Hid (∀ u ∈ [Value.int .i64 (k : Int), .int .i64 X, .int .i64 0], u.oneCell' = true) := by intro u hu; simp at hu; rcases hu with rfl | rfl | rfl <;> rfl
          have HK : Hid (k + 1 ≤ maxLen) := by unfold Hid maxLen; omega
          have HBk2 : Hid ((wr.alloc (.cells #[.int .i64 (k : Int), .int .i64 X, .int .i64 0] 39)).drew.heap[w5.heap.size]? = some (.cells #[.int .i64 (2 + (j : Int)), .slice ao6 k cap6] 34 (0, 0))) := blk_drew (blk_old hblk _)
          rw [hX] at HO HBl HC1 HC2 HS HBk2
          clear hblk HP HE hX
          go_wp2_with fail
          go_region_law (refine step_append_join (w0 := w5) rfl (.tmp 47) (.tmp 54) 32 rfl 39 i0 _ 3 24 Try.underlying32 hi hz0 hz1 hz2 rfl (by decide) (.slice ao6 k cap6) k (flat ((ringL (j + 2)).take k)) (by simp [Act.eval]) HO.out HBl.out ⟨wr.heap.size, 0, none⟩ 1 1 [.int .i64 (k : Int), .int .i64 ((IntKind.i64.wrap ((k : Int) + 1)).tmod (2 + (j : Int))), .int .i64 0] (by simp [Act.eval]) rfl HC1.out HC2.out HK.out (by omega) ?_; intro ao8 cap8 w8 hown8 hb8 hk8; have hblk8 := hk8 _ _ _ _ (by decide) HBk2.out; have hz8 := hb8.size; have hp8 : w5.heap.size < w8.heap.size := (Array.getElem?_eq_some_iff.1 hblk8).1; obtain ⟨t0, t1, e0, e1⟩ := blk2 hblk8; have HO8 : Hid (w8.ownsRow w5.heap.size 39 3 (.slice ao8 (k + 1) cap8) (k + 1) (flat ((ringL (j + 2)).take (k + 1)))) := (by rw [HS.out]; exact hown8); have HB8 : Hid (Below w5.heap.size w5 w8) := hb8; have HK8 : Hid (w8.heap[w5.heap.size]? = some (.cells #[.int .i64 (2 + (j : Int)), .slice ao6 k cap6] 34 (0, 0))) := hblk8; clear hown8 hk8 hb8 hblk8)
          all_goals
            have HBn : Hid ((w8.setCell ⟨w5.heap.size, 1, none⟩ (.slice ao8 (k + 1) cap8)).heap[w5.heap.size]? = some (.cells #[.int .i64 (2 + (j : Int)), .slice ao8 (k + 1) cap8] 34 (0, 0))) := blk2_set1 HK8.out _
            have HOn : Hid ((w8.setCell ⟨w5.heap.size, 1, none⟩ (.slice ao8 (k + 1) cap8)).ownsRow w5.heap.size 39 3 (.slice ao8 (k + 1) cap8) (k + 1) (flat ((ringL (j + 2)).take (k + 1)))) := owns_set HO8.out (fun _ _ g c e => owns_ne HO8.out HK8.out (by decide) g c e) _
            go_wp2_with fail
            go_roundw
            case rel => exact ⟨k + 1, by omega, by go_num, ⟨_, HBn.out, HOn.out⟩, HB8.out.setCell (Nat.le_refl _) _⟩
            case measure => simp [intOf]; omega
        · have hkj : k = j + 2 := by omega
          subst hkj
          have htk : (ringL (j + 2)).take (j + 2) = ringL (j + 2) := List.take_of_length_le (by rw [ringL_len]; exact Nat.le_refl _)
          rw [htk] at hown
          have hown2 : wr.ownsRow w5.heap.size 39 3 (.slice ao6 (j + 2) cap6) (ringL (j + 2)).length (flat (ringL (j + 2))) := by rw [ringL_len]; exact hown
          obtain ⟨_, _, e3, hA3, hfr3, hc3, hm3⟩ := owns_arcs hown2
          rw [ringL_len] at e3 hc3
          cases e3
          have hcnt := Count_ok (j + 2) ao6 cap6 (ringL (j + 2)) wr ⟨hA3, by rw [ringL_len]; exact hc3, hm3, fun e => absurd e (arcs_some hA3 (by rw [ringL_len]; omega))⟩ (ring_ok (by omega) (by omega))
          rw [ring_trees (by omega) (by omega), ringL_len, show ((j + 2 : Nat) : Int) = 2 + (j : Int) from by omega] at hcnt
          have HB6 : Hid (Below w.heap.size w wr) := HB5.out.trans (hB.mono (by omega))
          clear hown hown2 hA3 hfr3 hc3 hm3 hB htk hblk HP
          go_wp2_with fail
          refine hcnt.mono ?_
          rintro e w9 ⟨hb9, rfl⟩
          have HB9 : Hid (Below w.heap.size w w9) := HB6.out.trans (hb9.mono (by omega))
          clear hb9 hcnt HB6
          have heq2 : ((2 + (j : Int)) == (2 + (j : Int))) = true := by simp
          have heq3 : ((2 + (j : Int)) ^ j == (2 + (j : Int)) ^ j) = true := by simp
          go_wp2_with fail
          go_ret
          exact ⟨rfl, HB9.out⟩

end Go.Proofs.Ytamckjbddnocpaa
