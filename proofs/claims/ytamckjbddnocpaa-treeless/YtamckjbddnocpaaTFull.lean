/- Contract of the document's own full: each pair of n nodes an arc. -/
import Derived.Test.YtamckjbddnocpaaCayM
import Derived.Test.YtamckjbddnocpaaOwns
import Derived.Test.YtamckjbddnocpaaFlat
import Derived.Test.YtamckjbddnocpaaMk
import Derived.Test.YtamckjbddnocpaaWalkC
namespace Go.Proofs.Ytamckjbddnocpaa
open Go.RowKit
set_option linter.unusedVariables false

/-- the arcs up to node k, and j of its own -/
def fullTo (k j : Nat) : List Arc3 := fullL k ++ (List.range j).map fun (i : Nat) => ((i : Int), (k : Int), 0)

theorem fullTo_zero (k : Nat) : fullTo k 0 = fullL k := by simp [fullTo]
theorem fullTo_all (k : Nat) : fullTo k k = fullL (k + 1) := by
  unfold fullTo fullL
  rw [List.range_succ, List.flatMap_append]; simp
theorem fullTo_succ (k j : Nat) : fullTo k (j + 1) = fullTo k j ++ [((j : Int), (k : Int), 0)] := by
  unfold fullTo
  rw [List.range_succ, List.map_append, ← List.append_assoc]; rfl
theorem fullL_le : ∀ k, k < 9 → (fullL k).length ≤ 28 := by decide +kernel
theorem fullTo_le {k j : Nat} (hk : k < 9) (hj : j ≤ k) : (fullTo k j).length ≤ 36 := by
  unfold fullTo
  have := fullL_le k hk
  simp only [List.length_append, List.length_map, List.length_range]; omega

set_option maxHeartbeats 1600000 in
theorem full_any (n : Nat) (h8 : n ≤ 8) (w : World) :
    Calls Try.prog 14 #[.int .i64 (n : Int)] w fun e w' => Below w.heap.size w w' ∧
      ∃ ao cap, e = .returned (.agg #[.int .i64 (n : Int), .slice ao (fullL n).length cap]) ∧ GraphIn w' ao cap (fullL n) := by
  obtain ⟨W, hW⟩ : ∃ W : World, W = w.alloc (.cells #[.int .i64 0, .slice none 0 0] 34) := ⟨_, rfl⟩
  have hWz : W.heap.size = w.heap.size + 1 := by rw [hW]; simp
  have HB0 : Hid (Below w.heap.size w W) := by rw [hW]; exact below_one w _
  have hy0 : W.heap[w.heap.size]? = some (.cells #[.int .i64 0, .slice none 0 0] 34 (0, 0)) := by rw [hW]; exact blk_new _ _
  obtain ⟨i0, hi, hz0, hz1, hz2⟩ := info_parts infoArc
  go_enter Try.func14, Try.ntmps14
  go_wp2_with fail
  rw [← hW, ← hWz]
  have HWz : Hid (W.heap.size = w.heap.size + 1) := hWz
  have hwW : w.heap.size < W.heap.size := by omega
  have HY0 : Hid (W.heap[w.heap.size]? = some (.cells #[.int .i64 0, .slice none 0 0] 34 (0, 0))) := hy0
  clear hW hWz hy0
  go_loopw [9] (fun i wr => ∃ k : Nat, k ≤ n ∧ i = .int .i64 k ∧ (∃ v, wr.heap[W.heap.size]? = some (.cells #[.int .i64 (n : Int), v] 34 (0, 0)) ∧ wr.ownsRow W.heap.size 39 3 v (fullL k).length (flat (fullL k))) ∧ Below W.heap.size W wr) (fun i _ => n - (intOf i).toNat)
  case atStart => exact ⟨0, Nat.zero_le _, rfl, ⟨_, blk_new _ _, World.ownsRow_nil _ _ _ _⟩, below_one _ _⟩
  case round =>
    obtain ⟨k, hk, rfl, ⟨v0, hblk0, hown0⟩, hB0⟩ := hrel
    by_cases hkn : k < n
    · have HBk0 : Hid (wr.heap[W.heap.size]? = some (.cells #[.int .i64 (n : Int), v0] 34 (0, 0))) := hblk0
      have HOw0 : Hid (wr.ownsRow W.heap.size 39 3 v0 (fullTo k 0).length (flat (fullTo k 0))) := by rw [fullTo_zero]; exact hown0
      have HB00 : Hid (Below W.heap.size W wr) := hB0
      clear hblk0 hown0 hB0
      go_wp2_with fail
      go_loopw [13] (fun i wr => ∃ j : Nat, j ≤ k ∧ i = .int .i64 j ∧ (∃ v, wr.heap[W.heap.size]? = some (.cells #[.int .i64 (n : Int), v] 34 (0, 0)) ∧ wr.ownsRow W.heap.size 39 3 v (fullTo k j).length (flat (fullTo k j))) ∧ Below W.heap.size W wr) (fun i _ => k - (intOf i).toNat)
      case atStart => exact ⟨0, Nat.zero_le _, rfl, ⟨_, HBk0.out, HOw0.out⟩, HB00.out⟩
      case round =>
        obtain ⟨j, hj, rfl, ⟨v, hblk, hown⟩, hB⟩ := hrel
        clear HBk0 HOw0 HB00
        have hz := hB.size
        have hpl : W.heap.size < wr.heap.size := (Array.getElem?_eq_some_iff.1 hblk).1
        by_cases hlt : j < k
        · have HS : Hid (flat (fullTo k (j + 1)) = flat (fullTo k j) ++ [.int .i64 (j : Int), .int .i64 (k : Int), .int .i64 0]) := by
            rw [Hid, fullTo_succ, flat_append]; rfl
          have HL1 : Hid ((fullTo k (j + 1)).length = (fullTo k j).length + 1) := by rw [Hid, fullTo_succ]; simp
          have hle := fullTo_le (k := k) (j := j) (by omega) (by omega)
          obtain ⟨ao3, cap3, rfl, _, _, _, _⟩ := owns_arcs hown
          obtain ⟨s0, s1, g0, g1⟩ := blk2 hblk
          have HBk : Hid (wr.heap[W.heap.size]? = some (.cells #[.int .i64 (n : Int), .slice ao3 (fullTo k j).length cap3] 34 (0, 0))) := hblk
          clear hblk
          go_wp2_with (at_builtin; refine wpList_append_own _ rfl (.tmp 17) (.tmp 21) 32 rfl W.heap.size 39 i0 _ 3 24 Try.underlying32 hi hz0 hz1 hz2 rfl (by decide) _ _ _ rfl (hown.alloc _) ⟨wr.heap.size, 0, none⟩ 1 1 [.int .i64 (j : Int), .int .i64 (k : Int), .int .i64 0] rfl rfl ?c1 ?c2 ?c3 ?c4 ?c5 ?_)
          case c1 =>
            intro j u hj
            match j, hj with
            | 0, hj => simp at hj; subst hj; simp [Addr.add]
            | 1, hj => simp at hj; subst hj; simp [Addr.add]
            | 2, hj => simp at hj; subst hj; simp [Addr.add]
          case c2 => intro u hu; simp at hu; rcases hu with rfl | rfl | rfl <;> rfl
          case c3 => unfold maxLen; omega
          case c4 => omega
          case c5 => simp; omega
          · intro v' w1 hown' hgrow _
            rw [← HS.out] at hown'
            have hown3 := hown'
            rw [← HL1.out] at hown3
            obtain ⟨ao4, cap4, rfl, _, _, _, _⟩ := owns_arcs hown3
            have hne := owns_ne hown HBk.out (by decide)
            have hB' : Below W.heap.size W w1 := (hB.alloc hz _).grown hgrow (by simp; omega) (by
              intro g hg
              rcases hown.2 with ⟨e, _⟩ | ⟨g', _, _, e, hB0, _⟩
              · rw [e] at hg; cases hg
              · rw [e] at hg; simp only [Value.ownBlock, Option.some.injEq] at hg; omega)
            have hbk1 : w1.heap[W.heap.size]? = some (.cells #[.int .i64 (n : Int), .slice ao3 (fullTo k j).length cap3] 34 (0, 0)) := by
              rw [hgrow.block W.heap.size (by simp; omega) ?_]
              · exact blk_old HBk.out _
              · intro e
                rcases hown.2 with ⟨e', _⟩ | ⟨g', _, _, e', hB0, _⟩
                · rw [e'] at e; cases e
                · have := hne g' _ e'
                  rw [e'] at e
                  simp only [Value.ownBlock, Option.some.injEq] at e
                  exact this e.symm
            have hne2 := owns_ne hown3 hbk1 (by decide)
            obtain ⟨s0, s1, g0, g1⟩ := blk2 hbk1
            have HBn : Hid ((w1.setCell ⟨W.heap.size, 1, none⟩ (.slice ao4 (fullTo k (j + 1)).length cap4)).heap[W.heap.size]? = some (.cells #[.int .i64 (n : Int), .slice ao4 (fullTo k (j + 1)).length cap4] 34 (0, 0))) := blk2_set1 hbk1 _
            have HOn : Hid ((w1.setCell ⟨W.heap.size, 1, none⟩ (.slice ao4 (fullTo k (j + 1)).length cap4)).ownsRow W.heap.size 39 3 (.slice ao4 (fullTo k (j + 1)).length cap4) (fullTo k (j + 1)).length (flat (fullTo k (j + 1)))) := owns_set hown3 (fun _ _ g c e => hne2 g c e) _
            clear hgrow hown' hown3 hne hne2 hbk1 hown
            go_wp2_with fail
            go_roundw
            case rel => exact ⟨j + 1, by omega, by go_num, ⟨_, HBn.out, HOn.out⟩, hB'.setCell (Nat.le_refl _) _⟩
            case measure => simp [intOf]; omega
        · have hjk : j = k := by omega
          subst hjk
          rw [fullTo_all] at hown
          have HBk : Hid (wr.heap[W.heap.size]? = some (.cells #[.int .i64 (n : Int), v] 34 (0, 0))) := hblk
          have HOw : Hid (wr.ownsRow W.heap.size 39 3 v (fullL (j + 1)).length (flat (fullL (j + 1)))) := hown
          have HBB : Hid (Below W.heap.size W wr) := hB
          clear hblk hown hB
          go_wp2_with fail
          go_roundw
          case rel => exact ⟨j + 1, by omega, by go_num, ⟨_, HBk.out, HOw.out⟩, HBB.out⟩
          case measure => simp [intOf]; omega
    · have hkk : k = n := by omega
      subst hkk
      obtain ⟨ao3, cap3, rfl, hA3, hfr3, hc3, hm3⟩ := owns_arcs hown0
      obtain ⟨s0, s1, e0, e1⟩ := blk2 hblk0
      have y1 := blk_below hB0 HY0.out hwW
      obtain ⟨t0, t1, g0, g1⟩ := blk2 y1
      have hz := hB0.size
      have hpl : W.heap.size < wr.heap.size := (Array.getElem?_eq_some_iff.1 hblk0).1
      have hnil : ao3 = none → (fullL k).length = 0 ∧ cap3 = 0 := fun e => by
        rcases hown0.2 with ⟨e', hn⟩ | ⟨g', _, _, e', _⟩
        · rw [hn] at e'; cases e'; exact ⟨hn, rfl⟩
        · rw [e] at e'; cases e'
      have HA3 : Hid (ArcsAt wr ao3 (fullL k)) := hA3
      have HF3 : Hid (∀ b off, ao3 = some ⟨b, off, none⟩ → W.heap.size ≤ b) := hfr3
      have HBr : Hid (Below W.heap.size W wr) := hB0
      have HNil : Hid (ao3 = none → (fullL k).length = 0 ∧ cap3 = 0) := hnil
      clear hA3 hfr3 hB0 hown0 hnil hblk0 y1
      go_wp2_with fail
      refine bodyPost_ret (v := .agg #[.int .i64 (k : Int), .slice ao3 (fullL k).length cap3]) (by simp [results, Try.results14, go_sem, t0, t1]) rfl ⟨?_, ao3, cap3, rfl, ?_, hc3, hm3, HNil.out⟩
      · exact ((HB0.out.trans (HBr.out.mono (by omega))).setCell (by simp) _).setCell (by simp) _
      · exact (HA3.out.setElse (fun b off e => by have := HF3.out b off e; simp; omega) _).setElse (fun b off e => by have := HF3.out b off e; simp; omega) _

end Go.Proofs.Ytamckjbddnocpaa
