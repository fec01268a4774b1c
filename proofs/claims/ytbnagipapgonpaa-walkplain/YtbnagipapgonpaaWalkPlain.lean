/- The law WalkPlain, walked, out of the contract of Path. -/
import Derived.Test.YtbnagipapgonpaaWalks
import Derived.Test.YtbnagipapgonpaaPMath
import Derived.Test.YtbnagipapgonpaaContains
import Derived.Test.YtbnagipapgonpaaJoined
namespace Go.Proofs.Ytbnagipapgonpaa
open Go.RowKit
set_option linter.unusedVariables false

theorem owns_ints' {w : World} {B : Nat} {t : TypeId} {v : Value} {n : Nat} {L : List Int} (h : w.ownsRow B t 1 v n (flati L)) (hn : L.length = n) :
    ∃ ao cap, v = .slice ao n cap ∧ IntsAt w ao L ∧ (∀ b off, ao = some ⟨b, off, none⟩ → B ≤ b) ∧ n ≤ cap ∧ cap ≤ maxLen := by
  subst hn; exact owns_ints h

theorem path_line {P : List Int} (h : Chain lineL 0 P 2) (hm : ∀ k, Wk lineL 0 k 2 → P.length ≤ k) : P = [0, 1] := by
  have h2 := hm 2 ⟨(1, 2, 3), by simp [lineL], ⟨(0, 1, 4), by simp [lineL], rfl, rfl⟩, rfl⟩
  have two : lineL.length = 2 := rfl
  match P, h, h2 with
  | [], h, _ => have : (0 : Int) = 2 := h; omega
  | [a], ⟨j, e, hj, h1, h3⟩, _ =>
    rw [two] at hj
    rcases (by omega : j = 0 ∨ j = 1) with rfl | rfl
    · have : (1 : Int) = 2 := h3; omega
    · have : (1 : Int) = 0 := h1; omega
  | [a, b], ⟨j, e, hj, h1, i, e2, hi, h3, h4⟩, _ =>
    rw [two] at hj hi
    rcases (by omega : j = 0 ∨ j = 1) with rfl | rfl
    · rcases (by omega : i = 0 ∨ i = 1) with rfl | rfl
      · have : (0 : Int) = 1 := h3; omega
      · subst e; subst e2; rfl
    · have : (1 : Int) = 0 := h1; omega
  | a :: b :: c :: r, _, h2 => simp at h2

set_option maxHeartbeats 2000000 in
set_option maxRecDepth 100000 in
theorem WalkPlain_any (hC : PathC) (n s t : Int) (ao : Option Addr) (cap : Nat) (l : List Arc3) (w : World) (hG : GraphIn w ao cap l) :
    Calls Try.prog 7 #[.agg #[.int .i64 n, .slice ao l.length cap], .int .i64 s, .int .i64 t] w fun e w' => e = .returned (.bool true) ∧ Below w.heap.size w w' := by
  have hm := hG.len
  have hG0 := hG.alloc (.cells #[.int .i64 n, .slice ao l.length cap] 24)
  have x0 := blk_new w (.cells #[.int .i64 n, .slice ao l.length cap] 24)
  have h00 : ((0 : Int) != 0) = false := rfl
  go_enter Try.func7, Try.ntmps7
  go_wp2_with fail
  refine (line_any _).mono ?_
  rintro e w1 ⟨hb1, ao1, cap1, rfl, hA1, hc1, hm1⟩
  simp only [World.size_alloc] at hb1
  have hz1 := hb1.size
  simp only [World.size_alloc] at hz1
  go_wp2_with fail
  refine (hC 3 0 2 ao1 cap1 lineL w1 (line_in hA1 hc1 hm1)).mono ?_
  rintro e w2 ⟨hb2, ao2, cap2, P, err, rfl, hI2, _, _, _, _, _, hy2⟩
  obtain ⟨rfl, hch, hmin⟩ := hy2 (by decide) (by decide) ⟨2, (1, 2, 3), by simp [lineL], ⟨(0, 1, 4), by simp [lineL], rfl, rfl⟩, rfl⟩
  have hP := path_line hch hmin
  subst hP
  have hz2 := hb2.size
  have x2 := blk_below hb2 (blk_below hb1 x0 (by omega)) (by omega)
  have hG2 := (hG0.below hb1 (by simp)).below hb2 (by omega)
  have hbb2 := below_in (hb1.trans (hb2.mono (by omega))) (by omega)
  clear hb1 hb2 x0 hG0 hA1 hy2 hch hmin
  go_wp2_with fail
  refine (equalIntsB ao2 _ cap2 2 [0, 1] [0, 1] _ (by decide) (by decide) (hI2.alloc _) (ints_new w2 [0, 1] 3)).mono ?_
  rintro e w3 ⟨rfl, hb3⟩
  rw [decide_eq_true (rfl : ([0, 1] : List Int) = [0, 1])]
  simp only [World.size_alloc] at hb3
  have hz3 := hb3.size
  simp only [World.size_alloc] at hz3
  have x3 := blk_below hb3 (blk_old x2 _) (by omega)
  have hG3 := (hG2.alloc _).below hb3 (by simp)
  have hbb3 := hbb2.trans (((below_one w2 _).trans (hb3.mono (by omega))).mono (by omega))
  clear hb3 x2 hG2 hbb2 hI2
  obtain ⟨r0, r1, f0, f1⟩ := blk2 x3
  go_wp2_with fail
  refine (hC n s t ao cap l w3 hG3).mono ?_
  rintro e w4 ⟨hb4, ao4, cap4, P, err, rfl, hI4, hPm, hn4, hf4, ht4, hw4, hy4⟩
  have hz4 := hb4.size
  have x4 := blk_below hb4 x3 (by omega)
  have hG4 := hG3.below hb4 (by omega)
  have hbb4 := hbb3.trans (hb4.mono (by omega))
  clear hb4 x3 hG3 hbb3 r0 r1 f0 f1
  by_cases he : err = 0
  · subst he
    have hfe : farErr n l s = 0 := by
      by_cases c : farErr n l s = 0
      · exact c
      · have := hf4 c; exact this.symm
    have htn : 0 ≤ t ∧ t < n := by
      by_cases c : 0 ≤ t ∧ t < n
      · exact c
      · have := ht4 hfe c; omega
    have hex : ∃ k, Wk l s k t := by
      by_cases c : ∃ k, Wk l s k t
      · exact c
      · have := hw4 hfe htn (fun k hk => c ⟨k, hk⟩); omega
    obtain ⟨_, hch, hmin⟩ := hy4 hfe htn hex
    obtain ⟨hE, hs0, hs1⟩ := farErr_ok hfe
    obtain ⟨⟨hn1, hn2⟩, hlen, hnodes⟩ := err_ok hE
    have hPl : P.length < 12 := by
      obtain ⟨N, rfl⟩ := Int.eq_ofNat_of_zero_le (show 0 ≤ n by omega)
      obtain ⟨t', rfl⟩ := Int.eq_ofNat_of_zero_le htn.1
      have := short_lt (N := N) (t := t') (fun a ha => ⟨(hnodes a ha).1, (hnodes a ha).2.1⟩) (by omega) hch.walk hmin
      omega
    have HCh : Hid (Chain l s P t) := hch
    have HMin : Hid (∀ k, Wk l s k t → P.length ≤ k) := hmin
    obtain ⟨i0, hi, hz0, hz1', hz2'⟩ := info_parts infoInt
    have HX4 : Hid (w4.heap[w.heap.size]? = some (.cells #[.int .i64 n, .slice ao l.length cap] 24 (0, 0))) := x4
    have HO : Hid ((w4.alloc (.cells #[.int .i64 s] 3)).ownsRow w4.heap.size 3 1 (.slice (some ⟨w4.heap.size, 0, none⟩) 1 1) (0 + 1) (flati ((nodesOf l s P).take (0 + 1)))) :=
      ⟨by simp [flati, nodesOf], Or.inr ⟨w4.heap.size, 1, #[.int .i64 s], rfl, Nat.le_refl _, blk_new _ _, Nat.le_refl _, by unfold maxLen; omega, rfl, by simp [flati, nodesOf]⟩⟩
    clear hn4 hf4 ht4 hw4 hy4 hch hmin hex hfe hE hnodes x4
    go_wp2_with fail
    go_loopw [11, 43] (fun v i wr => ∃ k : Nat, k ≤ P.length ∧ i = .int .i64 k ∧ wr.ownsRow w4.heap.size 3 1 v (k + 1) (flati ((nodesOf l s P).take (k + 1))) ∧ Below w4.heap.size w4 wr) (fun _ i _ => P.length - (intOf i).toNat)
    case atStart => exact ⟨0, Nat.zero_le _, rfl, HO.out, below_one _ _⟩
    case round =>
      obtain ⟨k, hk, rfl, hown, hB⟩ := hrel
      have hz := hB.size
      have x5 := blk_below hB HX4.out (by omega)
      obtain ⟨r0, r1, f0, f1⟩ := blk2 x5
      have hnl := nodes_length l s P
      have htl : ((nodesOf l s P).take (k + 1)).length = k + 1 := by simp [hnl]; omega
      obtain ⟨ao5, cap5, rfl, hI5, _, _, _⟩ := owns_ints' hown htl
      by_cases hlt : k < P.length
      · obtain ⟨j, ej, hj⟩ := HCh.out.ix k hlt
        obtain ⟨bp, op, rfl, _, p0⟩ := hI4.below hB (by omega) k hlt
        rw [ej] at p0
        obtain ⟨ba, oa, rfl, _, a0, a1, a2⟩ := hG4.arcs.below hB (by omega) j hj
        have hns := nodes_succ l s P k j hlt ej
        have hsn := take_snoci (nodesOf l s P) (k + 1) (by rw [hnl]; omega)
        have HNot : Hid (decide ((at3 l j).2.1 ∈ (nodesOf l s P).take (k + 1)) = false) := by
          refine decide_eq_false fun hmem => ?_
          obtain ⟨i, hi', ei⟩ := List.getElem_of_mem hmem
          rw [htl] at hi'
          have := HCh.out.plain HMin.out (i := i) (j := k + 1) (by omega) (by omega)
          apply this
          rw [hns, ← ei, ati_lt _ _ (by rw [hnl]; omega)]
          simp
        have hCt := containsInts ao5 cap5 ((nodesOf l s P).take (k + 1)) (at3 l j).2.1 wr (by rw [htl]; unfold maxLen; omega) hI5
        rw [htl, HNot.out] at hCt
        rw [hns] at hsn
        generalize (at3 l j).2.1 = y at *
        have HCt : Hid (Calls Try.prog 22 #[.slice ao5 (k + 1) cap5, .int .i64 y] wr fun e w' => e = .returned (.bool false) ∧ w' = wr) := hCt
        have HS : Hid (flati ((nodesOf l s P).take (k + 1 + 1)) = flati ((nodesOf l s P).take (k + 1)) ++ [.int .i64 y]) := by rw [Hid, hsn, flati, List.map_append]; rfl
        have HXw : Hid (wr.heap[w.heap.size]? = some (.cells #[.int .i64 n, .slice (some ⟨ba, oa, none⟩) l.length cap] 24 (0, 0))) := x5
        have hjn : ¬ (j : Int) < 0 := by omega
        have hjl : ¬ (l.length : Int) ≤ (j : Int) := by omega
        have hwl : w.heap.size < wr.heap.size := by omega
        clear hCt hsn hns HNot htl hnl hI5 ej x5 hj
        go_wp2_with fail
        refine Calls.mono HCt.out ?_
        rintro e w5 ⟨rfl, hw5⟩
        subst hw5
        go_wp2_with (at_builtin; refine wpList_append_own _ rfl (.tmp 66) (.tmp 73) 25 rfl w4.heap.size 3 i0 _ 1 8 Try.underlying25 hi hz0 hz1' hz2' rfl (by decide) _ _ _ rfl (hown.alloc _) ⟨w5.heap.size, 0, none⟩ 1 1 [.int .i64 y] rfl rfl ?c1 ?c2 ?c3 ?c4 ?c5 ?_)
        case c1 => exact cell_one_new _ _ _
        case c2 => intro u hu; simp at hu; subst hu; rfl
        case c3 => unfold maxLen; omega
        case c4 => omega
        case c5 => simp; omega
        · intro v' w6 hown' hgrow _
          rw [← HS.out] at hown'
          have hB' : Below w4.heap.size w4 w6 := (hB.alloc hz _).grown hgrow (by simp; omega) (by
            intro g hg
            rcases hown.2 with ⟨e, _⟩ | ⟨g', _, _, e, hB0, _⟩
            · rw [e] at hg; cases hg
            · rw [e] at hg; simp only [Value.ownBlock, Option.some.injEq] at hg; omega)
          clear hgrow hown
          go_wp2
          go_roundw
          case rel => exact ⟨k + 1, by omega, by go_num, hown', hB'⟩
          case measure => simp [intOf]; omega
      · have hkl : k = P.length := by omega
        subst hkl
        rw [List.take_of_length_le (by omega)] at hI5 htl
        obtain ⟨b6, o6, rfl, _, l0⟩ := hI5 P.length (by omega)
        rw [HCh.out.last] at l0
        have hlast : (t == t) = true := by simp
        have hB6 := hbb4.trans (hB.mono (by omega))
        have hwrap : ((P.length : Int) + 1 - 1) = (P.length : Int) := by omega
        clear hown htl hnl
        go_wp2
        go_ret
        exact ⟨rfl, hB6⟩
  · have he' : (err != 0) = true := by simpa using he
    have hPn := hn4 he
    subst hPn
    clear hn4 hf4 ht4 hw4 hy4 he hI4
    go_wp2
    go_ret
    exact ⟨rfl, hbb4⟩

end Go.Proofs.Ytbnagipapgonpaa
