/- The law TopRound, walked out of contracts of packages need, most, cut and flow. -/
import Derived.Test.YtmneajmfoljflaaNeedF
import Derived.Test.YtmneajmfoljflaaTops
import Derived.Test.YtmneajmfoljflaaAppJoin
import Derived.Deep.RegionHeld3
namespace Go.Proofs.Ytmneajmfoljflaa
open Go.RowKit
set_option linter.unusedVariables false

/-- a list of integers, but the first -/
theorem tail_run (g n c : Nat) (hc : 1 ≤ c) (x : World) : (Instr.slice 23 (.slice (some ⟨g, 0, none⟩) (n + 1) c) (some (.int .i64 1)) none none).run Try.prog x = .ok (.slice (some ⟨g, if c = 1 then 0 else 1, none⟩) n (c - 1)) x := by
  have h := run_slice_l (P := Try.prog) (w := x) 23 (some ⟨g, 0, none⟩) (n + 1) c (by kernel_rfl) .i64 1 (by omega) (by omega)
  rw [h]
  simp [sliced, go_sem]
  split <;> rfl

set_option maxHeartbeats 4000000 in
set_option maxRecDepth 100000 in
theorem TopRound_any (hR : NRoundC) (hFa : NFaultC) (hM : MOfC) (hL : CLeastC) (hV : FValueC) (n s t : Int) (ao : Option Addr) (cap : Nat) (l : List Arc3) (w : World) (hG : GraphIn w ao cap l) :
    Calls Try.prog 7 #[.agg #[.int .i64 n, .int .i64 s, .int .i64 t, .slice ao l.length cap]] w fun e w' => e = .returned (.bool true) ∧ Below w.heap.size w w' := by
  have hG0 := hG.alloc (.cells #[.int .i64 n, .int .i64 s, .int .i64 t, .slice ao l.length cap] 43)
  have x0 := blk_new w (.cells #[.int .i64 n, .int .i64 s, .int .i64 t, .slice ao l.length cap] 43)
  clear hG
  go_enter Try.func7, Try.ntmps7
  go_wp2_with fail
  refine (works_any hM hL _).mono ?_
  rintro e w1 ⟨rfl, hb1⟩
  simp only [World.size_alloc] at hb1
  have hz1 := hb1.size
  simp only [World.size_alloc] at hz1
  have x1 := blk_below hb1 x0 (by omega)
  have HG1 : Hid (GraphIn w1 ao cap l) := hG0.below hb1 (by simp)
  have HB1 : Hid (Below w.heap.size w w1) := below_in hb1 (by omega)
  have hq := hM n s t ao cap l w1 HG1.out
  clear hb1 x0 hG0
  obtain ⟨r0, r1, r2, r3⟩ := blk4 x1
  go_wp2_with fail
  refine hq.mono ?_
  clear hq
  rintro e w2 ⟨hb2, a2, c2, F2, v, rfl, _, hT2⟩
  have hz2 := hb2.size
  have x2 := blk_below hb2 x1 (by omega)
  have HG2 : Hid (GraphIn w2 ao cap l) := HG1.out.below hb2 (Nat.le_refl _)
  have HB2 : Hid (Below w.heap.size w w2) := HB1.out.trans (hb2.mono HB1.out.size)
  have HT2 : Hid (MostTells n s t l F2 v (netErr n s t l)) := hT2
  have hwz : w.heap.size < w2.heap.size := by omega
  clear hb2 x1 r0 r1 r2 r3 HG1 HB1 hT2
  obtain ⟨r0, r1, r2, r3⟩ := blk4 x2
  by_cases hE : netErr n s t l = 0
  · rw [hE]
    have g0 : ((0 : Int) != 0) = false := rfl
    have g00 : ((0 : Int) == 0) = true := rfl
    have HE : Hid (netErr n s t l = 0) := hE
    have hmx := HT2.out.most hE
    have HMx : Hid (MaxIs n.toNat s t l v) := hmx
    have hv0 := hmx.nonneg (by rw [show ((n.toNat : Nat) : Int) = n by have := (err_ok (net_ok hE).1).1; omega]; exact hE)
    clear hmx hE HT2
    by_cases hn : 10 < n
    · have g1 : decide (10 < n) = true := decide_eq_true hn
      have g2 : decide (n > 10) = true := decide_eq_true hn
      clear HE
      go_wp2
      go_ret
      exact ⟨rfl, HB2.out⟩
    · have g1 : decide (10 < n) = false := decide_eq_false hn
      have g2 : decide (n > 10) = false := decide_eq_false hn
      by_cases hl : l.length < 30
      · have g3 : decide ((l.length : Int) ≥ 30) = false := by simpa using (show (l.length : Int) < 30 by omega)
        have g4 : decide ((30 : Int) ≤ (l.length : Int)) = false := by simpa using (show (l.length : Int) < 30 by omega)
        by_cases hv : 333 < v
        · have g5 : decide (333 < v) = true := decide_eq_true hv
          have g6 : decide (v > 333) = true := decide_eq_true hv
          clear HE
          go_wp2
          go_ret
          exact ⟨rfl, HB2.out⟩
        · have g5 : decide (333 < v) = false := decide_eq_false hv
          have g6 : decide (v > 333) = false := decide_eq_false hv
          have hge := net_ok HE.out
          obtain ⟨hn1, _⟩ := err_ok hge.1
          obtain ⟨N, rfl⟩ := Int.eq_ofNat_of_zero_le (show 0 ≤ n by omega)
          obtain ⟨sN, rfl⟩ := Int.eq_ofNat_of_zero_le hge.2.1.1
          obtain ⟨tN, rfl⟩ := Int.eq_ofNat_of_zero_le hge.2.2.1.1
          have hs12 : sN < 12 := by omega
          have ht12 : tN < 12 := by omega
          have hmx := HMx.out
          rw [Int.toNat_natCast] at hmx
          have HMx2 : Hid (MaxIs N sN tN l v) := hmx
          have HAm : Hid (0 ≤ v ∧ v ≤ 333) := ⟨hv0, by omega⟩
          have HNN : Hid (N ≤ 10) := by rw [Hid]; omega
          have HLl : Hid (l.length < 30) := hl
          have HX2 : Hid (w2.heap[w.heap.size]? = some (.cells #[.int .i64 (N : Int), .int .i64 (sN : Int), .int .i64 (tN : Int), .slice ao l.length cap] 43 (0, 0))) := x2
          obtain ⟨i0, hi, hz0, hzz1, hzz2⟩ := info_parts infoNeed
          clear hge hn1 hmx HMx x2
          go_wp2
          go_loopw [6, 58] (fun y i wr => ∃ k : Nat, k ≤ l.length ∧ i = .int .i64 k ∧ wr.ownsRow w2.heap.size 36 4 y (k + 1) (flat4 (needF sN tN v (l.take k))) ∧ Hid (Below w2.heap.size w2 wr) ∧ Hid (∀ j, j < k → (at3 l j).2.2 ≤ 333)) (fun _ i _ => l.length - (intOf i).toNat)
          case atStart =>
            refine ⟨0, Nat.zero_le _, rfl, ?_, below_one _ _, fun j hj => absurd hj (Nat.not_lt_zero _)⟩
            exact ⟨rfl, Or.inr ⟨w2.heap.size, 1, _, rfl, Nat.le_refl _, blk_new _ _, Nat.le_refl _, by unfold maxLen; omega, rfl, rfl⟩⟩
          case round =>
            obtain ⟨k, hk, rfl, hown, HB, HCs⟩ := hrel
            have hzr := HB.out.size
            clear r0 r1 r2 r3
            obtain ⟨r0, r1, r2, r3⟩ := blk4 (blk_below HB.out HX2.out hwz)
            have hwr : w.heap.size < wr.heap.size := by omega
            by_cases hlt : k < l.length
            · have HK : Hid (k + 1 ≤ l.length) := hlt
              obtain ⟨b, off, rfl, hbb, c0, c1, c2⟩ := HG2.out.arcs.below HB.out (Nat.le_refl _) k hlt
              have HS : Hid (flat4 (needF sN tN v (l.take (k + 1))) = flat4 (needF sN tN v (l.take k)) ++ [.int .i64 (at3 l k).1, .int .i64 (at3 l k).2.1, .int .i64 0, .int .i64 (at3 l k).2.2]) := needF_snoc sN tN v l k hlt
              have HCc : Hid ((at3 l k).2.2 ≤ 333 → ∀ j, j < k + 1 → (at3 l j).2.2 ≤ 333) := fun h j hj => by
                by_cases e : j = k
                · subst e; exact h
                · exact HCs.out j (by omega)
              generalize (at3 l k).1 = f at *
              generalize (at3 l k).2.1 = u at *
              generalize (at3 l k).2.2 = c at *
              by_cases hc : 333 < c
              · have d1 : decide (333 < c) = true := decide_eq_true hc
                have d2 : decide (c > 333) = true := decide_eq_true hc
                clear hown HS HCc
                go_wp2
                go_ret
                exact ⟨rfl, HB2.out.trans ((HB.out.alloc hzr _).mono HB2.out.size)⟩
              · have d1 : decide (333 < c) = false := decide_eq_false hc
                have d2 : decide (c > 333) = false := decide_eq_false hc
                have HC : Hid (∀ j, j < k + 1 → (at3 l j).2.2 ≤ 333) := HCc.out (by omega)
                clear HCc HCs
                go_wp2_with (at_builtin; refine wpList_append_own _ rfl (.tmp 65) (.tmp 73) 22 rfl w2.heap.size 36 i0 _ 4 32 Try.underlying22 hi hz0 hzz1 hzz2 rfl (by decide) _ _ _ rfl ((hown.alloc _).alloc _) ⟨wr.heap.size + 1, 0, none⟩ 1 1 [.int .i64 f, .int .i64 u, .int .i64 0, .int .i64 c] rfl rfl ?c1 ?c2 ?c3 ?c4 ?c5 ?_)
                case c2 => exact ⟨rfl, rfl, rfl, rfl⟩
                case c3 => unfold maxLen; omega
                case c4 => omega
                case c5 => omega
                · intro v' w5 hown' hgrow _
                  rw [← HS.out] at hown'
                  have hB' : Below w2.heap.size w2 w5 := ((HB.out.alloc hzr _).alloc (by simp; omega) _).grown hgrow (by simp; omega) (by
                    intro g hg
                    rcases hown.2 with ⟨rfl, _⟩ | ⟨g', _, _, rfl, hB0, _⟩
                    · cases hg
                    · simp only [Value.ownBlock, Option.some.injEq] at hg; omega)
                  have HB' : Hid (Below w2.heap.size w2 w5) := hB'
                  have HO' : Hid (w5.ownsRow w2.heap.size 36 4 v' (k + 1 + 1) (flat4 (needF sN tN v (l.take (k + 1))))) := hown'
                  clear hgrow hown hown' hB'
                  go_wp2
                  go_roundw
                  case rel => exact ⟨k + 1, HK.out, by go_num, HO'.out, HB', HC⟩
                  case measure => have := HK.out; simp [intOf]; omega
            · have hkk : k = l.length := by omega
              subst hkk
              rw [List.take_length] at hown
              have hlen := needF_len sN tN v l
              rw [← hlen] at hown
              obtain ⟨g, cap5, fr, rfl, hBg, hle5, hcm5, hr5, hf5⟩ := own_needs (by rw [hlen]; omega) hown
              have hN5 : NeedsIn wr (some ⟨g, 0, none⟩) cap5 (needF sN tN v l) := NeedR.in_ hr5 hf5 hle5 hcm5
              have hgw := hr5.lt
              have hq := hR N (some ⟨g, 0, none⟩) cap5 (needF sN tN v l) wr hN5
              rw [hlen] at hle5
              rw [hlen]
              rw [hlen] at hq
              have HN5 : Hid (NeedsIn wr (some ⟨g, 0, none⟩) cap5 (needF sN tN v l)) := hN5
              have HRow : Hid (wr.rowIs g 36 (cap5 * 4) fr ∧ NeedR fr (needF sN tN v l)) := ⟨hr5, hf5⟩
              have HBr : Hid (Below w.heap.size w wr) := HB2.out.trans (HB.out.mono HB2.out.size)
              have HGr : Hid (GraphIn wr ao cap l) := HG2.out.below HB.out (Nat.le_refl _)
              have HXr : Hid (wr.heap[w.heap.size]? = some (.cells #[.int .i64 (N : Int), .int .i64 (sN : Int), .int .i64 (tN : Int), .slice ao l.length cap] 43 (0, 0))) := blk_below HB.out HX2.out hwz
              have HLen : Hid ((needF sN tN v l).length = l.length + 1) := hlen
              have HErr : Hid (∀ a, 0 ≤ a ∧ a ≤ 333 → needErr N (needF sN tN a l) = 0) := fun a ha => needF_err HE.out HNN.out HLl.out (fun j hj => HCs.out j hj) ha
              have HTF : Hid (∀ F E, RoundTells N (needF sN tN v l) F E → (E = 0 ∧ v ≤ v) ∨ (E = 5 ∧ v < v)) := fun F E h => tells_flow HE.out HNN.out HLl.out (fun j hj => HCs.out j hj) HAm.out HMx2.out h
              clear hown hN5 hlen HX2 hr5 hf5
              go_wp2_with fail
              refine hq.mono ?_
              clear hq
              rintro e w6 ⟨hb6, a6, c6, F6, E6, rfl, hO6, hT6⟩
              have hz6 := hb6.size
              have hE6 : E6 = 0 := by rcases HTF.out F6 E6 hT6 with h | h <;> omega
              subst hE6
              have hRd := (hT6.ok rfl).2
              rw [Int.toNat_natCast] at hRd
              obtain ⟨y, f', hF6, hy1, hy2, hfl, hgo⟩ := round_flow HE.out hRd
              have hy3 := HMx2.out.le HE.out hfl
              have hyv : y = v := by omega
              subst hyv
              have hfl6 := hfl.len
              have hl6 : F6.length = l.length + 1 := by rw [hF6, List.length_cons, hfl6]
              rcases hO6 with ⟨_, _, h6⟩ | ⟨g6, rfl, hB6, hcap6, hO6⟩
              · rw [h6] at hl6; simp at hl6
              have hle6 := hO6.le
              have HTail : Hid (∀ x : World, Below w6.heap.size w6 x → IntsIn x (some ⟨g6, if c6 = 1 then 0 else 1, none⟩) (c6 - 1) f') := fun x hx => by
                refine ⟨fun i hi => ⟨g6, _, rfl, Nat.lt_of_lt_of_le hO6.lt hx.size, ?_⟩, by omega, by omega, fun e => by cases e⟩
                rw [if_neg (by omega), Nat.add_comm]
                have := hO6.cell (j := i + 1) (by omega)
                rw [hF6] at this
                exact later hx this hO6.lt
              have HFl : Hid (FlowIs N sN tN l f' ∧ gone l (ati f') sN = y) := ⟨hfl, hgo⟩
              have HFl6 : Hid (f'.length = l.length) := hfl6
              have HRd : Hid (RoundIs N (needF sN tN y l) F6) := hRd
              have HT6 : Hid (RoundTells N (needF sN tN y l) F6 0) := hT6
              have HB6 : Hid (Below w.heap.size w w6) := HBr.out.trans (hb6.mono HBr.out.size)
              have HN6 : Hid (NeedsIn w6 (some ⟨g, 0, none⟩) cap5 (needF sN tN y l)) := HN5.out.below hb6 (Nat.le_refl _)
              have HR6 : Hid (w6.rowIs g 36 (cap5 * 4) fr) := HRow.out.1.of_block (hb6.block _ hgw)
              have HG6 : Hid (GraphIn w6 ao cap l) := HGr.out.below hb6 (Nat.le_refl _)
              have x6 := blk_below hb6 HXr.out hwr
              have HX6 : Hid (w6.heap[w.heap.size]? = some (.cells #[.int .i64 (N : Int), .int .i64 (sN : Int), .int .i64 (tN : Int), .slice ao l.length cap] 43 (0, 0))) := x6
              have hq := hFa N (some ⟨g, 0, none⟩) cap5 (needF sN tN y l) w6 HN6.out
              rw [HLen.out] at hq
              rw [hl6] at hle6 ⊢
              have hg6 := hO6.lt
              clear hb6 hT6 hO6 hRd hfl hgo hF6 hy1 hy2 hy3 hfl6 HN5 HBr HGr HXr r0 r1 r2 r3
              obtain ⟨r0, r1, r2, r3⟩ := blk4 x6
              clear x6
              go_wp2_with fail
              refine hq.mono ?_
              clear hq
              rintro e w7 ⟨hb7, x7, G7, rfl, hT7⟩
              have hz7 := hb7.size
              have hG7 : G7 = 5 := by
                rcases tells_same (HErr.out y HAm.out) HT6.out hT7 with h | h
                · exact h.2.1
                · exact absurd h.1 (by decide)
              subst hG7
              have HB7 : Hid (Below w.heap.size w w7) := HB6.out.trans (hb7.mono (by omega))
              have HR7 : Hid (w7.rowIs g 36 (cap5 * 4) fr) := HR6.out.of_block (hb7.block _ (by omega))
              have HG7 : Hid (GraphIn w7 ao cap l) := HG6.out.below hb7 (Nat.le_refl _)
              have hw7 : w.heap.size < w7.heap.size := by omega
              have hg7 : g < w7.heap.size := by omega
              have HX7 : Hid (w7.heap[w.heap.size]? = some (.cells #[.int .i64 (N : Int), .int .i64 (sN : Int), .int .i64 (tN : Int), .slice ao l.length cap] 43 (0, 0))) := blk_below hb7 HX6.out (by omega)
              have HTail7 : Hid (∀ x : World, Below w7.heap.size w7 x → IntsIn x (some ⟨g6, if c6 = 1 then 0 else 1, none⟩) (c6 - 1) f') := fun x hx => HTail.out x (hb7.trans (hx.mono hb7.size))
              have g5 : ((5 : Int) != 5) = false := rfl
              have gl : (((l.length + 1 : Nat) : Int) != ((l.length + 1 : Nat) : Int)) = false := by simp
              clear hb7 hT7 r0 r1 r2 r3 HR6 HG6 HX6 HTail HT6 HN6
              obtain ⟨r0, r1, r2, r3⟩ := blk4 HX7.out
              have HS7 : Hid (∀ x : World, Below w7.heap.size w7 x → Below w7.heap.size w7 x ∧ x.cell? ⟨w.heap.size, 0, none⟩ = some (.int .i64 (N : Int)) ∧ x.cell? ⟨w.heap.size, 1, none⟩ = some (.int .i64 (sN : Int)) ∧ x.cell? ⟨w.heap.size, 2, none⟩ = some (.int .i64 (tN : Int)) ∧ x.cell? ⟨w.heap.size, 3, none⟩ = some (.slice ao l.length cap)) :=
                fun x h => ⟨h, later h r0 hw7, later h r1 hw7, later h r2 hw7, later h r3 hw7⟩
              have HC7 : Hid (∀ x : World, Below w7.heap.size w7 x → Calls Try.prog 20 #[.agg #[.int .i64 (N : Int), .int .i64 (sN : Int), .int .i64 (tN : Int), .slice ao l.length cap], .slice (some ⟨g6, if c6 = 1 then 0 else 1, none⟩) l.length (c6 - 1)] x fun e w' => e = .returned (.tuple #[.int .i64 y, .int .i64 0]) ∧ Below w7.heap.size w7 w') := fun x h => by
                have hq := hV N sN tN ao (some ⟨g6, if c6 = 1 then 0 else 1, none⟩) cap (c6 - 1) l f' x (HG7.out.below h (Nat.le_refl _)) (HTail7.out x h)
                have he : flowErr N sN tN l f' = 0 := flow_mk HE.out (by rw [Int.toNat_natCast]; exact HFl.out.1)
                rw [show valueOf N sN tN l f' = y by unfold valueOf; rw [if_pos he, HFl.out.2], he, HFl6.out] at hq
                exact hq.mono fun e w' ⟨h1, h2⟩ => ⟨h2, below_tr h h1⟩
              have hp1i : (1 : Int) ≤ (c6 : Int) := by omega
              have hp1j : (1 : Int) ≤ ((l.length + 1 : Nat) : Int) := by omega
              have hp1k : ((l.length + 1 : Nat) : Int) ≤ (c6 : Int) := by omega
              go_upto_region 18 with fail
              go_cut [13, 14] (fun x z wx => x = .int .i64 y ∧ z = .int .i64 0 ∧ Below w7.heap.size w7 wx)
              case first =>
                have hsl := tail_run g6 l.length c6 (by omega)
                obtain ⟨o6, ho6⟩ : ∃ o, (if c6 = 1 then 0 else 1) = o := ⟨_, rfl⟩
                rw [ho6] at HC7 hsl
                clear HTail7 ho6
                go_region_held3 (fun x => Below w7.heap.size w7 x ∧ x.cell? ⟨w.heap.size, 0, none⟩ = some (.int .i64 (N : Int)) ∧ x.cell? ⟨w.heap.size, 1, none⟩ = some (.int .i64 (sN : Int)) ∧ x.cell? ⟨w.heap.size, 2, none⟩ = some (.int .i64 (tN : Int)) ∧ x.cell? ⟨w.heap.size, 3, none⟩ = some (.slice ao l.length cap))
                  (first
                    | with_reducible assumption
                    | with_reducible exact HS7.out _ ((Below.refl _ _).drew))
                  (first
                    | (go_at_call 20; refine (HC7.out _ (And.left (by with_reducible assumption))).mono ?_; rintro e w8 ⟨rfl, hb8⟩; have hs8 := HS7.out w8 hb8))
                all_goals
                  go_wp2
                  go_meet
                  case rel => exact ⟨rfl, rfl, by assumption⟩
              case rest =>
                obtain ⟨rfl, rfl, hb8⟩ := hcut
                have hz8 := hb8.size
                have HB8 : Hid (Below w.heap.size w wc) := HB7.out.trans (hb8.mono (by omega))
                have hr8 : wc.rowIs g 36 (cap5 * 4) fr := HR7.out.of_block (hb8.block _ hg7)
                have HX8 : Hid (wc.heap[w.heap.size]? = some (.cells #[.int .i64 (N : Int), .int .i64 (sN : Int), .int .i64 (tN : Int), .slice ao l.length cap] 43 (0, 0))) := blk_below hb8 HX7.out hw7
                have gy : (y != y) = false := by simp
                have gy2 : (y == y) = true := by simp
                have HR8 : Hid (wc.rowIs g 36 (cap5 * 4) fr) := hr8
                clear hb8 HC7 HS7 HTail7 HX7 HR7 HG7 HB7 r0 r1 r2 r3
                obtain ⟨r0, r1, r2, r3⟩ := blk4 HX8.out
                by_cases h333 : y = 333
                · have g333 : (y == 333) = true := by simpa using h333
                  clear h333 hr8
                  go_wp2
                  go_ret
                  exact ⟨rfl, HB8.out⟩
                · have g333 : (y == 333) = false := by simpa using h333
                  have hyb := HAm.out
                  have HAm2 : Hid (0 ≤ y + 1 ∧ y + 1 ≤ 333) := by rw [Hid]; omega
                  have v1 : IntKind.i64.wrap (y + 1) = y + 1 := by rw [IntKind.wrap_i64]; omega
                  have k2 := hr8.cell (i := 2) (by omega)
                  have f2 := hr8.frozen 2
                  have hgc : g < wc.heap.size := by omega
                  have hneg : g ≠ w.heap.size := by omega
                  have hNew : NeedsIn (wc.setCell ⟨g, 2, none⟩ (.int .i64 (y + 1))) (some ⟨g, 0, none⟩) cap5 (needF sN tN (y + 1) l) := by
                    refine NeedR.in_ (hr8.set 2 (.int .i64 (y + 1))) (fun i hi => ?_) (by rw [needF_len]; exact hle5) hcm5
                    rw [needF_len] at hi
                    have h0 := HRow.out.2 i (by rw [needF_len]; exact hi)
                    cases i with
                    | zero =>
                      rw [needF_zero] at h0 ⊢
                      exact ⟨h0.1, h0.2.1, rfl, h0.2.2.2⟩
                    | succ k =>
                      rw [needF_succ] at h0 ⊢
                      refine ⟨?_, ?_, ?_, ?_⟩ <;> rw [if_neg (by omega)]
                      · exact h0.1
                      · exact h0.2.1
                      · exact h0.2.2.1
                      · exact h0.2.2.2
                  have HNew : Hid (NeedsIn (wc.setCell ⟨g, 2, none⟩ (.int .i64 (y + 1))) (some ⟨g, 0, none⟩) cap5 (needF sN tN (y + 1) l)) := hNew
                  have hq := hFa N (some ⟨g, 0, none⟩) cap5 (needF sN tN (y + 1) l) _ HNew.out
                  rw [needF_len] at hq
                  have HB9 : Hid (Below w.heap.size w (wc.setCell ⟨g, 2, none⟩ (.int .i64 (y + 1)))) := HB8.out.setCell (by show w.heap.size ≤ g; omega) _
                  have HX9 : Hid ((wc.setCell ⟨g, 2, none⟩ (.int .i64 (y + 1))).heap[w.heap.size]? = some (.cells #[.int .i64 (N : Int), .int .i64 (sN : Int), .int .i64 (tN : Int), .slice ao l.length cap] 43 (0, 0))) := (Below.heap_setCell _ _ _ _ (fun e => hneg e.symm)).trans HX8.out
                  have hz9 : (wc.setCell ⟨g, 2, none⟩ (.int .i64 (y + 1))).heap.size = wc.heap.size := by simp [World.setCell]
                  obtain ⟨q0, q1, q2, q3⟩ := blk4 HX9.out
                  clear hNew h333 hr8
                  go_wp2_with fail
                  refine hq.mono ?_
                  clear hq
                  rintro e wd ⟨hbd, xd, Gd, rfl, hTd⟩
                  have hzd := hbd.size
                  have hstr : Gd = 0 ∧ xd < 2 ^ N ∧ Strains (needF sN tN (y + 1) l) xd := by
                    rcases hTd.2 (HErr.out _ HAm2.out) with ⟨_, _, F', hRd'⟩ | ⟨h1, h2, h3⟩
                    · rw [Int.toNat_natCast] at hRd'
                      obtain ⟨y', f'', _, h1, _, h3, h4⟩ := round_flow HE.out hRd'
                      have := HMx2.out.le HE.out h3
                      omega
                    · exact ⟨h1, by rw [Int.toNat_natCast] at h2; exact h2, h3⟩
                  obtain ⟨rfl, hxd, hst⟩ := hstr
                  obtain ⟨_, hb1, hb0⟩ := strain_flow HE.out HMx2.out HAm2.out hst
                  have hx16 : (0 : Int) ≤ (xd : Int) ∧ (xd : Int) < 65536 := by
                    have := Nat.pow_le_pow_right (n := 2) (by omega) (show N ≤ 12 by have h := HNN.out; omega)
                    omega
                  have u1 := bt_bits hx16 sN
                  have u2 := bt_bits hx16 tN
                  rw [hb1] at u1
                  rw [hb0] at u2
                  have HBd : Hid (Below w.heap.size w wd) := HB9.out.trans (hbd.mono (by omega))
                  have xd9 := blk_below hbd HX9.out (by omega)
                  clear hbd hTd hst hb1 hb0 q0 q1 q2 q3 r0 r1 r2 r3 k2 f2
                  obtain ⟨q0, q1, q2, q3⟩ := blk4 xd9
                  clear xd9
                  go_wp2
                  go_ret
                  exact ⟨rfl, HBd.out⟩
      · have g3 : decide ((l.length : Int) ≥ 30) = true := by simpa using (show (30 : Int) ≤ (l.length : Int) by omega)
        have g4 : decide ((30 : Int) ≤ (l.length : Int)) = true := by simpa using (show (30 : Int) ≤ (l.length : Int) by omega)
        clear HE
        go_wp2
        go_ret
        exact ⟨rfl, HB2.out⟩
  · have hv := HT2.out.none hE
    obtain ⟨E, hEE⟩ : ∃ E, netErr n s t l = E := ⟨_, rfl⟩
    rw [hEE] at hE ⊢
    obtain ⟨_, rfl⟩ := hv
    have hE' : (E != 0) = true := by simpa using hE
    have hE2 : (E == 0) = false := by simpa using hE
    have g00 : ((0 : Int) == 0) = true := rfl
    clear hE hEE HT2
    go_wp2
    go_ret
    exact ⟨rfl, HB2.out⟩

end Go.Proofs.Ytmneajmfoljflaa
