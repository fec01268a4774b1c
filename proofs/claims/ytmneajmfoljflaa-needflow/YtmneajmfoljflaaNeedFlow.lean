/- The law NeedFlow, walked out of contracts of packages need and most. -/
import Derived.Test.YtmneajmfoljflaaNeeds
import Derived.Test.YtmneajmfoljflaaJoinedB
import Derived.Test.YtmneajmfoljflaaNeedF
import Derived.Test.YtmneajmfoljflaaJoinedC
namespace Go.Proofs.Ytmneajmfoljflaa
open Go.RowKit
set_option linter.unusedVariables false

set_option maxHeartbeats 4000000 in
set_option maxRecDepth 100000 in
theorem NeedFlow_any (hR : NRoundC) (hM : MOfC) (n s t amount : Int) (ao : Option Addr) (cap : Nat) (l : List Arc3) (w : World) (hG : GraphIn w ao cap l) :
    Calls Try.prog 6 #[.agg #[.int .i64 n, .int .i64 s, .int .i64 t, .slice ao l.length cap], .int .i64 amount] w fun e w' => e = .returned (.bool true) ∧ Below w.heap.size w w' := by
  have hG0 := hG.alloc (.cells #[.int .i64 n, .int .i64 s, .int .i64 t, .slice ao l.length cap] 43)
  have x0 := blk_new w (.cells #[.int .i64 n, .int .i64 s, .int .i64 t, .slice ao l.length cap] 43)
  clear hG
  go_enter Try.func6, Try.ntmps6
  go_wp2_with fail
  refine (needs_any hR _).mono ?_
  rintro e w1 ⟨rfl, hb1⟩
  simp only [World.size_alloc] at hb1
  have hz1 := hb1.size
  simp only [World.size_alloc] at hz1
  have x1 := blk_below hb1 x0 (by omega)
  have HG1 : Hid (GraphIn w1 ao cap l) := hG0.below hb1 (by simp)
  have HB1 : Hid (Below w.heap.size w w1) := below_in hb1 (by omega)
  have hq := hM n s t ao cap l w1 HG1.out
  clear hb1 x0 hG0
  obtain ⟨r0, r1, r2, r3⟩ := blk4 x1
  go_wp2_with fail
  refine hq.mono ?_
  clear hq
  rintro e w2 ⟨hb2, a2, c2, F2, v, rfl, _, hT2⟩
  have hz2 := hb2.size
  have x2 := blk_below hb2 x1 (by omega)
  have HG2 : Hid (GraphIn w2 ao cap l) := HG1.out.below hb2 (Nat.le_refl _)
  have HB2 : Hid (Below w.heap.size w w2) := HB1.out.trans (hb2.mono HB1.out.size)
  have HT2 : Hid (MostTells n s t l F2 v (netErr n s t l)) := hT2
  have hwz : w.heap.size < w2.heap.size := by omega
  clear hb2 x1 r0 r1 r2 r3 HG1 HB1 hT2
  obtain ⟨r0, r1, r2, r3⟩ := blk4 x2
  by_cases hE : netErr n s t l = 0
  · rw [hE]
    have g0 : ((0 : Int) != 0) = false := rfl
    have HE : Hid (netErr n s t l = 0) := hE
    have hmx := HT2.out.most hE
    have HMx : Hid (MaxIs n.toNat s t l v) := hmx
    clear hmx hE HT2
    by_cases hn : 10 < n
    · have g1 : decide (10 < n) = true := decide_eq_true hn
      have g2 : decide (n > 10) = true := decide_eq_true hn
      clear HE
      go_wp2
      go_ret
      exact ⟨rfl, HB2.out⟩
    · have g1 : decide (10 < n) = false := decide_eq_false hn
      have g2 : decide (n > 10) = false := decide_eq_false hn
      by_cases hl : l.length < 30
      · have hge := net_ok HE.out
        obtain ⟨hn1, _⟩ := err_ok hge.1
        obtain ⟨N, rfl⟩ := Int.eq_ofNat_of_zero_le (show 0 ≤ n by omega)
        have hmx := HMx.out
        rw [Int.toNat_natCast] at hmx
        have HMx2 : Hid (MaxIs N s t l v) := hmx
        have hri := restV_in amount (m := 334) (by omega)
        obtain ⟨am, ham⟩ : ∃ am, restV amount 334 = am := ⟨_, rfl⟩
        rw [ham] at hri
        have HRest : Hid (∀ W : World, Calls Try.prog 17 #[.int .i64 amount, .int .i64 334] W fun e w' => e = .returned (.int .i64 am) ∧ w' = W) := fun W => by
          have h := rest_big amount 334 (by omega) (by omega) W
          rw [ham] at h; exact h
        have HAm : Hid (0 ≤ am ∧ am ≤ 333) := ⟨hri.1, by omega⟩
        have HNN : Hid (N ≤ 10) := by rw [Hid]; omega
        have HLl : Hid (l.length < 30) := hl
        have g3 : decide ((l.length : Int) ≥ 30) = false := by simpa using (show (l.length : Int) < 30 by omega)
        have g4 : decide ((30 : Int) ≤ (l.length : Int)) = false := by simpa using (show (l.length : Int) < 30 by omega)
        have HX2 : Hid (w2.heap[w.heap.size]? = some (.cells #[.int .i64 (N : Int), .int .i64 s, .int .i64 t, .slice ao l.length cap] 43 (0, 0))) := x2
        obtain ⟨i0, hi, hz0, hzz1, hzz2⟩ := info_parts infoNeed
        clear hge hn1 hmx HMx ham hri x2
        go_wp2_with (go_at_call 17; refine (HRest.out _).mono ?_; rintro e w' ⟨rfl, hw⟩; rw [hw]; clear hw)
        go_loopw [8, 46] (fun v i wr => ∃ k : Nat, k ≤ l.length ∧ i = .int .i64 k ∧ wr.ownsRow w2.heap.size 36 4 v (k + 1) (flat4 (needF s t am (l.take k))) ∧ Hid (Below w2.heap.size w2 wr) ∧ Hid (∀ j, j < k → (at3 l j).2.2 ≤ 333)) (fun _ i _ => l.length - (intOf i).toNat)
        case atStart =>
          refine ⟨0, Nat.zero_le _, rfl, ?_, below_one _ _, fun j hj => absurd hj (Nat.not_lt_zero _)⟩
          exact ⟨rfl, Or.inr ⟨w2.heap.size, 1, _, rfl, Nat.le_refl _, blk_new _ _, Nat.le_refl _, by unfold maxLen; omega, rfl, rfl⟩⟩
        case round =>
          obtain ⟨k, hk, rfl, hown, HB, HCs⟩ := hrel
          have hzr := HB.out.size
          clear r0 r1 r2 r3
          obtain ⟨r0, r1, r2, r3⟩ := blk4 (blk_below HB.out HX2.out hwz)
          have hwr : w.heap.size < wr.heap.size := by omega
          by_cases hlt : k < l.length
          · have HK : Hid (k + 1 ≤ l.length) := hlt
            obtain ⟨b, off, rfl, hbb, c0, c1, c2⟩ := HG2.out.arcs.below HB.out (Nat.le_refl _) k hlt
            have HS : Hid (flat4 (needF s t am (l.take (k + 1))) = flat4 (needF s t am (l.take k)) ++ [.int .i64 (at3 l k).1, .int .i64 (at3 l k).2.1, .int .i64 0, .int .i64 (at3 l k).2.2]) := needF_snoc s t am l k hlt
            have HCc : Hid ((at3 l k).2.2 ≤ 333 → ∀ j, j < k + 1 → (at3 l j).2.2 ≤ 333) := fun h j hj => by
              by_cases e : j = k
              · subst e; exact h
              · exact HCs.out j (by omega)
            generalize (at3 l k).1 = f at *
            generalize (at3 l k).2.1 = u at *
            generalize (at3 l k).2.2 = c at *
            by_cases hc : 333 < c
            · have d1 : decide (333 < c) = true := decide_eq_true hc
              have d2 : decide (c > 333) = true := decide_eq_true hc
              clear hown HS HCc
              go_wp2
              go_ret
              exact ⟨rfl, HB2.out.trans ((HB.out.alloc hzr _).mono HB2.out.size)⟩
            · have d1 : decide (333 < c) = false := decide_eq_false hc
              have d2 : decide (c > 333) = false := decide_eq_false hc
              have HC : Hid (∀ j, j < k + 1 → (at3 l j).2.2 ≤ 333) := HCc.out (by omega)
              clear HCc HCs
              go_wp2_with (at_builtin; refine wpList_append_own _ rfl (.tmp 53) (.tmp 61) 22 rfl w2.heap.size 36 i0 _ 4 32 Try.underlying22 hi hz0 hzz1 hzz2 rfl (by decide) _ _ _ rfl ((hown.alloc _).alloc _) ⟨wr.heap.size + 1, 0, none⟩ 1 1 [.int .i64 f, .int .i64 u, .int .i64 0, .int .i64 c] rfl rfl ?c1 ?c2 ?c3 ?c4 ?c5 ?_)
              case c2 => exact ⟨rfl, rfl, rfl, rfl⟩
              case c3 => unfold maxLen; omega
              case c4 => omega
              case c5 => omega
              · intro v' w5 hown' hgrow _
                rw [← HS.out] at hown'
                have hB' : Below w2.heap.size w2 w5 := ((HB.out.alloc hzr _).alloc (by simp; omega) _).grown hgrow (by simp; omega) (by
                  intro g hg
                  rcases hown.2 with ⟨rfl, _⟩ | ⟨g', _, _, rfl, hB0, _⟩
                  · cases hg
                  · simp only [Value.ownBlock, Option.some.injEq] at hg; omega)
                have HB' : Hid (Below w2.heap.size w2 w5) := hB'
                have HO' : Hid (w5.ownsRow w2.heap.size 36 4 v' (k + 1 + 1) (flat4 (needF s t am (l.take (k + 1))))) := hown'
                clear hgrow hown hown' hB'
                go_wp2
                go_roundw
                case rel => exact ⟨k + 1, HK.out, by go_num, HO'.out, HB', HC⟩
                case measure => have := HK.out; simp [intOf]; omega
          · have hkk : k = l.length := by omega
            subst hkk
            rw [List.take_length] at hown
            have hlen := needF_len s t am l
            rw [← hlen] at hown
            obtain ⟨a5, c5, rfl, hN5, _⟩ := owns_needs hown
            have hq := hR N a5 c5 (needF s t am l) wr hN5
            rw [hlen]
            rw [hlen] at hq
            have HN5 : Hid (NeedsIn wr a5 c5 (needF s t am l)) := hN5
            have HBr : Hid (Below w.heap.size w wr) := HB2.out.trans (HB.out.mono HB2.out.size)
            clear hown hN5 hlen HX2
            go_wp2_with fail
            refine hq.mono ?_
            clear hq
            rintro e w6 ⟨hb6, a6, c6, F6, E6, rfl, _, hT6⟩
            have HB6 : Hid (Below w.heap.size w w6) := HBr.out.trans (hb6.mono HBr.out.size)
            have htf := tells_flow HE.out HNN.out HLl.out (fun j hj => HCs.out j hj) HAm.out HMx2.out hT6
            clear hb6 hT6 r0 r1 r2 r3
            have g00 : ((0 : Int) == 0) = true := rfl
            have g50 : ((5 : Int) == 0) = false := rfl
            have g55 : ((5 : Int) == 5) = true := rfl
            rcases htf with ⟨rfl, hv⟩ | ⟨rfl, hv⟩
            · have d1 : decide (am ≤ v) = true := decide_eq_true hv
              go_wp2
              go_ret
              exact ⟨rfl, HB6.out⟩
            · have d1 : decide (am ≤ v) = false := decide_eq_false (by omega)
              go_wp2
              go_ret
              exact ⟨rfl, HB6.out⟩
      · have g3 : decide ((l.length : Int) ≥ 30) = true := by simpa using (show (30 : Int) ≤ (l.length : Int) by omega)
        have g4 : decide ((30 : Int) ≤ (l.length : Int)) = true := by simpa using (show (30 : Int) ≤ (l.length : Int) by omega)
        clear HE
        go_wp2
        go_ret
        exact ⟨rfl, HB2.out⟩
  · obtain ⟨E, hEE⟩ : ∃ E, netErr n s t l = E := ⟨_, rfl⟩
    rw [hEE] at hE ⊢
    have hE' : (E != 0) = true := by simpa using hE
    clear hE hEE HT2
    go_wp2
    go_ret
    exact ⟨rfl, HB2.out⟩

end Go.Proofs.Ytmneajmfoljflaa
