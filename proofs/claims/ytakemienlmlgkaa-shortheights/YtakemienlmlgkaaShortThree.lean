/- The law ShortThree, walked, out of the contract of All. -/
import Derived.Test.YtakemienlmlgkaaSAll
import Derived.Test.YtakemienlmlgkaaShortC
namespace Go.Proofs.Ytakemienlmlgkaa
open Go.RowKit
set_option linter.unusedVariables false

def lineP (v : Int) : Int := if v = 1 then 4 else if v = 2 then 7 else 0
theorem lineL_pot : ∀ a ∈ lineL, lineP a.2.1 ≤ lineP a.1 + a.2.2 := by
  intro a ha
  simp only [lineL, List.mem_cons, List.not_mem_nil, or_false] at ha
  rcases ha with rfl | rfl <;> decide
theorem lineL_from : FromIs 3 lineL 0 [0, 4, 7] [true, true, true] := by
  refine ⟨rfl, rfl, fun v hv => Or.inr ⟨?_, ?_, fun k x h => ?_⟩⟩
  · rcases (by omega : v = 0 ∨ v = 1 ∨ v = 2) with rfl | rfl | rfl <;> rfl
  · rcases (by omega : v = 0 ∨ v = 1 ∨ v = 2) with rfl | rfl | rfl
    · exact ⟨0, Wl.start _ _⟩
    · exact ⟨1, ((Wl.start lineL 0).step (a := (0, 1, 4)) (by simp [lineL])).eq rfl (by decide)⟩
    · exact ⟨2, (((Wl.start lineL 0).step (a := (0, 1, 4)) (by simp [lineL])).step (a := (1, 2, 3)) (by simp [lineL])).eq rfl (by decide)⟩
  · have hp := h.pot lineL_pot
    have h0 : lineP 0 = 0 := by decide
    rcases (by omega : v = 0 ∨ v = 1 ∨ v = 2) with rfl | rfl | rfl
    · have h1 : lineP ((0 : Nat) : Int) = 0 := by decide
      have h2 : ati [0, 4, 7] 0 = 0 := rfl
      omega
    · have h1 : lineP ((1 : Nat) : Int) = 4 := by decide
      have h2 : ati [0, 4, 7] 1 = 4 := rfl
      omega
    · have h1 : lineP ((2 : Nat) : Int) = 7 := by decide
      have h2 : ati [0, 4, 7] 2 = 7 := rfl
      omega
theorem lineL_in {w : World} {ao : Option Addr} {cap : Nat} (hA : ArcsAt w ao lineL) (h1 : 2 ≤ cap) (h2 : cap ≤ maxLen) : GraphIn w ao cap lineL := by
  refine ⟨hA, h1, h2, fun e => ?_⟩
  obtain ⟨b, off, e', _⟩ := hA 0 (by decide)
  rw [e] at e'; cases e'
theorem lineL_no : ¬ ∃ v, (0 ≤ v ∧ v < (3 : Int)) ∧ Neg lineL v := by
  rintro ⟨v, _, hn⟩
  exact noLoop_pot lineL_pot v ⟨v, Rch.refl _ _, hn⟩

/-- by a third node it is no shorter -/
theorem three {N : Nat} {l : List Arc3} {M : Nat → Nat → Int} {T : Nat → Nat → Bool} (h : ∀ s : Nat, s < N → FromIs N l s ((List.range N).map (M s)) ((List.range N).map (T s))) {i m k : Nat} (hi : i < N) (hm : m < N) (hk : k < N) (h1 : T i m = true) (h2 : T m k = true) :
    T i k = true ∧ M i k ≤ M i m + M m k := by
  have a1 := (h i hi).walk hm (((h i hi).known hm).1 (by rw [atb_range _ _ hm]; exact h1))
  have a2 := (h m hm).walk hk (((h m hm).known hk).1 (by rw [atb_range _ _ hk]; exact h2))
  obtain ⟨j1, w1⟩ := a1
  obtain ⟨j2, w2⟩ := a2
  have w3 := w1.trans w2
  have b1 := ((h i hi).known hk).2 ⟨_, _, w3⟩
  have b2 := (h i hi).le hk w3
  rw [atb_range _ _ hk] at b1
  rw [ati_range _ _ hk, ati_range _ _ hm, ati_range _ _ hk] at b2
  exact ⟨b1, b2⟩
theorem three_bound {N : Nat} {l : List Arc3} {M : Nat → Nat → Int} {T : Nat → Nat → Bool} (h : ∀ s : Nat, s < N → FromIs N l s ((List.range N).map (M s)) ((List.range N).map (T s))) (h12 : N ≤ 12) (hl : ∀ a ∈ l, (0 ≤ a.1 ∧ a.1 < (N : Int)) ∧ (0 ≤ a.2.1 ∧ a.2.1 < (N : Int)) ∧ -10000 ≤ a.2.2 ∧ a.2.2 ≤ 10000) {i k : Nat} (hi : i < N) (hk : k < N) : -120000 ≤ M i k ∧ M i k ≤ 120000 := by
  have := (h i hi).bound h12 (by omega) hl hk
  rwa [ati_range _ _ hk] at this
theorem three_zero {N : Nat} {l : List Arc3} {M : Nat → Nat → Int} {T : Nat → Nat → Bool} (h : ∀ s : Nat, s < N → FromIs N l s ((List.range N).map (M s)) ((List.range N).map (T s))) (hl : ∀ a ∈ l, (0 ≤ a.1 ∧ a.1 < (N : Int)) ∧ (0 ≤ a.2.1 ∧ a.2.1 < (N : Int))) {i : Nat} (hi : i < N) : M i i = 0 := by
  have := ((h i hi).first hi hl).2
  rwa [ati_range _ _ hi] at this

set_option maxHeartbeats 4000000 in
set_option maxRecDepth 100000 in
theorem ShortThree_any (hC : AllC) (n : Int) (ao : Option Addr) (cap : Nat) (l : List Arc3) (w : World) (hG : GraphIn w ao cap l) :
    Calls Try.prog 7 #[.agg #[.int .i64 n, .slice ao l.length cap]] w fun e w' => e = .returned (.bool true) ∧ Below w.heap.size w w' := by
  have hm := hG.len
  have hG0 := hG.alloc (.cells #[.int .i64 n, .slice ao l.length cap] 24)
  have x0 := blk_new w (.cells #[.int .i64 n, .slice ao l.length cap] 24)
  have h00 : ((0 : Int) != 0) = false := rfl
  have h00' : ((0 : Int) == 0) = true := rfl
  go_enter Try.func7, Try.ntmps7
  go_wp2_with fail
  refine (line_any _).mono ?_
  rintro e w1 ⟨hb1, aoL, capL, rfl, hAL, hcl, hcm⟩
  simp only [World.size_alloc] at hb1
  have hz1 := hb1.size
  simp only [World.size_alloc] at hz1
  have x1 := blk_below hb1 x0 (by omega)
  have hG1 := hG0.below hb1 (by simp)
  have hbb1 := below_in hb1 (by omega)
  have hGL := lineL_in hAL hcl hcm
  clear hb1 x0 hG0 hAL
  go_wp2_with fail
  refine (hC 3 aoL capL lineL _ hGL).mono ?_
  rintro e w2 ⟨hb2, hR2⟩
  have hz2 := hb2.size
  have x2 := blk_below hb2 x1 (by omega)
  have hG2 := hG1.below hb2 (by omega)
  have hbb2 := hbb1.trans (hb2.mono (by omega))
  clear hb2 x1 hG1 hbb1 hGL
  rcases hR2 with ⟨N, D, E, R, Q, M, T, hN3, _, _, rfl, hM, _, hFr⟩ | ⟨err, rfl, hbad⟩
  · obtain rfl : N = 3 := by omega
    obtain ⟨e0, _⟩ := FromIs.unique (hFr 0 (by omega)) lineL_from
    have d0 := hM.at (i := 0) (by omega)
    have hDl := hM.outer.lt
    have HI : Hid (IntsAt w2 (some ⟨R 0, 0, none⟩) [0, 4, 7]) := by rw [Hid, ← e0]; exact row_ints (hM.inner 0 (by omega))
    have HB : Hid (Below w.heap.size w w2) := hbb2
    have HX : Hid (w2.heap[w.heap.size]? = some (.cells #[.int .i64 n, .slice ao l.length cap] 24 (0, 0))) := x2
    have HG : Hid (GraphIn w2 ao cap l) := hG2
    have hq := equalIntsB (some ⟨R 0, 0, none⟩) (some ⟨w2.heap.size, 0, none⟩) 3 3 [0, 4, 7] [0, 4, 7] (w2.alloc (.cells #[.int .i64 0, .int .i64 4, .int .i64 7] 3)) (by decide) (by decide) (HI.out.alloc _) (ints_new w2 [0, 4, 7] 3)
    rw [decide_eq_true (rfl : ([0, 4, 7] : List Int) = [0, 4, 7])] at hq
    simp only [List.length_cons, List.length_nil, Nat.zero_add] at hq
    clear hM hFr e0 hbb2 x2 hG2 hN3
    go_wp2_with fail
    refine hq.mono ?_
    rintro e w3 ⟨rfl, hb3⟩
    have hz3 := hb3.size
    simp only [World.size_alloc] at hz3
    have HB3 : Hid (Below w.heap.size w w3) := (HB.out.alloc (by omega) _).trans (hb3.mono (by simp; omega))
    have x3 := blk_below hb3 (blk_old HX.out _) (by simp; omega)
    have HG3 : Hid (GraphIn w3 ao cap l) := (HG.out.alloc _).below hb3 (Nat.le_refl _)
    clear hq hb3 HI d0 HX HG HB hDl
    obtain ⟨r0, r1, f0, f1⟩ := blk2 x3
    go_wp2_with fail
    refine (hC n ao cap l _ HG3.out).mono ?_
    rintro e w4 ⟨hb4, hR4⟩
    have hz4 := hb4.size
    have x4 := blk_below hb4 x3 (by omega)
    have HB4 : Hid (Below w.heap.size w w4) := HB3.out.trans (hb4.mono (by omega))
    clear hb4 x3 r0 r1 f0 f1 HB3 HG3
    obtain ⟨r0, r1, f0, f1⟩ := blk2 x4
    rcases hR4 with ⟨N, D, E, R, Q, M, T, rfl, hE, _, rfl, hM, hT, hFr⟩ | ⟨err, rfl, hbad⟩
    · obtain ⟨⟨hn1, hn2⟩, hl60, hall⟩ := err_ok hE
      have hN12 : N ≤ 12 := by omega
      have hNN : ((N : Int) != (N : Int)) = false := by simp
      have hDl := hM.outer.lt
      have hEl := hT.outer.lt
      have HL : Hid (∀ a ∈ l, (0 ≤ a.1 ∧ a.1 < (N : Int)) ∧ (0 ≤ a.2.1 ∧ a.2.1 < (N : Int)) ∧ -10000 ≤ a.2.2 ∧ a.2.2 ≤ 10000) := hall
      have HM : Hid (PMat w3.heap.size w4 D R N N N M) := hM
      have HT : Hid (PMatB w4 E Q N N N T) := hT
      have HFr : Hid (∀ s : Nat, s < N → FromIs N l s ((List.range N).map (M s)) ((List.range N).map (T s))) := hFr
      clear hM hT hFr hall hE x4
      go_wp2_with fail
      go_loopw [62] (fun i wr => ∃ k : Nat, k ≤ N ∧ i = .int .i64 k ∧ ∃ q, wr = w4.drewN q) (fun i _ => N - (intOf i).toNat)
      case atStart => exact ⟨0, Nat.zero_le _, rfl, 0, rfl⟩
      case round =>
        obtain ⟨k, hk, rfl, q, rfl⟩ := hrel
        by_cases hlt : k < N
        · have d0 := HM.out.at hlt
          have e0 := HT.out.at hlt
          have z0 := HM.out.num hlt hlt
          rw [three_zero HFr.out (fun a ha => ⟨(HL.out a ha).1, (HL.out a ha).2.1⟩) hlt] at z0
          have hRl := (HM.out.inner k hlt).lt
          go_wp2
          go_quiet (fail)
          go_wp2
          go_roundw
          case rel => exact ⟨k + 1, by omega, by go_num, _, rfl⟩
          case measure => simp [intOf]; omega
        · have hkl : k = N := by omega
          subst hkl
          go_wp2
          go_loopw [96] (fun i wr => ∃ k' : Nat, k' ≤ k ∧ i = .int .i64 k' ∧ ∃ q, wr = w4.drewN q) (fun i _ => k - (intOf i).toNat)
          case atStart => exact ⟨0, Nat.zero_le _, rfl, _, rfl⟩
          case round =>
            obtain ⟨i, hi, rfl, q, rfl⟩ := hrel
            by_cases hi1 : i < k
            · go_wp2
              go_loopw [101] (fun i wr => ∃ k' : Nat, k' ≤ k ∧ i = .int .i64 k' ∧ ∃ q, wr = w4.drewN q) (fun i _ => k - (intOf i).toNat)
              case atStart => exact ⟨0, Nat.zero_le _, rfl, _, rfl⟩
              case round =>
                obtain ⟨m, hmm, rfl, q, rfl⟩ := hrel
                by_cases hm1 : m < k
                · go_wp2
                  go_loopw [106] (fun i wr => ∃ k' : Nat, k' ≤ k ∧ i = .int .i64 k' ∧ ∃ q, wr = w4.drewN q) (fun i _ => k - (intOf i).toNat)
                  case atStart => exact ⟨0, Nat.zero_le _, rfl, _, rfl⟩
                  case round =>
                    obtain ⟨j, hj, rfl, q, rfl⟩ := hrel
                    by_cases hj1 : j < k
                    · have e1 := HT.out.at hi1
                      have t1 := HT.out.num hi1 hm1
                      have hQi := (HT.out.inner i hi1).lt
                      clear r0 r1 f0 f1 hn1 hl60 hi hmm hj hk
                      cases g1 : T i m
                      · rw [g1] at t1
                        clear g1
                        go_wp2
                        go_quiet (fail)
                        go_wp2
                        go_roundw
                        case rel => exact ⟨j + 1, by omega, by go_num, _, rfl⟩
                        case measure => simp [intOf]; omega
                      · rw [g1] at t1
                        have e2 := HT.out.at hm1
                        have t2 := HT.out.num hm1 hj1
                        have hQm := (HT.out.inner m hm1).lt
                        cases g2 : T m j
                        · rw [g2] at t2
                          clear g1 g2
                          go_wp2
                          go_quiet (fail)
                          go_wp2
                          go_roundw
                          case rel => exact ⟨j + 1, by omega, by go_num, _, rfl⟩
                          case measure => simp [intOf]; omega
                        · rw [g2] at t2
                          obtain ⟨g3, g4⟩ := three HFr.out hi1 hm1 hj1 g1 g2
                          have t3 := HT.out.num hi1 hj1
                          rw [g3] at t3
                          have d1 := HM.out.at hi1
                          have d2 := HM.out.at hm1
                          have v1 := HM.out.num hi1 hj1
                          have v2 := HM.out.num hi1 hm1
                          have v3 := HM.out.num hm1 hj1
                          have hRi := (HM.out.inner i hi1).lt
                          have hRm := (HM.out.inner m hm1).lt
                          obtain ⟨b1, b1'⟩ := three_bound HFr.out hN12 HL.out hi1 hj1
                          obtain ⟨b2, b2'⟩ := three_bound HFr.out hN12 HL.out hi1 hm1
                          obtain ⟨b3, b3'⟩ := three_bound HFr.out hN12 HL.out hm1 hj1
                          have g5 : decide (M i m + M m j < M i j) = false := decide_eq_false (by omega)
                          clear g1 g2 g3 g4
                          generalize M i m = y1 at *
                          generalize M m j = y2 at *
                          generalize M i j = y3 at *
                          go_wp2
                          go_quiet (fail)
                          go_wp2
                          go_roundw
                          case rel => exact ⟨j + 1, by omega, by go_num, _, rfl⟩
                          case measure => simp [intOf]; omega
                    · have hjk : j = k := by omega
                      subst hjk
                      go_wp2
                      go_roundw
                      case rel => exact ⟨m + 1, by omega, by go_num, _, rfl⟩
                      case measure => simp [intOf]; omega
                · have hmk : m = k := by omega
                  subst hmk
                  go_wp2
                  go_roundw
                  case rel => exact ⟨i + 1, by omega, by go_num, _, rfl⟩
                  case measure => simp [intOf]; omega
            · have hik : i = k := by omega
              subst hik
              go_wp2
              go_ret
              exact ⟨rfl, below_drewN HB4.out _⟩
    · have hE' : (err != 0) = true := by simpa using hbad.ne
      clear hbad
      go_wp2
      go_ret
      exact ⟨rfl, HB4.out⟩
  · exact absurd (hbad.loop (by decide)).2 lineL_no

end Go.Proofs.Ytakemienlmlgkaa
