/- short.All keeps its contract. -/
import Derived.Test.YtakemienlmlgkaaSFrom
import Derived.Test.YtakemienlmlgkaaMatB
namespace Go.Proofs.Ytakemienlmlgkaa
open Go.RowKit
set_option linter.unusedVariables false

/-- what All tells where there is nothing to tell -/
structure AllBad (n : Int) (l : List Arc3) (err : Int) : Prop where
  ne : err ≠ 0
  bad : graphErr n (-10000) l ≠ 0 → err = graphErr n (-10000) l
  loop : graphErr n (-10000) l = 0 → err = 6 ∧ ∃ v, (0 ≤ v ∧ v < n) ∧ Neg l v

def AllC : Prop := ∀ (n : Int) (ao : Option Addr) (cap : Nat) (l : List Arc3) (w : World), GraphIn w ao cap l →
  Calls Try.prog 11 #[.agg #[.int .i64 n, .slice ao l.length cap]] w fun e w' => Below w.heap.size w w' ∧
    ((∃ (N D E : Nat) (R Q : Nat → Nat) (M : Nat → Nat → Int) (T : Nat → Nat → Bool), n = (N : Int) ∧ graphErr n (-10000) l = 0 ∧ (¬ ∃ v, (0 ≤ v ∧ v < n) ∧ Neg l v) ∧
        e = .returned (.tuple #[.slice (some ⟨D, 0, none⟩) N N, .slice (some ⟨E, 0, none⟩) N N, .int .i64 0]) ∧
        PMat w.heap.size w' D R N N N M ∧ PMatB w' E Q N N N T ∧ ∀ s : Nat, s < N → FromIs N l s ((List.range N).map (M s)) ((List.range N).map (T s))) ∨
      (∃ err, e = .returned (.tuple #[.slice none 0 0, .slice none 0 0, .int .i64 err]) ∧ AllBad n l err))

theorem noLoop_of {N : Nat} {l : List Arc3} (hl : ∀ a ∈ l, (0 ≤ a.1 ∧ a.1 < (N : Int)) ∧ (0 ≤ a.2.1 ∧ a.2.1 < (N : Int))) (h : ¬ ∃ v, (0 ≤ v ∧ v < (N : Int)) ∧ Neg l v) {s : Nat} (hs : s < N) : ¬ LoopFrom l s := fun hc => h (loop_any hl hs hc)

set_option maxHeartbeats 2000000 in
set_option maxRecDepth 100000 in
theorem All_any : AllC := by
  intro n ao cap l w hG
  have hm := hG.len
  have hG0 := hG.alloc (.cells #[.int .i64 n, .slice ao l.length cap] 24)
  have x0 := blk_new w (.cells #[.int .i64 n, .slice ao l.length cap] 24)
  go_enter Try.func11, Try.ntmps11
  go_wp2_with fail
  refine (Heights_any _ _ _ _ _ hG0).mono ?_
  rintro e w2 ⟨hb1, a1, c1, H, err, rfl, _, hS⟩
  simp only [World.size_alloc] at hb1
  have hz1 := hb1.size
  simp only [World.size_alloc] at hz1
  have x2 := blk_below hb1 x0 (by omega)
  have hbb2 := below_in hb1 (by omega)
  have hG2 := hG0.below hb1 (by simp)
  obtain ⟨r0, r1, f0, f1⟩ := blk2 x2
  clear hb1 hG0 x0
  by_cases hE : err = 0
  · subst hE
    obtain ⟨hE, hno, _⟩ := hS.right
    have HE : Hid (graphErr n (-10000) l = 0) := hE
    have h00 : ((0 : Int) != 0) = false := rfl
    clear hE hS
    obtain ⟨⟨hn1, hn2⟩, hl60, hall⟩ := err_ok HE.out
    obtain ⟨N, rfl⟩ := Int.eq_ofNat_of_zero_le (show 0 ≤ n by omega)
    have hwl : w.heap.size < w2.heap.size := by omega
    have hN12 : N ≤ 12 := by omega
    have HNo : Hid (¬ ∃ v, (0 ≤ v ∧ v < (N : Int)) ∧ Neg l v) := hno
    have HL : Hid (∀ s : Nat, s < N → ¬ LoopFrom l s) := fun s hs => noLoop_of (fun a ha => ⟨(hall a ha).1, (hall a ha).2.1⟩) hno hs
    have hmk1 := make_intss N (by omega)
    have hmk2 := make_boolss N (by omega)
    have HG : Hid (GraphIn w2 ao cap l) := hG2
    have HB : Hid (Below w.heap.size w w2) := hbb2
    have HX : Hid (w2.heap[w.heap.size]? = some (.cells #[.int .i64 (N : Int), .slice ao l.length cap] 24 (0, 0))) := x2
    clear hall hbb2 hG2 hG x2 hno
    go_wp2
    go_loopw [26] (fun i wr => ∃ (k : Nat) (R Q : Nat → Nat) (M : Nat → Nat → Int) (T : Nat → Nat → Bool), k ≤ N ∧ i = .int .i64 k ∧ PMat w.heap.size wr w2.heap.size R N N k M ∧ PMatB wr (w2.heap.size + 1) Q N N k T ∧ (∀ i, i < k → w2.heap.size + 1 < R i ∧ w2.heap.size + 1 < Q i) ∧ (∀ s : Nat, s < k → FromIs N l s ((List.range N).map (M s)) ((List.range N).map (T s))) ∧ Below w2.heap.size w2 wr) (fun i _ => N - (intOf i).toNat)
    case atStart =>
      refine ⟨0, fun _ => 0, fun _ => 0, fun _ _ => 0, fun _ _ => false, Nat.zero_le _, rfl, (nils_mat w.heap.size w2 N N _ _ (by omega)).alloc _, ?_, fun i hi => absurd hi (Nat.not_lt_zero _), fun i hi => absurd hi (Nat.not_lt_zero _), (below_one _ _).alloc (by simp) _⟩
      simpa using nils_matB (w2.alloc (.cells (nils N) 25)) N N (fun _ => 0) (fun _ _ => false)
    case round =>
      obtain ⟨k, R, Q, M, T, hk, rfl, hM, hT, hlo, hFr, hBl⟩ := hrel
      clear r0 r1 f0 f1
      have hz := hBl.size
      have hDl := hM.outer.lt
      have hEl := hT.outer.lt
      have x3 := blk_below hBl HX.out (by omega)
      obtain ⟨r0, r1, f0, f1⟩ := blk2 x3
      by_cases hlt : k < N
      · have HC := From_new (N : Int) (k : Int) ao cap l wr (HG.out.below hBl (Nat.le_refl _))
        have HM : Hid (PMat w.heap.size wr w2.heap.size R N N k M) := hM
        have HT : Hid (PMatB wr (w2.heap.size + 1) Q N N k T) := hT
        have HLo : Hid (∀ i, i < k → w2.heap.size + 1 < R i ∧ w2.heap.size + 1 < Q i) := hlo
        have HFr : Hid (∀ s : Nat, s < k → FromIs N l s ((List.range N).map (M s)) ((List.range N).map (T s))) := hFr
        have HBl : Hid (Below w2.heap.size w2 wr) := hBl
        clear hM hT hlo hFr hBl x3
        go_wp2_with fail
        refine HC.mono ?_
        rintro e w3 ⟨hb3, hC⟩
        clear HC r0 r1 f0 f1
        have hz3 := hb3.size
        rcases hC with ⟨N', b, c, F, K, eN, _, hb, hc, hbc, rfl, hF, hK, hS⟩ | ⟨err, rfl, herr, hS⟩
        · obtain rfl : N' = N := by omega
          obtain ⟨_, _, _, hFI⟩ := hS.right
          rw [Int.toNat_natCast] at hFI
          have hM3 := HM.out.below hb3 (Nat.le_refl _)
          have hT3 := HT.out.below hb3 (Nat.le_refl _)
          have q0 := hM3.outer.cell (i := k) hlt
          rw [if_neg (Nat.lt_irrefl k)] at q0
          have q1 := hM3.outer.frozen k
          have q2 := hT3.outer.cell (i := k) hlt
          rw [if_neg (Nat.lt_irrefl k)] at q2
          have q3 := hT3.outer.frozen k
          have hRl : ∀ i, i < k → R i < wr.heap.size := fun i hi => (HM.out.inner i hi).lt
          have HM4 := (hM3.more hlt (g := b) (f := F) hF (by omega) (by omega) (fun i hi => by have := hRl i hi; omega)).setElse (p := ⟨w2.heap.size + 1, k, none⟩) (by simp) (fun i hi => by
            by_cases e : i = k
            · simp only [e, if_true]; omega
            · simp only [e, if_false]; have := (HLo.out i (by omega)).1; omega) (.slice (some ⟨c, 0, none⟩) N' N')
          have HT4 := (hT3.setElse (p := ⟨w2.heap.size, k, none⟩) (by simp) (fun i hi => by have := (HLo.out i hi).2; simp only; omega) (.slice (some ⟨b, 0, none⟩) N' N')).more hlt (g := c) (f := K) (hK.setOther (by simp; omega) _) (by omega)
          have HBl4 : Hid (Below w2.heap.size w2 ((w3.setCell ⟨w2.heap.size, k, none⟩ (.slice (some ⟨b, 0, none⟩) N' N')).setCell ⟨w2.heap.size + 1, k, none⟩ (.slice (some ⟨c, 0, none⟩) N' N'))) :=
            ((HBl.out.trans (hb3.mono (by omega))).setCell (by simp) _).setCell (by simp) _
          have HM5 : Hid _ := HM4
          have HT5 : Hid _ := HT4
          have HFI : Hid (FromIs N' l (k : Int) ((List.range N').map F) ((List.range N').map K)) := hFI
          clear HM4 HT4 hM3 hT3 hF hK hS hFI hb3 HBl eN
          go_wp2
          go_roundw
          case rel =>
            refine ⟨k + 1, _, _, _, _, by omega, by go_num, HM5.out, HT5.out, fun i hi => ?_, fun s hs => ?_, HBl4.out⟩
            · by_cases e : i = k
              · simp only [e, if_true]; omega
              · simp only [e, if_false]; exact HLo.out i (by omega)
            · by_cases e : s = k
              · subst e; simpa using HFI.out
              · simpa [e] using HFr.out s (by omega)
          case measure => simp [intOf]; omega
        · exact absurd (hS.ok HE.out (by omega) (HL.out k hlt)).1 herr
      · have hkl : N = k := by omega
        subst hkl
        have HM : Hid (PMat w.heap.size wr w2.heap.size R N N N M) := hM
        have HT : Hid (PMatB wr (w2.heap.size + 1) Q N N N T) := hT
        have HFr : Hid (∀ s : Nat, s < N → FromIs N l s ((List.range N).map (M s)) ((List.range N).map (T s))) := hFr
        have HBw : Hid (Below w.heap.size w wr) := HB.out.trans (hBl.mono (by omega))
        clear hM hT hFr hBl x3 hlo
        go_wp2
        go_ret3
        exact ⟨HBw.out, Or.inl ⟨N, _, _, R, Q, M, T, rfl, HE.out, HNo.out, rfl, HM.out, HT.out, HFr.out⟩⟩
  · have hE' : (err != 0) = true := by simpa using hE
    have HS : Hid (AllBad n l err) := ⟨hE, hS.bad, fun h => by
      by_cases hc : ∃ v, (0 ≤ v ∧ v < n) ∧ Neg l v
      · exact ⟨hS.loop h hc, hc⟩
      · exact absurd (hS.ok h hc).1 hE⟩
    clear hE hS
    go_wp2
    go_ret3
    exact ⟨hbb2, Or.inr ⟨err, rfl, HS.out⟩⟩

end Go.Proofs.Ytakemienlmlgkaa
