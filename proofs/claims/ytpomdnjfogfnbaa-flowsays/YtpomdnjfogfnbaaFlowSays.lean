/- The law FlowSays, walked, out of the contracts of Check, Value and Split. -/
import Derived.Test.YtpomdnjfogfnbaaPiecesF
import Derived.Test.YtpomdnjfogfnbaaFlowRef
namespace Go.Proofs.Ytpomdnjfogfnbaa
open Go.RowKit
set_option linter.unusedVariables false

set_option maxHeartbeats 4000000 in
set_option maxRecDepth 100000 in
theorem FlowSays_any (hK : FCheckC) (hC : FValueC) (hSp : FSplitC) (n s t : Int) (ao af : Option Addr) (cap capf : Nat) (l : List Arc3) (f : List Int) (w : World) (hG : GraphIn w ao cap l) (hF : IntsIn w af capf f) :
    Calls Try.prog 3 #[.agg #[.int .i64 n, .int .i64 s, .int .i64 t, .slice ao l.length cap], .slice af f.length capf] w fun e w' => e = .returned (.bool true) ∧ Below w.heap.size w w' := by
  have hG0 := hG.alloc (.cells #[.int .i64 n, .int .i64 s, .int .i64 t, .slice ao l.length cap] 24)
  have hF0 := hF.alloc (.cells #[.int .i64 n, .int .i64 s, .int .i64 t, .slice ao l.length cap] 24)
  have x0 := blk_new w (.cells #[.int .i64 n, .int .i64 s, .int .i64 t, .slice ao l.length cap] 24)
  have g00 : ((0 : Int) != 0) = false := rfl
  have g01 : ((0 : Int) == 0) = true := rfl
  go_enter Try.func3, Try.ntmps3
  go_wp2_with fail
  refine (hC n s t ao af cap capf l f _ hG0 hF0).mono ?_
  rintro e w1 ⟨hb1, rfl⟩
  simp only [World.size_alloc] at hb1
  have hz1 := hb1.size
  simp only [World.size_alloc] at hz1
  have x1 := blk_below hb1 x0 (by omega)
  have hG1 := hG0.below hb1 (by simp)
  have hF1 := hF0.below hb1 (by simp)
  have hbb1 := below_in hb1 (by omega)
  obtain ⟨r0, r1, r2, r3⟩ := blk4 x1
  obtain ⟨E, hE⟩ : ∃ E, flowErr n s t l f = E := ⟨_, rfl⟩
  obtain ⟨V, hV⟩ : ∃ V, valueOf n s t l f = V := ⟨_, rfl⟩
  have HVE : Hid (E ≠ 0 → V = 0) := fun h => by rw [← hV]; unfold valueOf; rw [if_neg (by rw [hE]; exact h)]
  have HV0 : Hid (E = 0 → V = gone l (ati f) s) := fun h => by rw [← hV]; unfold valueOf; rw [if_pos (by rw [hE]; exact h)]
  rw [hE, hV]
  have HE : Hid (flowErr n s t l f = E) := hE
  clear hb1 x0 hG0 hF0 hE hV
  go_wp2_with fail
  refine (hSp n s t ao af cap capf l f _ hG1 hF1).mono ?_
  rintro e w2 ⟨hb2, a3, c3, W, a4, c4, R, err, rfl, hPW, hPR, hSS⟩
  have hz2 := hb2.size
  have x2 := blk_below hb2 x1 (by omega)
  have hG2 := hG1.below hb2 (Nat.le_refl _)
  have hF2 := hF1.below hb2 (Nat.le_refl _)
  have hbb2 := hbb1.trans (hb2.mono (by omega))
  have HSS : Hid (SplitSays n s t l f (W.map PcV.pc) (R.map PcV.pc) err) := hSS
  clear r0 r1 r2 r3 x1 hG1 hF1 hb2 hbb1 hSS
  obtain ⟨r0, r1, r2, r3⟩ := blk4 x2
  have hq3 := refFlowErr_any n s t ao af cap capf l f w2 hG2.len hF2.len hG2.arcs hF2.ints
  rw [HE.out] at hq3
  go_wp2_with fail
  refine hq3.mono ?_
  clear hq3
  rintro e w3 ⟨rfl, hb3⟩
  have hz3 := hb3.size
  have x3 := blk_below hb3 x2 (by omega)
  have hG3 := hG2.below hb3 (Nat.le_refl _)
  have hF3 := hF2.below hb3 (Nat.le_refl _)
  have hPW3 := hPW.below hb3 (Nat.le_refl _)
  have hPR3 := hPR.below hb3 (Nat.le_refl _)
  have hbb3 := hbb2.trans (hb3.mono (by omega))
  clear r0 r1 r2 r3 x2 hG2 hF2 hb3 hbb2 hPW hPR
  obtain ⟨r0, r1, r2, r3⟩ := blk4 x3
  have hq4 := hK n s t ao af cap capf l f w3 hG3 hF3
  rw [HE.out] at hq4
  have gEE : (E != E) = false := by simp
  go_wp2_with fail
  refine hq4.mono ?_
  clear hq4
  rintro e w4 ⟨hb4, rfl⟩
  have hz4 := hb4.size
  have x4 := blk_below hb4 x3 (by omega)
  have hG4 := hG3.below hb4 (Nat.le_refl _)
  have hF4 := hF3.below hb4 (Nat.le_refl _)
  have hPW4 := hPW3.below hb4 (Nat.le_refl _)
  have hPR4 := hPR3.below hb4 (Nat.le_refl _)
  have hbb4 := hbb3.trans (hb4.mono (by omega))
  clear r0 r1 r2 r3 x3 hG3 hF3 hb4 hbb3 hPW3 hPR3
  obtain ⟨r0, r1, r2, r3⟩ := blk4 x4
  have hw4 : w.heap.size < w4.heap.size := by omega
  by_cases h0 : E = 0
  · subst h0
    obtain ⟨hN, hFl⟩ := flow_ok HE.out
    obtain ⟨hge, hs, ht, hst⟩ := net_ok hN
    obtain ⟨⟨hn1, hn2⟩, hl60, hall⟩ := err_ok hge
    obtain ⟨N, rfl⟩ := Int.eq_ofNat_of_zero_le (show 0 ≤ n by omega)
    rw [Int.toNat_natCast] at hFl
    obtain rfl := HV0.out rfl
    have HBd : Hid (∀ k, k < l.length → 0 ≤ ati f k ∧ ati f k ≤ 10000) := fun k hk => by
      have := hFl.bnd k hk
      have := (hall _ (at3_mem l k hk)).2.2
      omega
    have HN : Hid (netErr N s t l = 0) := hN
    have HFl : Hid (FlowIs N s t l f) := hFl
    have Hlf : Hid (f.length = l.length) := hFl.len
    have hq5 := refGone_any (N : Int) s t s ao af cap capf l f w4 hl60 Hlf.out hG4.arcs hF4.ints HBd.out
    rw [Hlf.out]
    obtain ⟨V, hV⟩ : ∃ V, gone l (ati f) s = V := ⟨_, rfl⟩
    rw [hV] at hq5 ⊢
    have HV : Hid (gone l (ati f) s = V) := hV
    have gVV : (V != V) = false := by simp
    clear hN hFl hge hall hs ht hst hV HVE HV0
    go_wp2_with fail
    refine hq5.mono ?_
    clear hq5
    rintro e w5 ⟨rfl, hb5⟩
    have hz5 := hb5.size
    have x5 := blk_below hb5 x4 (by omega)
    have hG5 := hG4.below hb5 (Nat.le_refl _)
    have hF5 := hF4.below hb5 (Nat.le_refl _)
    have hPW5 := hPW4.below hb5 (Nat.le_refl _)
    have hPR5 := hPR4.below hb5 (Nat.le_refl _)
    have HB5 : Hid (Below w.heap.size w w5) := hbb4.trans (hb5.mono (by omega))
    clear r0 r1 r2 r3 x4 hG4 hF4 hb5 hbb4 hPW4 hPR4
    obtain ⟨r0, r1, r2, r3⟩ := blk4 x5
    by_cases hneg : V < 0
    · have he := HSS.out.low HE.out (by rw [HV.out]; exact hneg)
      subst he
      obtain ⟨h1, h2⟩ := HSS.out.none (by decide)
      have e1 : W = [] := List.map_eq_nil_iff.1 h1
      have e2 : R = [] := List.map_eq_nil_iff.1 h2
      subst e1 e2
      have g9 : ((9 : Int) == 9) = true := rfl
      clear HSS h1 h2
      go_wp2
      go_ret
      exact ⟨rfl, HB5.out⟩
    · obtain ⟨rfl, hSI⟩ := HSS.out.ok HE.out (by rw [HV.out]; omega)
      have hq6 := pieces_any N s t ao af a3 a4 cap capf c3 c4 l f W R w5 hG5 hF5 hPW5 hPR5 HN.out HFl.out hSI
      rw [HV.out] at hq6
      clear HSS hSI
      go_wp2_with fail
      refine hq6.mono ?_
      clear hq6
      rintro e w6 ⟨rfl, hb6⟩
      have HB6 : Hid (Below w.heap.size w w6) := HB5.out.trans (hb6.mono (by have := HB5.out.size; omega))
      clear hb6
      go_wp2
      go_ret
      exact ⟨rfl, HB6.out⟩
  · have he := HSS.out.bad (by rw [HE.out]; exact h0)
    rw [HE.out] at he
    obtain rfl : E = err := he.symm
    obtain ⟨h1, h2⟩ := HSS.out.none h0
    have e1 : W = [] := List.map_eq_nil_iff.1 h1
    have e2 : R = [] := List.map_eq_nil_iff.1 h2
    subst e1 e2
    obtain rfl : 0 = V := (HVE.out h0).symm
    have g1 : (E != 0) = true := by simpa using h0
    have g2 : (E == E) = true := by simp
    clear HSS h1 h2 h0 HVE HV0 he
    go_wp2
    go_ret
    exact ⟨rfl, hbb4⟩

end Go.Proofs.Ytpomdnjfogfnbaa
