/- The law MostSays, walked, out of the contracts of Of and More. -/
import Derived.Test.YthlcbhbjngcnkaaRightR
import Derived.Test.YthlcbhbjngcnkaaMostC
import Derived.Test.YthlcbhbjngcnkaaAppJoin
import Derived.Deep.RegionHeld3
namespace Go.Proofs.Ythlcbhbjngcnkaa
open Go.RowKit
set_option linter.unusedVariables false

theorem MostTells.right {N s t : Nat} {l : List Arc3} {F : List Int} {v E : Int} (h : MostTells N s t l F v E) (hE : E = 0) : RightIs N s t l F v := by
  have h1 := h.flow hE
  have h2 := h.most hE
  rw [Int.toNat_natCast] at h1 h2
  exact ⟨h.net hE, h1.1, h1.2, h2⟩

set_option maxHeartbeats 8000000 in
set_option maxRecDepth 100000 in
theorem MostSays_any (hM : MOfC) (hK : MMoreC) (n s t : Int) (ao af : Option Addr) (cap capf : Nat) (l : List Arc3) (f : List Int) (w : World) (hG : GraphIn w ao cap l) (hI : IntsIn w af capf f) :
    Calls Try.prog 3 #[.agg #[.int .i64 n, .int .i64 s, .int .i64 t, .slice ao l.length cap], .slice af f.length capf] w fun e w' => e = .returned (.bool true) ∧ Below w.heap.size w w' := by
  have hG0 := hG.alloc (.cells #[.int .i64 n, .int .i64 s, .int .i64 t, .slice ao l.length cap] 24)
  have hI0 := hI.alloc (.cells #[.int .i64 n, .int .i64 s, .int .i64 t, .slice ao l.length cap] 24)
  have x0 := blk_new w (.cells #[.int .i64 n, .int .i64 s, .int .i64 t, .slice ao l.length cap] 24)
  obtain ⟨r0, r1, r2, r3⟩ := blk4 x0
  go_enter Try.func3, Try.ntmps3
  go_wp2_with fail
  refine (hM n s t ao cap l _ hG0).mono ?_
  rintro e w1 ⟨hb1, a1, c1, F, v, rfl, hIF, hT⟩
  simp only [World.size_alloc] at hb1
  have hz1 := hb1.size
  simp only [World.size_alloc] at hz1
  have x1 := blk_below hb1 x0 (by omega)
  have hG1 := hG0.below hb1 (by simp)
  have hI1 := hI0.below hb1 (by simp)
  have hB1 : Below w.heap.size w w1 := below_in hb1 (by omega)
  clear hb1 x0 hG0 hI0 r0 r1 r2 r3
  obtain ⟨r0, r1, r2, r3⟩ := blk4 x1
  obtain ⟨E, hE⟩ : ∃ E, netErr n s t l = E := ⟨_, rfl⟩
  have HT : Hid (MostTells n s t l F v E) := by rw [← hE]; exact hT
  rw [hE]
  have HE : Hid (netErr n s t l = E) := hE
  have HIF : Hid (IntsIn w1 a1 c1 F) := hIF
  clear hT hE hIF
  go_wp2_with fail
  refine (hK n s t ao af cap capf l f _ hG1 hI1).mono ?_
  rintro e W ⟨hb2, a2, c2, H, b, rfl, hIH, hT2⟩
  have hz2 := hb2.size
  have x2 := blk_below hb2 x1 (by omega)
  have HG : Hid (GraphIn W ao cap l) := hG1.below hb2 (Nat.le_refl _)
  have HI : Hid (IntsIn W af capf f) := hI1.below hb2 (Nat.le_refl _)
  have HF : Hid (IntsIn W a1 c1 F) := HIF.out.below hb2 (Nat.le_refl _)
  have HB : Hid (Below w.heap.size w W) := hB1.trans (hb2.mono (by omega))
  obtain ⟨Y, hY⟩ : ∃ Y, flowErr n s t l f = Y := ⟨_, rfl⟩
  have HT2 : Hid (MostTells n s t l H b Y) := by rw [← hY]; exact hT2
  rw [hY]
  have HY : Hid (flowErr n s t l f = Y) := hY
  have HH : Hid (IntsIn W a2 c2 H) := hIH
  have hw0 : w.heap.size < W.heap.size := by omega
  have HX : Hid (W.heap[w.heap.size]? = some (.cells #[.int .i64 n, .int .i64 s, .int .i64 t, .slice ao l.length cap] 24 (0, 0))) := x2
  clear hT2 hY hIH hb2 x1 x2 hG1 hI1 hB1 HIF hz1 hz2
  have q0 := (blk4 HX.out).1
  have q1 := (blk4 HX.out).2.1
  have q2 := (blk4 HX.out).2.2.1
  have q3 := (blk4 HX.out).2.2.2
  clear r0 r1 r2 r3
  have HS : Hid (∀ x : World, Below W.heap.size W x → Below W.heap.size W x ∧ x.cell? ⟨w.heap.size, 0, none⟩ = some (.int .i64 n) ∧ x.cell? ⟨w.heap.size, 1, none⟩ = some (.int .i64 s) ∧ x.cell? ⟨w.heap.size, 2, none⟩ = some (.int .i64 t) ∧ x.cell? ⟨w.heap.size, 3, none⟩ = some (.slice ao l.length cap)) :=
    fun x h => ⟨h, later h q0 hw0, later h q1 hw0, later h q2 hw0, later h q3 hw0⟩
  have HC1 : Hid (∀ x : World, Below W.heap.size W x → Calls Try.prog 10 #[.agg #[.int .i64 n, .int .i64 s, .int .i64 t, .slice ao l.length cap]] x fun e w' => e = .returned (.int .i64 E) ∧ Below W.heap.size W w') := fun x h => by
    have := refNetErr_any n s t ao cap l x HG.out.len (HG.out.arcs.below h (Nat.le_refl _))
    rw [HE.out] at this
    exact this.mono fun e w' ⟨h1, h2⟩ => ⟨h1, below_tr h h2⟩
  have HC2 : Hid (∀ x : World, Below W.heap.size W x → Calls Try.prog 11 #[.agg #[.int .i64 n, .int .i64 s, .int .i64 t, .slice ao l.length cap], .slice af f.length capf] x fun e w' => e = .returned (.int .i64 Y) ∧ Below W.heap.size W w') := fun x h => by
    have := refFlowErr_any n s t ao af cap capf l f x HG.out.len HI.out.len (HG.out.arcs.below h (Nat.le_refl _)) (HI.out.ints.below h (Nat.le_refl _))
    rw [HY.out] at this
    exact this.mono fun e w' ⟨h1, h2⟩ => ⟨h1, below_tr h h2⟩
  go_wp2
  go_cut [11, 12] (fun x y wx => x = .int .i64 E ∧ y = .int .i64 Y ∧ Below W.heap.size W wx)
  case first =>
    clear HG HI HF HB HT HT2 HE HY HH HX q0 q1 q2 q3 hM hK hG hI
    go_region_held3 (fun x => Below W.heap.size W x ∧ x.cell? ⟨w.heap.size, 0, none⟩ = some (.int .i64 n) ∧ x.cell? ⟨w.heap.size, 1, none⟩ = some (.int .i64 s) ∧ x.cell? ⟨w.heap.size, 2, none⟩ = some (.int .i64 t) ∧ x.cell? ⟨w.heap.size, 3, none⟩ = some (.slice ao l.length cap))
      (first
        | with_reducible assumption
        | with_reducible exact HS.out _ ((Below.refl _ _).drew))
      (first
        | (go_at_call 10; refine (HC1.out _ (And.left (by with_reducible assumption))).mono ?_; rintro e w3 ⟨rfl, hb3⟩; have hs3 := HS.out w3 hb3)
        | (go_at_call 11; refine (HC2.out _ (And.left (by with_reducible assumption))).mono ?_; rintro e w4 ⟨rfl, hb4⟩; have hs4 := HS.out w4 hb4))
    all_goals
      go_wp2
      go_meet
      case rel => exact ⟨rfl, rfl, by assumption⟩
  case rest =>
    obtain ⟨rfl, rfl, hbc⟩ := hcut
    have x3 := blk_below hbc HX.out hw0
    have HGc : Hid (GraphIn wc ao cap l) := HG.out.below hbc (Nat.le_refl _)
    have HFc : Hid (IntsIn wc a1 c1 F) := HF.out.below hbc (Nat.le_refl _)
    have HHc : Hid (IntsIn wc a2 c2 H) := HH.out.below hbc (Nat.le_refl _)
    have HBc : Hid (Below w.heap.size w wc) := HB.out.trans (hbc.mono (by omega))
    have hwc : w.heap.size < wc.heap.size := by have := hbc.size; omega
    clear HG HI HF HH HB HX HS HC1 HC2 q0 q1 q2 q3 hbc hw0
    obtain ⟨r0, r1, r2, r3⟩ := blk4 x3
    have g00 : ((0 : Int) == 0) = true := rfl
    have g01 : ((0 : Int) != 0) = false := rfl
    have HX : Hid (wc.heap[w.heap.size]? = some (.cells #[.int .i64 n, .int .i64 s, .int .i64 t, .slice ao l.length cap] 24 (0, 0))) := x3
    clear x3
    by_cases hE : E = 0
    · subst hE
      have hR := HT.out
      obtain ⟨_, hs, ht, _⟩ := net_ok HE.out
      obtain ⟨N, rfl⟩ := Int.eq_ofNat_of_zero_le (show 0 ≤ n by omega)
      obtain ⟨sN, rfl⟩ := Int.eq_ofNat_of_zero_le hs.1
      obtain ⟨tN, rfl⟩ := Int.eq_ofNat_of_zero_le ht.1
      have HR1 : Hid (RightIs N sN tN l F v) := hR.right rfl
      clear hR hs ht
      have hq1 := right_any N sN tN ao a1 cap c1 l F v wc HR1.out HGc.out.arcs HFc.out.ints
      by_cases hY : Y = 0
      · subst hY
        have HR2 : Hid (RightIs N sN tN l H b) := HT2.out.right rfl
        go_wp2_with fail
        refine hq1.mono ?_
        clear hq1
        rintro e w5 ⟨rfl, hb5⟩
        have x5 := blk_below hb5 HX.out hwc
        have hq2 := right_any N sN tN ao a2 cap c2 l H b w5 HR2.out (HGc.out.arcs.below hb5 (Nat.le_refl _)) (HHc.out.ints.below hb5 (Nat.le_refl _))
        have HB5 : Hid (Below w.heap.size w w5) := HBc.out.trans (hb5.mono (by omega))
        clear r0 r1 r2 r3
        obtain ⟨r0, r1, r2, r3⟩ := blk4 x5
        clear hb5 x5
        go_wp2_with fail
        refine hq2.mono ?_
        clear hq2
        rintro e w6 ⟨rfl, hb6⟩
        have HB6 : Hid (Below w.heap.size w w6) := HB5.out.trans (hb6.mono HB5.out.size)
        clear hb6 r0 r1 r2 r3
        go_wp2
        go_ret
        exact ⟨rfl, HB6.out⟩
      · obtain ⟨rfl, hb0⟩ := HT2.out.none hY
        obtain rfl : 0 = b := hb0.symm
        have e1 : (Y != 0) = true := by simpa using hY
        have e2 : (Y == Y) = true := by simp
        clear hY hb0
        simp only [List.length_nil]
        go_wp2_with fail
        refine hq1.mono ?_
        clear hq1
        rintro e w5 ⟨rfl, hb5⟩
        have HB5 : Hid (Below w.heap.size w w5) := HBc.out.trans (hb5.mono (by omega))
        clear hb5 r0 r1 r2 r3
        go_wp2
        go_ret
        exact ⟨rfl, HB5.out⟩
    · obtain ⟨rfl, hv0⟩ := HT.out.none hE
      obtain rfl : 0 = v := hv0.symm
      have hYE : E = Y := by rw [← HY.out, flow_bad (by rw [HE.out]; exact hE), HE.out]
      subst hYE
      obtain ⟨rfl, hb0⟩ := HT2.out.none hE
      obtain rfl : 0 = b := hb0.symm
      have e1 : (E != 0) = true := by simpa using hE
      have e2 : (E == E) = true := by simp
      have e3 : (E != E) = false := by simp
      have e4 : (E == 0) = false := by simpa using hE
      clear hE hv0 hb0
      simp only [List.length_nil]
      go_wp2
      go_ret
      exact ⟨rfl, HBc.out⟩

end Go.Proofs.Ythlcbhbjngcnkaa
