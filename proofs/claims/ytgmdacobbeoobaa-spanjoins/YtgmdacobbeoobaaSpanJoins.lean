/- The law SpanJoins, walked out of the contracts of Least and Parts. -/
import Derived.Test.YtgmdacobbeoobaaSpanC
import Derived.Test.YtgmdacobbeoobaaCompM
import Derived.Test.YtgmdacobbeoobaaCompact
import Derived.Test.YtgmdacobbeoobaaShelf
import Derived.Test.YtgmdacobbeoobaaAppJoin
import Derived.Test.YtgmdacobbeoobaaFlat
import Derived.Test.YtgmdacobbeoobaaMk
import Derived.Deep.RegionLaw
namespace Go.Proofs.Ytgmdacobbeoobaa
open Go.RowKit
set_option linter.unusedVariables false

theorem pick_snocJ {l : List Arc3} {K : List Nat} {j : Nat} (h : j < K.length) : pickK l (K.take (j + 1)) = pickK l (K.take j) ++ [at3 l (K.getD j 0)] := by
  unfold pickK
  rw [List.take_add_one, List.getElem?_eq_getElem h, List.map_append]
  simp [h]

set_option maxRecDepth 10000 in
set_option maxHeartbeats 3000000 in
theorem SpanJoins_any (hC : LeastC) (hP : PartsC) (n : Int) (ao : Option Addr) (cap : Nat) (l : List Arc3) (w : World) (hG : GraphIn w ao cap l) :
    Calls Try.prog 5 #[.agg #[.int .i64 n, .slice ao l.length cap]] w fun e w' => e = .returned (.bool true) ∧ Below w.heap.size w w' := by
  have hne0 : ((0 : Int) != 0) = false := rfl
  have heq0 : ((0 : Int) == 0) = true := rfl
  have x0 := blk_new w (.cells #[.int .i64 n, .slice ao l.length cap] 24)
  have HG : Hid (GraphIn w ao cap l) := hG
  clear hG
  go_enter Try.func5, Try.ntmps5
  go_wp2_with fail
  refine (spans_any hC _).mono ?_
  rintro e w1 ⟨rfl, hb1⟩
  simp only [World.size_alloc] at hb1
  have hz1 := hb1.size
  simp only [World.size_alloc] at hz1
  have x1 := blk_below hb1 x0 (by omega)
  have HB1 : Hid (Below w.heap.size w w1) := below_in hb1 (by omega)
  have hG1 := HG.out.below HB1.out (Nat.le_refl _)
  clear hb1 x0
  obtain ⟨r0, r1, f0, f1⟩ := blk2 x1
  have hw1 : w.heap.size < w1.heap.size := by omega
  go_wp2_with fail
  refine (hC n ao cap l w1 hG1).mono ?_
  rintro e w3 ⟨hb3, ao3, cap3, K, sm, rfl, hI3, hz, hy⟩
  have hz3 := hb3.size
  have x3 := blk_below hb3 x1 hw1
  have HB3 : Hid (Below w.heap.size w w3) := below_tr HB1.out hb3
  have hG3 := HG.out.below HB3.out (Nat.le_refl _)
  have hwz3 : w.heap.size < w3.heap.size := by omega
  clear hb3 x1 r0 r1 f0 f1 hG1
  obtain ⟨r0, r1, f0, f1⟩ := blk2 x3
  go_wp2_with fail
  refine (hP n ao cap l w3 hG3).mono ?_
  rintro e w4 ⟨hb4, aoF, capF, F, rfl, hIF, hFz, hFy⟩
  have hz4 := hb4.size
  have x4 := blk_below hb4 x3 hwz3
  have HB4 : Hid (Below w.heap.size w w4) := below_tr HB3.out hb4
  have HI : Hid (IntsAt w4 ao3 (numK K)) := hI3.below hb4 (Nat.le_refl _)
  have HIF : Hid (IntsAt w4 aoF F) := hIF
  have hwz4 : w.heap.size < w4.heap.size := by omega
  clear hb4 x3 r0 r1 f0 f1 hG3 hI3 hIF
  obtain ⟨r0, r1, f0, f1⟩ := blk2 x4
  by_cases hE : graphErr n (-10000) l = 0
  · obtain ⟨hK, _⟩ := hy hE
    obtain ⟨⟨hn1, hn2⟩, hlen, hnod⟩ := err_ok hE
    obtain ⟨N, rfl⟩ := Int.eq_ofNat_of_zero_le (show 0 ≤ n by omega)
    have hPF := hFy hE
    rw [Int.toNat_natCast] at hPF
    have HPF : Hid (PartsIs N l F) := hPF
    have HNod : Hid (∀ a ∈ l, (0 ≤ a.1 ∧ a.1 < (N : Int)) ∧ (0 ≤ a.2.1 ∧ a.2.1 < (N : Int))) := fun a ha => ⟨(hnod a ha).1, (hnod a ha).2.1⟩
    have hKl : K.length ≤ 60 := by
      have := pigS (A := K) (m := List.range l.length) (hK.up.imp fun hlt => Nat.ne_of_lt hlt) fun x hx => List.mem_range.2 (hK.lt x hx)
      rw [List.length_range] at this; omega
    have HK : Hid (LeastIs l K) := hK
    have HE : Hid (graphErr (N : Int) (-10000) l = 0) := hE
    rw [hE]
    have HX : Hid (w4.heap[w.heap.size]? = some (.cells #[.int .i64 (N : Int), .slice ao l.length cap] 24 (0, 0))) := x4
    clear hy hz hK hE hnod x4 hFz hFy hPF
    have hbx := blk_new w4 (.cells #[.int .i64 (N : Int), .slice none 0 0] 24)
    obtain ⟨i0, hi, hz0, hz1', hz2'⟩ := info_parts infoArc
    go_wp2_with fail
    go_loopw [41] (fun i wr => ∃ j : Nat, j ≤ K.length ∧ i = .int .i64 j ∧ (∃ v, wr.heap[w4.heap.size]? = some (.cells #[.int .i64 (N : Int), v] 24 (0, 0)) ∧ wr.ownsRow w4.heap.size 32 3 v j (flat (pickK l (K.take j)))) ∧ Hid (Below w4.heap.size w4 wr)) (fun i _ => K.length - (intOf i).toNat)
    case atStart => exact ⟨0, Nat.zero_le _, rfl, ⟨_, hbx, World.ownsRow_nil _ _ _ _⟩, below_one _ _⟩
    case round =>
      obtain ⟨j, hj, rfl, ⟨v, hblk, hown⟩, HB⟩ := hrel
      have hzr := HB.out.size
      have xr := blk_below HB.out HX.out hwz4
      clear r0 r1 f0 f1
      obtain ⟨r0, r1, f0, f1⟩ := blk2 xr
      obtain ⟨aov, capv, rfl⟩ := owns_shape hown
      have hpl : w4.heap.size < wr.heap.size := (Array.getElem?_eq_some_iff.1 hblk).1
      obtain ⟨s0, s1, g0, g1⟩ := blk2 hblk
      by_cases hlt : j < K.length
      · obtain ⟨kb, ko, rfl, hkb, ck⟩ := HI.out.below HB.out (Nat.le_refl _) j (by rw [numK_len]; exact hlt)
        rw [numK_at hlt] at ck
        have hkK : K.getD j 0 ∈ K := by simp [hlt]
        have hkl := HK.out.lt _ hkK
        have hsn := pick_snocJ (l := l) hlt
        generalize K.getD j 0 = k at *
        have hGr := (HG.out.below HB4.out (Nat.le_refl _)).below HB.out (Nat.le_refl _)
        obtain ⟨ab, aof, rfl, hab, a0, a1, a2⟩ := hGr.arcs k hkl
        have hkI : (k : Int) < (l.length : Int) := by omega
        have hk0 : ¬ (k : Int) < 0 := by omega
        have hk1 : ¬ (l.length : Int) ≤ (k : Int) := by omega
        generalize at3 l k = a at *
        obtain ⟨af, at', ac⟩ := a
        simp only at a0 a1 a2
        have HS : Hid (flat (pickK l (K.take (j + 1))) = flat (pickK l (K.take j)) ++ [.int .i64 af, .int .i64 at', .int .i64 ac]) := by rw [Hid, hsn, flat_append]; rfl
        have HBk : Hid (wr.heap[w4.heap.size]? = some (.cells #[.int .i64 (N : Int), .slice aov j capv] 24 (0, 0))) := hblk
        have hwr0 : w.heap.size < wr.heap.size := by omega
        have hww : ¬ w.heap.size = w4.heap.size := by omega
        have HKm : Hid (j + 1 ≤ maxLen) := by unfold Hid maxLen; omega
        have HKm2 : Hid ((j + 1) * 24 ≤ 140737488355328) := by unfold Hid; omega
        have HO1 : Hid (∀ u ∈ [Value.int .i64 af, .int .i64 at', .int .i64 ac], u.oneCell' = true) := by intro u hu; simp at hu; rcases hu with rfl | rfl | rfl <;> rfl
        have HOw : Hid (wr.ownsRow w4.heap.size 32 3 (.slice aov j capv) j (flat (pickK l (K.take j)))) := hown
        clear hsn hblk hown hkK
        have HO : Hid ((wr.alloc (.cells #[.int .i64 af, .int .i64 at', .int .i64 ac] 32)).drew.ownsRow w4.heap.size 32 3 (.slice aov j capv) j (flat (pickK l (K.take j)))) := (HOw.out.alloc _).drew
        have HC1 : Hid (∀ i u, [Value.int .i64 af, .int .i64 at', .int .i64 ac][i]? = some u → (wr.alloc (.cells #[.int .i64 af, .int .i64 at', .int .i64 ac] 32)).drew.cell? ((⟨wr.heap.size, 0, none⟩ : Addr).add i) = some u) := news3 (blk_drew (blk_new wr _))
        have HGr : Hid (∀ v8 w8, World.ownsRow w8 w4.heap.size 32 3 v8 (j + 1) (flat (pickK l (K.take j)) ++ [.int .i64 af, .int .i64 at', .int .i64 ac]) → (wr.alloc (.cells #[.int .i64 af, .int .i64 at', .int .i64 ac] 32)).drew.grownBy w8 (Value.slice aov j capv).ownBlock →
            ∃ ao8 cap8, v8 = .slice ao8 (j + 1) cap8 ∧ Hid (w8.ownsRow w4.heap.size 32 3 (.slice ao8 (j + 1) cap8) (j + 1) (flat (pickK l (K.take (j + 1))))) ∧
              w8.heap[w4.heap.size]? = some (.cells #[.int .i64 (N : Int), .slice aov j capv] 24 (0, 0)) ∧ Hid (Below w4.heap.size w4 w8)) := fun v8 w8 h2 h3 => by
          obtain ⟨ao8, cap8, rfl⟩ := owns_shape h2
          exact ⟨ao8, cap8, rfl, by rw [Hid, HS.out]; exact h2, grown_blk HO.out h3 (by decide) (blk_drew (blk_old HBk.out _)), grown_bel ((HB.out.alloc hzr _).drew) HO.out h3⟩
        go_wp2_with fail
        go_region_law (refine step_append_own rfl (.tmp 55) (.tmp 61) 22 rfl w4.heap.size 32 i0 _ 3 24 Try.underlying22 hi hz0 hz1' hz2' rfl (by decide) (.slice aov j capv) j (flat (pickK l (K.take j))) (by simp [Act.eval]) HO.out ⟨wr.heap.size, 0, none⟩ 1 1 [.int .i64 af, .int .i64 at', .int .i64 ac] (by simp [Act.eval]) rfl HC1.out HO1.out HKm.out HKm2.out (by simp; omega) ?_; intro v8 w8 hown8 hgrow8 _; obtain ⟨ao8, cap8, rfl, HO8, hbk8, HB8⟩ := HGr.out v8 w8 hown8 hgrow8; have HBk8 : Hid (w8.heap[w4.heap.size]? = some (.cells #[.int .i64 (N : Int), .slice aov j capv] 24 (0, 0))) := hbk8; obtain ⟨u0, u1, u2, u3⟩ := blk2 hbk8; have u4 : w4.heap.size < w8.heap.size := (Array.getElem?_eq_some_iff.1 hbk8).1; clear hown8 hgrow8 hbk8)
        all_goals
          have HBn : Hid ((w8.setCell ⟨w4.heap.size, 1, none⟩ (.slice ao8 (j + 1) cap8)).heap[w4.heap.size]? = some (.cells #[.int .i64 (N : Int), .slice ao8 (j + 1) cap8] 24 (0, 0))) := blk2_set1 HBk8.out _
          have HOn : Hid ((w8.setCell ⟨w4.heap.size, 1, none⟩ (.slice ao8 (j + 1) cap8)).ownsRow w4.heap.size 32 3 (.slice ao8 (j + 1) cap8) (j + 1) (flat (pickK l (K.take (j + 1))))) := owns_set HO8.out (fun _ _ g c e => owns_ne HO8.out HBk8.out (by decide) g c e) _
          go_wp2_with fail
          go_roundw
          case rel => exact ⟨j + 1, by omega, by go_num, ⟨_, HBn.out, HOn.out⟩, HB8.out.setCell (Nat.le_refl _) _⟩
          case measure => simp [intOf]; omega
      · obtain rfl : j = K.length := by omega
        rw [List.take_of_length_le (Nat.le_refl _)] at hown
        have hpl2 : (pickK l K).length = K.length := by simp [pickK]
        have hown2 := hown
        rw [← hpl2] at hown2
        obtain ⟨ao5, cap5, e5, hA5, _, hc5, hm5⟩ := owns_arcs hown2
        rw [hpl2] at e5
        cases e5
        have hG5 : GraphIn wr aov capv (pickK l K) := ⟨hA5, hc5, hm5, fun e => by
          rcases hown.2 with ⟨e', h0⟩ | ⟨g', c', cur, e', _⟩
          · simp at e'; exact ⟨by rw [hpl2]; exact h0, e'.2.2⟩
          · rw [e] at e'; simp at e'⟩
        have hcall := hP (N : Int) aov capv (pickK l K) wr hG5
        have hEp := pickK_err HK.out HE.out
        rw [hpl2, hEp] at hcall
        have HBw : Hid (Below w.heap.size w wr) := below_tr HB4.out HB.out
        have HIFr : Hid (IntsAt wr aoF F) := HIF.out.below HB.out (Nat.le_refl _)
        clear hown hown2 hA5 hc5 hm5 hG5 hpl2
        go_wp2_with fail
        refine hcall.mono ?_
        rintro e w9 ⟨hb9, aoQ, capQ, F', rfl, hIQ, _, hQy⟩
        have hPQ := hQy trivial
        rw [Int.toNat_natCast] at hPQ
        have hPQ' : PartsIs N l F' := hPQ.congr fun u v => by rw [HK.out.all]; exact Jn.same fun a => pickK_mem HK.out.lt
        obtain rfl : F' = F := hPQ'.unique HPF.out
        have hFl := HPF.out.len
        have hz9 := hb9.size
        have xr9 := blk_below hb9 xr (by omega)
        have hIF9 := HIFr.out.below hb9 (Nat.le_refl _)
        have HB9 : Hid (Below w.heap.size w w9) := below_tr HBw.out hb9
        have HIF9 : Hid (IntsAt w9 aoF F') := hIF9
        have HIQ9 : Hid (IntsAt w9 aoQ F') := hIQ
        have hcl := cloneInts aoF capF F' w9 hIF9 (fun e => by
          obtain ⟨_, _, e', _⟩ := hIF9 0 (by omega)
          rw [e] at e'; cases e') (by omega)
        have hcnt := HK.out.count HNod.out HPF.out
        have hw9z : w.heap.size < w9.heap.size := by omega
        have HFl : Hid (F'.length = N) := hFl
        have hF60 : F'.length ≤ 60 := by omega
        have hF1 : 0 < F'.length := by omega
        clear hQy hPQ hPQ' hIF9 hIQ hb9 hcall hFl r0 r1 f0 f1 s0 s1 g0 g1 xr
        go_wp2_with fail
        refine hcl.mono ?_
        rintro e w10 ⟨hb10, v, rfl, hv⟩
        have hz10 := hb10.size
        have x10 := blk_below hb10 xr9 hw9z
        obtain ⟨aos, caps, rfl⟩ := owns_form hv
        have hso := sortInts w9.heap.size (.slice aos F'.length caps) F' w10 hv hz10 hF60
        have HB10 : Hid (Below w.heap.size w w10) := below_tr HB9.out hb10
        have HF10 : Hid (IntsAt w10 aoF F') := HIF9.out.below hb10 (Nat.le_refl _)
        have HQ10 : Hid (IntsAt w10 aoQ F') := HIQ9.out.below hb10 (Nat.le_refl _)
        have HF9 : Hid (IntsAt w9 aoF F') := HIF9.out
        have HQ9 : Hid (IntsAt w9 aoQ F') := HIQ9.out
        have HB910 : Hid (Below w9.heap.size w9 w10) := hb10
        clear hb10 hv hcl
        go_wp2_with fail
        refine hso.mono ?_
        rintro e w11 ⟨rfl, hb11, hv11⟩
        have hz11 := hb11.size
        have x11 := blk_below hb11 x10 hw9z
        obtain ⟨r0, r1, f0, f1⟩ := blk2 x11
        have HX11 : Hid (w11.heap[w.heap.size]? = some (.cells #[.int .i64 (N : Int), .slice ao l.length cap] 24 (0, 0))) := x11
        have HB11 : Hid (Below w.heap.size w w11) := HB10.out.trans (hb11.mono (by omega))
        have HF11 : Hid (IntsAt w11 aoF F') := HF9.out.below (HB910.out.trans hb11) (Nat.le_refl _)
        have HQ11 : Hid (IntsAt w11 aoQ F') := HQ9.out.below (HB910.out.trans hb11) (Nat.le_refl _)
        have HO11 : Hid (w11.ownsRow w9.heap.size 3 1 (.slice aos F'.length caps) (sorted F').length (flati (sorted F'))) := hv11
        obtain ⟨R, hR⟩ : ∃ R, R = roots N F' := ⟨_, rfl⟩
        have HR : Hid ((Lib.compact (sorted F')).length = R) := by
          rw [Hid, hR]
          exact compact_roots HPF.out (fun x => (sorted_perm F').mem_iff) fun i j hij hj => sorted_ati hij (by rwa [sorted_length] at hj)
        rw [← hR] at hcnt
        have HEq : Hid (∀ x : World, Below w11.heap.size w11 x → Calls Try.prog 13 #[.slice aoF F'.length capF, .slice aoQ F'.length capQ] x fun e w' => e = .returned (.bool true) ∧ Below w11.heap.size w11 w') := fun x hx => by
          have h := equalIntsB aoF aoQ capF capQ F' F' x (by unfold maxLen; omega) (by unfold maxLen; omega) (HF11.out.below hx (Nat.le_refl _)) (HQ11.out.below hx (Nat.le_refl _))
          rw [decide_eq_true (rfl : F' = F')] at h
          exact h.mono fun e w' ⟨h1, h2⟩ => ⟨h1, below_tr hx h2⟩
        have HCo : Hid (∀ x : World, Below w11.heap.size w11 x → Calls Try.prog 14 #[.slice aos F'.length caps] x fun e w' => (∃ aoc capc, e = .returned (.slice aoc R capc)) ∧ Below w9.heap.size w11 w') := fun x hx => by
          have hx2 := hx.size
          refine (compactInts w9.heap.size (.slice aos F'.length caps) (sorted F') x (owns_below HO11.out hx (Nat.le_refl _)) (by omega) (by rw [sorted_length]; exact hF1) (by rw [sorted_length]; exact hF60)).mono ?_
          rintro e w' ⟨aoc, capc, rfl, hb⟩
          exact ⟨⟨aoc, capc, by rw [HR.out]⟩, (hx.mono (by omega)).trans hb⟩
        have hKR : ((K.length : Int) == (N : Int) - (R : Int)) = true := by rw [beq_iff_eq]; omega
        have hRN : R ≤ N := by omega
        have hwrp : IntKind.i64.wrap ((N : Int) - (R : Int)) = (N : Int) - (R : Int) := by rw [IntKind.wrap_i64]; omega
        have hwz11 : w.heap.size < w11.heap.size := by omega
        clear hR hcnt hv11 hb11 x11 x10 xr9 hso
        go_wp2_with fail
        go_region_with (first
          | (go_at_call 13; refine (HEq.out _ (by first | exact Below.refl _ _ | exact (Below.refl _ _).drew)).mono ?_; rintro e w12 ⟨rfl, hb12⟩; have t0 := later hb12 r0 hwz11)
          | (go_at_call 14; refine (HCo.out _ (by first | assumption | exact (Below.drew (by assumption)))).mono ?_; rintro e w13 ⟨⟨aoc, capc, rfl⟩, hb13⟩; have t1 := later hb13 r0 hw9z))
        all_goals
          go_wp2_with fail
          go_ret
          exact ⟨rfl, HB11.out.trans (hb13.mono (by omega))⟩
  · have hEn : (graphErr n (-10000) l != 0) = true := by simpa using hE
    have hEE : (graphErr n (-10000) l == graphErr n (-10000) l) = true := beq_self_eq_true _
    clear hE hy hz hFz hFy
    generalize graphErr n (-10000) l = E at *
    go_wp2_with fail
    go_ret
    exact ⟨rfl, HB4.out⟩

end Go.Proofs.Ytgmdacobbeoobaa
