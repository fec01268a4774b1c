/- The law SpanWide, walked out of the contracts of Least and Wide. -/
import Derived.Test.YtgmdacobbeoobaaSpanC
import Derived.Test.YtgmdacobbeoobaaAppJoin
import Derived.Test.YtgmdacobbeoobaaFlat
import Derived.Test.YtgmdacobbeoobaaMk
import Derived.Deep.RegionLaw
namespace Go.Proofs.Ytgmdacobbeoobaa
open Go.RowKit
set_option linter.unusedVariables false

theorem line_wide {c err : Int} (h : WideIs 3 lineL 0 2 c err) : c = 4 ∧ err = 0 := by
  have hE : graphErr 3 (-10000) lineL = 0 := by decide
  have j1 : Jn lineL 0 1 := Jn.arc (a := (0, 1, 4)) (by simp [lineL])
  have j2 : Jn lineL 1 2 := Jn.arc (a := (1, 2, 3)) (by simp [lineL])
  obtain ⟨e, j, m⟩ := h.some hE (by omega) (by omega) (j1.trans j2)
  have h4 : c ≤ 4 := m 4 (by
    have : sel lineL (fun j => decide ((at3 lineL j).2.2 ≤ 4)) = lineL := by decide
    rw [this]; exact j1.trans j2)
  refine ⟨?_, e⟩
  have : ¬ c < 4 := fun hlt => by
    have : ((0 : Int) = 0) ↔ ((2 : Int) = 0) := Jn.keeps (fun u v => (u = 0 ↔ v = 0)) (fun _ => Iff.rfl) (fun _ _ h => h.symm) (fun _ _ _ h1 h2 => h1.trans h2) (fun a ha => by
      obtain ⟨i, hi, hq, rfl⟩ := mem_sel.1 ha
      have hq := of_decide_eq_true hq
      have hi : i < 2 := hi
      rcases (by omega : i = 0 ∨ i = 1) with rfl | rfl
      · have : (4 : Int) ≤ c := hq
        omega
      · decide) j
    omega
  omega

theorem line_in {w : World} {ao : Option Addr} {cap : Nat} (hA : ArcsAt w ao lineL) (h1 : 2 ≤ cap) (h2 : cap ≤ maxLen) : GraphIn w ao cap lineL := by
  refine ⟨hA, h1, h2, fun e => ?_⟩
  obtain ⟨b, off, e', _⟩ := hA 0 (by decide)
  rw [e] at e'; cases e'

theorem pick_snoc {l : List Arc3} {K : List Nat} {j : Nat} (h : j < K.length) : pickK l (K.take (j + 1)) = pickK l (K.take j) ++ [at3 l (K.getD j 0)] := by
  unfold pickK
  rw [List.take_add_one, List.getElem?_eq_getElem h, List.map_append]
  simp [h]

set_option maxRecDepth 10000 in
set_option maxHeartbeats 2000000 in
theorem SpanWide_any (hC : LeastC) (hW : WideC) (n s t : Int) (ao : Option Addr) (cap : Nat) (l : List Arc3) (w : World) (hG : GraphIn w ao cap l) :
    Calls Try.prog 6 #[.agg #[.int .i64 n, .slice ao l.length cap], .int .i64 s, .int .i64 t] w fun e w' => e = .returned (.bool true) ∧ Below w.heap.size w w' := by
  have hne0 : ((0 : Int) != 0) = false := rfl
  have hne4 : ((4 : Int) != 4) = false := rfl
  have x0 := blk_new w (.cells #[.int .i64 n, .slice ao l.length cap] 24)
  have HG : Hid (GraphIn w ao cap l) := hG
  clear hG
  go_enter Try.func6, Try.ntmps6
  go_wp2_with fail
  refine (line_any _).mono ?_
  rintro e w1 ⟨hb1, ao1, cap1, rfl, hA1, hc1, hm1⟩
  simp only [World.size_alloc] at hb1
  have hz1 := hb1.size
  simp only [World.size_alloc] at hz1
  have x1 := blk_below hb1 x0 (by omega)
  have HB1 : Hid (Below w.heap.size w w1) := below_in hb1 (by omega)
  clear hb1 x0
  have hWl := hW 3 0 2 ao1 cap1 lineL w1 (line_in hA1 hc1 hm1)
  rw [show lineL.length = 2 from rfl] at hWl
  go_wp2_with fail
  refine hWl.mono ?_
  rintro e w2 ⟨hb2, c2, e2, rfl, hw2⟩
  obtain ⟨rfl, rfl⟩ := line_wide hw2
  have hz2 := hb2.size
  have x2 := blk_below hb2 x1 (by omega)
  have HB2 : Hid (Below w.heap.size w w2) := below_tr HB1.out hb2
  have hG2 := HG.out.below HB2.out (Nat.le_refl _)
  have hwz2 : w.heap.size < w2.heap.size := by omega
  clear hb2 x1 hWl hw2 hA1 HB1
  obtain ⟨r0, r1, f0, f1⟩ := blk2 x2
  go_wp2_with fail
  refine (hC n ao cap l w2 hG2).mono ?_
  rintro e w3 ⟨hb3, ao3, cap3, K, sm, rfl, hI3, hz, hy⟩
  have hz3 := hb3.size
  have x3 := blk_below hb3 x2 hwz2
  have HB3 : Hid (Below w.heap.size w w3) := below_tr HB2.out hb3
  have hG3 := HG.out.below HB3.out (Nat.le_refl _)
  have hwz3 : w.heap.size < w3.heap.size := by omega
  clear hb3 x2 r0 r1 f0 f1 hG2
  obtain ⟨r0, r1, f0, f1⟩ := blk2 x3
  go_wp2_with fail
  refine (hW n s t ao cap l w3 hG3).mono ?_
  rintro e w4 ⟨hb4, c, f, rfl, hwd⟩
  have hz4 := hb4.size
  have x4 := blk_below hb4 x3 hwz3
  have HB4 : Hid (Below w.heap.size w w4) := below_tr HB3.out hb4
  have HI : Hid (IntsAt w4 ao3 (numK K)) := hI3.below hb4 (Nat.le_refl _)
  have hwz4 : w.heap.size < w4.heap.size := by omega
  clear hb4 x3 r0 r1 f0 f1 hG3 hI3
  obtain ⟨r0, r1, f0, f1⟩ := blk2 x4
  by_cases hE : graphErr n (-10000) l = 0
  · obtain ⟨hK, _⟩ := hy hE
    obtain ⟨⟨hn1, hn2⟩, hlen, hnod⟩ := err_ok hE
    have hKl : K.length ≤ 60 := by
      have := pigS (A := K) (m := List.range l.length) (hK.up.imp fun hlt => Nat.ne_of_lt hlt) fun x hx => List.mem_range.2 (hK.lt x hx)
      rw [List.length_range] at this; omega
    have HK : Hid (LeastIs l K) := hK
    have HE : Hid (graphErr n (-10000) l = 0) := hE
    have HWd : Hid (WideIs n l s t c f) := hwd
    rw [hE]
    have HX : Hid (w4.heap[w.heap.size]? = some (.cells #[.int .i64 n, .slice ao l.length cap] 24 (0, 0))) := x4
    clear hy hz hK hE hwd hnod x4
    have hbx := blk_new w4 (.cells #[.int .i64 n, .slice none 0 0] 24)
    obtain ⟨i0, hi, hz0, hz1', hz2'⟩ := info_parts infoArc
    go_wp2_with fail
    go_loopw [53] (fun i wr => ∃ j : Nat, j ≤ K.length ∧ i = .int .i64 j ∧ (∃ v, wr.heap[w4.heap.size]? = some (.cells #[.int .i64 n, v] 24 (0, 0)) ∧ wr.ownsRow w4.heap.size 32 3 v j (flat (pickK l (K.take j)))) ∧ Hid (Below w4.heap.size w4 wr)) (fun i _ => K.length - (intOf i).toNat)
    case atStart => exact ⟨0, Nat.zero_le _, rfl, ⟨_, hbx, World.ownsRow_nil _ _ _ _⟩, below_one _ _⟩
    case round =>
      obtain ⟨j, hj, rfl, ⟨v, hblk, hown⟩, HB⟩ := hrel
      have hzr := HB.out.size
      have xr := blk_below HB.out HX.out hwz4
      clear r0 r1 f0 f1
      obtain ⟨r0, r1, f0, f1⟩ := blk2 xr
      obtain ⟨aov, capv, rfl⟩ := owns_shape hown
      have hpl : w4.heap.size < wr.heap.size := (Array.getElem?_eq_some_iff.1 hblk).1
      obtain ⟨s0, s1, g0, g1⟩ := blk2 hblk
      by_cases hlt : j < K.length
      · obtain ⟨kb, ko, rfl, hkb, ck⟩ := HI.out.below HB.out (Nat.le_refl _) j (by rw [numK_len]; exact hlt)
        rw [numK_at hlt] at ck
        have hkK : K.getD j 0 ∈ K := by simp [hlt]
        have hkl := HK.out.lt _ hkK
        have hsn := pick_snoc (l := l) hlt
        generalize K.getD j 0 = k at *
        have hGr := (HG.out.below HB4.out (Nat.le_refl _)).below HB.out (Nat.le_refl _)
        obtain ⟨ab, aof, rfl, hab, a0, a1, a2⟩ := hGr.arcs k hkl
        have hkI : (k : Int) < (l.length : Int) := by omega
        have hk0 : ¬ (k : Int) < 0 := by omega
        have hk1 : ¬ (l.length : Int) ≤ (k : Int) := by omega
        generalize at3 l k = a at *
        obtain ⟨af, at', ac⟩ := a
        simp only at a0 a1 a2
        have HS : Hid (flat (pickK l (K.take (j + 1))) = flat (pickK l (K.take j)) ++ [.int .i64 af, .int .i64 at', .int .i64 ac]) := by rw [Hid, hsn, flat_append]; rfl
        have HBk : Hid (wr.heap[w4.heap.size]? = some (.cells #[.int .i64 n, .slice aov j capv] 24 (0, 0))) := hblk
        have hwr0 : w.heap.size < wr.heap.size := by omega
        have hww : ¬ w.heap.size = w4.heap.size := by omega
        have HKm : Hid (j + 1 ≤ maxLen) := by unfold Hid maxLen; omega
        have HKm2 : Hid ((j + 1) * 24 ≤ 140737488355328) := by unfold Hid; omega
        have HO1 : Hid (∀ u ∈ [Value.int .i64 af, .int .i64 at', .int .i64 ac], u.oneCell' = true) := by intro u hu; simp at hu; rcases hu with rfl | rfl | rfl <;> rfl
        have HOw : Hid (wr.ownsRow w4.heap.size 32 3 (.slice aov j capv) j (flat (pickK l (K.take j)))) := hown
        clear hsn hblk hown hkK
        have HO : Hid ((wr.alloc (.cells #[.int .i64 af, .int .i64 at', .int .i64 ac] 32)).drew.ownsRow w4.heap.size 32 3 (.slice aov j capv) j (flat (pickK l (K.take j)))) := (HOw.out.alloc _).drew
        have HC1 : Hid (∀ i u, [Value.int .i64 af, .int .i64 at', .int .i64 ac][i]? = some u → (wr.alloc (.cells #[.int .i64 af, .int .i64 at', .int .i64 ac] 32)).drew.cell? ((⟨wr.heap.size, 0, none⟩ : Addr).add i) = some u) := news3 (blk_drew (blk_new wr _))
        have HGr : Hid (∀ v8 w8, World.ownsRow w8 w4.heap.size 32 3 v8 (j + 1) (flat (pickK l (K.take j)) ++ [.int .i64 af, .int .i64 at', .int .i64 ac]) → (wr.alloc (.cells #[.int .i64 af, .int .i64 at', .int .i64 ac] 32)).drew.grownBy w8 (Value.slice aov j capv).ownBlock →
            ∃ ao8 cap8, v8 = .slice ao8 (j + 1) cap8 ∧ Hid (w8.ownsRow w4.heap.size 32 3 (.slice ao8 (j + 1) cap8) (j + 1) (flat (pickK l (K.take (j + 1))))) ∧
              w8.heap[w4.heap.size]? = some (.cells #[.int .i64 n, .slice aov j capv] 24 (0, 0)) ∧ Hid (Below w4.heap.size w4 w8)) := fun v8 w8 h2 h3 => by
          obtain ⟨ao8, cap8, rfl⟩ := owns_shape h2
          exact ⟨ao8, cap8, rfl, by rw [Hid, HS.out]; exact h2, grown_blk HO.out h3 (by decide) (blk_drew (blk_old HBk.out _)), grown_bel ((HB.out.alloc hzr _).drew) HO.out h3⟩
        go_wp2_with fail
        go_region_law (refine step_append_own rfl (.tmp 67) (.tmp 73) 22 rfl w4.heap.size 32 i0 _ 3 24 Try.underlying22 hi hz0 hz1' hz2' rfl (by decide) (.slice aov j capv) j (flat (pickK l (K.take j))) (by simp [Act.eval]) HO.out ⟨wr.heap.size, 0, none⟩ 1 1 [.int .i64 af, .int .i64 at', .int .i64 ac] (by simp [Act.eval]) rfl HC1.out HO1.out HKm.out HKm2.out (by simp; omega) ?_; intro v8 w8 hown8 hgrow8 _; obtain ⟨ao8, cap8, rfl, HO8, hbk8, HB8⟩ := HGr.out v8 w8 hown8 hgrow8; have HBk8 : Hid (w8.heap[w4.heap.size]? = some (.cells #[.int .i64 n, .slice aov j capv] 24 (0, 0))) := hbk8; obtain ⟨u0, u1, u2, u3⟩ := blk2 hbk8; have u4 : w4.heap.size < w8.heap.size := (Array.getElem?_eq_some_iff.1 hbk8).1; clear hown8 hgrow8 hbk8)
        all_goals
          have HBn : Hid ((w8.setCell ⟨w4.heap.size, 1, none⟩ (.slice ao8 (j + 1) cap8)).heap[w4.heap.size]? = some (.cells #[.int .i64 n, .slice ao8 (j + 1) cap8] 24 (0, 0))) := blk2_set1 HBk8.out _
          have HOn : Hid ((w8.setCell ⟨w4.heap.size, 1, none⟩ (.slice ao8 (j + 1) cap8)).ownsRow w4.heap.size 32 3 (.slice ao8 (j + 1) cap8) (j + 1) (flat (pickK l (K.take (j + 1))))) := owns_set HO8.out (fun _ _ g c e => owns_ne HO8.out HBk8.out (by decide) g c e) _
          go_wp2_with fail
          go_roundw
          case rel => exact ⟨j + 1, by omega, by go_num, ⟨_, HBn.out, HOn.out⟩, HB8.out.setCell (Nat.le_refl _) _⟩
          case measure => simp [intOf]; omega
      · obtain rfl : j = K.length := by omega
        rw [List.take_of_length_le (Nat.le_refl _)] at hown
        have hpl2 : (pickK l K).length = K.length := by simp [pickK]
        have hown2 := hown
        rw [← hpl2] at hown2
        obtain ⟨ao5, cap5, e5, hA5, _, hc5, hm5⟩ := owns_arcs hown2
        rw [hpl2] at e5
        cases e5
        have hG5 : GraphIn wr aov capv (pickK l K) := ⟨hA5, hc5, hm5, fun e => by
          rcases hown.2 with ⟨e', h0⟩ | ⟨g', c', cur, e', _⟩
          · simp at e'; exact ⟨by rw [hpl2]; exact h0, e'.2.2⟩
          · rw [e] at e'; simp at e'⟩
        have hcall := hW n s t aov capv (pickK l K) wr hG5
        rw [hpl2] at hcall
        have HBw : Hid (Below w.heap.size w wr) := below_tr HB4.out HB.out
        clear hown hown2 hA5 hc5 hm5 hG5 hpl2
        go_wp2_with fail
        refine hcall.mono ?_
        rintro e w9 ⟨hb9, d, i, rfl, hw9⟩
        obtain ⟨rfl, rfl⟩ := wide_same HK.out HE.out HWd.out hw9
        have HB9 : Hid (Below w.heap.size w w9) := below_tr HBw.out hb9
        have hcc : (c == c) = true := beq_self_eq_true _
        have hff : (f == f) = true := beq_self_eq_true _
        clear hb9 hw9 hcall HWd
        go_wp2_with fail
        go_ret
        exact ⟨rfl, HB9.out⟩
  · have hf := hwd.bad hE
    have hEn : (graphErr n (-10000) l != 0) = true := by simpa using hE
    rw [hf]
    have hEE : (graphErr n (-10000) l == graphErr n (-10000) l) = true := beq_self_eq_true _
    clear hE hy hz hwd hf
    generalize graphErr n (-10000) l = E at *
    go_wp2_with fail
    go_ret
    exact ⟨rfl, HB4.out⟩

end Go.Proofs.Ytgmdacobbeoobaa
