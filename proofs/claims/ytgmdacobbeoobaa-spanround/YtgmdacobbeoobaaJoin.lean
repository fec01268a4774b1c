/- Contracts of package walk: bothWays, join, Parts, Sides. -/
import Derived.Test.YtgmdacobbeoobaaSpread
import Derived.Test.YtgmdacobbeoobaaRowK
import Derived.Test.YtgmdacobbeoobaaFlat
import Derived.Test.YtgmdacobbeoobaaWalkC
import Derived.BigRegion
namespace Go.Proofs.Ytgmdacobbeoobaa
open Go.RowKit
set_option linter.unusedVariables false

theorem make_arcs_room (n : Nat) (hn : n ≤ 60) (w : World) :
    (Instr.makeSlice 22 (.int .i64 0) (.int .i64 (2 * (n : Int)))).run Try.prog w = .ok (.slice (some ⟨w.heap.size, 0, none⟩) 0 (n * 2)) (w.alloc (.cells (zer (n * 2 * 3)) 32)) := by
  obtain ⟨i, hi, hzz⟩ := Option.map_eq_some_iff.1 infoArc
  simp only [Prod.mk.injEq] at hzz
  obtain ⟨hz, hs, hb⟩ := hzz
  have hr := run_make (P := Try.prog) w 22 32 i _ Try.underlying22 hi hz .i64 .i64 0 (2 * (n : Int)) (by omega) (by omega) (by rw [hb]; omega) (by omega)
  rw [hs, show (2 * (n : Int)).toNat = n * 2 by omega] at hr
  exact hr

set_option maxHeartbeats 1000000 in
set_option maxRecDepth 100000 in
theorem bothWays_any (n : Int) (ao : Option Addr) (cap : Nat) (l : List Arc3) (w : World) (hA : ArcsAt w ao l) (hlen : l.length ≤ 60) :
    Calls Try.prog 32 #[.agg #[.int .i64 n, .slice ao l.length cap]] w fun e w' => Below w.heap.size w w' ∧
      ∃ ao' cap', e = .returned (.agg #[.int .i64 n, .slice ao' (inter l).length cap']) ∧ ArcsAt w' ao' (inter l) := by
  have hmk := make_arcs_room l.length hlen
  obtain ⟨W, hW⟩ : ∃ W : World, W = (w.alloc (.cells #[.int .i64 n, .slice ao l.length cap] 24)).alloc (.cells #[.int .i64 0, .slice none 0 0] 24) := ⟨_, rfl⟩
  have hWz : W.heap.size = w.heap.size + 2 := by rw [hW]; simp
  have hA0 : ArcsAt W ao l := by rw [hW]; exact (hA.alloc _).alloc _
  have x0 : W.heap[w.heap.size]? = some (.cells #[.int .i64 n, .slice ao l.length cap] 24 (0, 0)) := by rw [hW]; exact blk_old (blk_new _ _) _
  have y0 : W.heap[w.heap.size + 1]? = some (.cells #[.int .i64 0, .slice none 0 0] 24 (0, 0)) := by
    have := blk_new (w.alloc (.cells #[.int .i64 n, .slice ao l.length cap] 24)) (.cells #[.int .i64 0, .slice none 0 0] 24)
    rw [World.size_alloc] at this; rw [hW]; exact this
  have HB0 : Hid (Below w.heap.size w W) := by rw [hW]; exact (below_one w _).alloc (by simp) _
  go_enter Try.func32, Try.ntmps32
  go_wp2
  first | rw [← hW] | skip
  have HWz : Hid (W.heap.size = w.heap.size + 2) := hWz
  have hw0 : w.heap.size < W.heap.size := by omega
  have hw1 : w.heap.size + 1 < W.heap.size := by omega
  obtain ⟨i0, hi, hz0, hz1, hz2⟩ := info_parts infoArc
  have HX0 : Hid (W.heap[w.heap.size]? = some (.cells #[.int .i64 n, .slice ao l.length cap] 24 (0, 0))) := x0
  have HY0 : Hid (W.heap[w.heap.size + 1]? = some (.cells #[.int .i64 0, .slice none 0 0] 24 (0, 0))) := y0
  have HA0 : Hid (ArcsAt W ao l) := hA0
  have HO : Hid ((W.alloc (.cells (zer (l.length * 2 * 3)) 32)).ownsRow W.heap.size 32 3 (.slice (some ⟨W.heap.size, 0, none⟩) 0 (l.length * 2)) 0 []) :=
    World.ownsRow_made W _ (l.length * 2) (Nat.le_refl _) (by unfold maxLen; omega) (by simp [zer, size_madeCells])
  clear hW hWz x0 y0 hA0 hmk
  go_loopw [3, 14] (fun v i wr => ∃ k : Nat, k ≤ l.length ∧ i = .int .i64 k ∧ wr.ownsRow W.heap.size 32 3 v (k * 2) (flat (inter (l.take k))) ∧ Below W.heap.size W wr) (fun _ i _ => l.length - (intOf i).toNat)
  case atStart =>
    refine ⟨0, Nat.zero_le _, rfl, ?_, below_one _ _⟩
    rw [show w.heap.size + 1 + 1 = W.heap.size by have := HWz.out; omega]
    exact HO.out
  case round =>
    obtain ⟨k, hk, rfl, hown, hB⟩ := hrel
    have hz := hB.size
    have hll : (inter (l.take k)).length = k * 2 := by rw [inter_length]; simp; omega
    have hown2 := hown
    rw [← hll] at hown2
    obtain ⟨ao3, cap3, rfl, hA3, hfr3, hc3, hm3⟩ := owns_arcs hown2
    rw [hll] at hown
    by_cases hlt : k < l.length
    · obtain ⟨b, off, rfl, hb, c0, c1, c2⟩ := HA0.out.below hB (Nat.le_refl _) k hlt
      have hsn := take_snoc3 l k hlt
      generalize ha : at3 l k = a at *
      obtain ⟨f, t, c⟩ := a
      simp only at c0 c1 c2
      have HS : Hid (flat (inter (l.take (k + 1))) = flat (inter (l.take k)) ++ [.int .i64 f, .int .i64 t, .int .i64 c, .int .i64 t, .int .i64 f, .int .i64 0]) := by
        rw [Hid, hsn, inter_snoc, flat_append]; rfl
      rw [hll]
      clear ha hsn hown2 hA3 hfr3 hll
      go_wp2_with (at_builtin; refine wpList_append_own _ rfl (.tmp 18) (.tmp 25) 22 rfl W.heap.size 32 i0 _ 3 24 Try.underlying22 hi hz0 hz1 hz2 rfl (by decide) _ _ _ rfl ((hown.alloc _).alloc _) ⟨wr.heap.size + 1, 0, none⟩ 2 2 [.int .i64 f, .int .i64 t, .int .i64 c, .int .i64 t, .int .i64 f, .int .i64 0] rfl rfl ?c1 ?c2 ?c3 ?c4 ?c5 ?_)
      case c1 =>
        intro j u hj
        match j, hj with
        | 0, hj => simp at hj; subst hj; simp [Addr.add]
        | 1, hj => simp at hj; subst hj; simp [Addr.add]
        | 2, hj => simp at hj; subst hj; simp [Addr.add]
        | 3, hj => simp at hj; subst hj; simp [Addr.add]
        | 4, hj => simp at hj; subst hj; simp [Addr.add]
        | 5, hj => simp at hj; subst hj; simp [Addr.add]
      case c2 => intro u hu; simp at hu; rcases hu with rfl | rfl | rfl | rfl | rfl | rfl <;> rfl
      case c3 => unfold maxLen; omega
      case c4 => omega
      case c5 => simp; omega
      · intro v' w1 hown' hgrow _
        rw [← HS.out] at hown'
        have hB' : Below W.heap.size W w1 := ((hB.alloc hz _).alloc (by simp; omega) _).grown hgrow (by simp; omega) (by
          intro g hg
          rcases hown.2 with ⟨e, _⟩ | ⟨g', _, _, e, hB0, _⟩
          · rw [e] at hg; cases hg
          · rw [e] at hg; simp only [Value.ownBlock, Option.some.injEq] at hg; omega)
        have HOn : Hid (w1.ownsRow W.heap.size 32 3 v' ((k + 1) * 2) (flat (inter (l.take (k + 1))))) := by rw [Hid, show (k + 1) * 2 = k * 2 + 2 by omega]; exact hown'
        clear hgrow hown' hown
        go_wp2
        go_roundw
        case rel => exact ⟨k + 1, by omega, by go_num, HOn.out, hB'⟩
        case measure => simp [intOf]; omega
    · have hkl : k = l.length := by omega
      subst hkl
      rw [List.take_length] at hA3 ⊢
      have x1 := blk_below hB HX0.out hw0
      have y1 := blk_below hB HY0.out hw1
      obtain ⟨r0, r1, f0, f1⟩ := blk2 x1
      obtain ⟨t0, t1, g0, g1⟩ := blk2 y1
      have HA3 : Hid (ArcsAt wr ao3 (inter l)) := hA3
      have HF3 : Hid (∀ b off, ao3 = some ⟨b, off, none⟩ → W.heap.size ≤ b) := hfr3
      have HBr : Hid (Below W.heap.size W wr) := hB
      clear hA3 hfr3 hB hown hown2 hll hc3
      go_wp2
      refine bodyPost_ret (v := .agg #[.int .i64 n, .slice ao3 (inter l).length cap3]) (by simp [results, Try.results32, go_sem, t0, t1]) rfl ⟨?_, ao3, cap3, rfl, ?_⟩
      · exact ((HB0.out.trans (HBr.out.mono (by omega))).setCell (by simp) _).setCell (by simp) _
      · exact (HA3.out.setElse (fun b off e => by have := HF3.out b off e; simp; omega) _).setElse (fun b off e => by have := HF3.out b off e; simp; omega) _

set_option maxHeartbeats 2000000 in
set_option maxRecDepth 100000 in
theorem join_any (N : Nat) (ao : Option Addr) (cap : Nat) (l : List Arc3) (w : World) (hA : ArcsAt w ao l) (hlen : l.length ≤ 60) (h1 : 1 ≤ N) (h12 : N ≤ 12)
    (hl : ∀ a ∈ l, (0 ≤ a.1 ∧ a.1 < (N : Int)) ∧ (0 ≤ a.2.1 ∧ a.2.1 < (N : Int))) :
    Calls Try.prog 23 #[.agg #[.int .i64 (N : Int), .slice ao l.length cap]] w fun e w' => Below w.heap.size w w' ∧
      ∃ b c L D, w.heap.size ≤ b ∧ w.heap.size ≤ c ∧ b ≠ c ∧ e = .returned (.tuple #[.slice (some ⟨b, 0, none⟩) N N, .slice (some ⟨c, 0, none⟩) N N]) ∧
        w'.rowIs b 3 N (fun j => .int .i64 (L j)) ∧ w'.rowIs c 3 N (fun j => .int .i64 (D j)) ∧ JnI N l N L D := by
  have HI : Hid (∀ a ∈ inter l, (0 ≤ a.1 ∧ a.1 < (N : Int)) ∧ (0 ≤ a.2.1 ∧ a.2.1 < (N : Int))) := inter_nodes hl
  have HIl : Hid ((inter l).length ≤ 120) := by rw [Hid, inter_length]; omega
  have hA0 := hA.alloc (.cells #[.int .i64 (N : Int), .slice ao l.length cap] 24)
  have x0 := blk_new w (.cells #[.int .i64 (N : Int), .slice ao l.length cap] 24)
  clear hl
  go_enter Try.func23, Try.ntmps23
  go_wp2_with fail
  refine (bothWays_any N ao cap l _ hA0 hlen).mono ?_
  rintro e w1 ⟨hb1, ao1, cap1, rfl, hA1⟩
  simp only [World.size_alloc] at hb1
  have hz1 := hb1.size
  simp only [World.size_alloc] at hz1
  obtain ⟨W, hW⟩ : ∃ W : World, W = w1.alloc (.cells #[.int .i64 (N : Int), .slice ao1 (inter l).length cap1] 24) := ⟨_, rfl⟩
  have hWz : W.heap.size = w1.heap.size + 1 := by rw [hW]; simp
  have hA2 : ArcsAt W ao1 (inter l) := by rw [hW]; exact hA1.alloc _
  have x2 : W.heap[w.heap.size]? = some (.cells #[.int .i64 (N : Int), .slice ao l.length cap] 24 (0, 0)) := by rw [hW]; exact blk_old (blk_below hb1 x0 (by omega)) _
  have y2 : W.heap[w1.heap.size]? = some (.cells #[.int .i64 (N : Int), .slice ao1 (inter l).length cap1] 24 (0, 0)) := by rw [hW]; exact blk_new _ _
  have HBW : Hid (Below w.heap.size w W) := by rw [hW]; exact (below_in hb1 (by omega)).alloc (by omega) _
  have x1 := blk_below hb1 x0 (by omega)
  obtain ⟨r0, r1, f0, f1⟩ := blk2 x1
  have hw1 : w.heap.size < w1.heap.size := by omega
  clear hb1 hA1 x0 hA0
  go_wp2_with fail
  refine (nones_any N h12 _).mono ?_
  rintro e w2 ⟨hb2, b, hb, rfl, hL2⟩
  rw [← hW] at hb2 hb
  have hz2 := hb2.size
  have hbl := hL2.lt
  have x4 := blk_below hb2 x2 (by omega)
  clear r0 r1 f0 f1 hW x1
  obtain ⟨r0, r1, f0, f1⟩ := blk2 x4
  go_wp2_with fail
  refine (nones_any N h12 _).mono ?_
  rintro e w3 ⟨hb3, c, hc, rfl, hD3⟩
  have hz3 := hb3.size
  have hcl := hD3.lt
  have hL3 := hL2.of_block (hb3.block b hbl)
  have x5 := blk_below hb3 x4 (by omega)
  have hbb3 := hb2.trans (hb3.mono (by omega))
  have hbc : b ≠ c := by omega
  have hcW : W.heap.size ≤ c := by omega
  have HL3 : Hid (w3.rowIs b 3 N (fun _ => .int .i64 (-1))) := hL3
  have HD3 : Hid (w3.rowIs c 3 N (fun _ => .int .i64 (-1))) := hD3
  have HX3 : Hid (Below W.heap.size W w3) := hbb3
  have HY2 : Hid (W.heap[w1.heap.size]? = some (.cells #[.int .i64 (N : Int), .slice ao1 (inter l).length cap1] 24 (0, 0))) := y2
  have HX2 : Hid (W.heap[w.heap.size]? = some (.cells #[.int .i64 (N : Int), .slice ao l.length cap] 24 (0, 0))) := x2
  have HA2 : Hid (ArcsAt W ao1 (inter l)) := hA2
  clear r0 r1 f0 f1 hL2 hL3 hD3 hbb3 hb2 hb3 x2 y2 x4 hA2
  obtain ⟨r0, r1, f0, f1⟩ := blk2 x5
  go_wp2
  go_loopw [22] (fun i wr => ∃ s : Nat, s ≤ N ∧ i = .int .i64 s ∧ (∃ L D, wr.rowIs b 3 N (fun j => .int .i64 (L j)) ∧ wr.rowIs c 3 N (fun j => .int .i64 (D j)) ∧ JnI N l s L D) ∧ Below W.heap.size W wr) (fun i _ => N - (intOf i).toNat)
  case atStart => exact ⟨0, Nat.zero_le _, rfl, ⟨fun _ => -1, fun _ => -1, HL3.out, HD3.out, jni_start N l⟩, HX3.out⟩
  case round =>
    obtain ⟨s, hs, rfl, ⟨L, D, hL, hD, hJ⟩, hB⟩ := hrel
    clear HL3 HD3 HX3 r0 r1 f0 f1 x5 hz3 hcl hbl hz2
    have hz := hB.size
    by_cases hlt : s < N
    · have y6 := blk_below hB HY2.out (by omega)
      obtain ⟨r0, r1, f0, f1⟩ := blk2 y6
      have hA6 := HA2.out.below hB (Nat.le_refl _)
      have s0 := hL.cell (i := s) hlt
      have HL : Hid (wr.rowIs b 3 N (fun j => .int .i64 (L j))) := hL
      have HD : Hid (wr.rowIs c 3 N (fun j => .int .i64 (D j))) := hD
      have HJ : Hid (JnI N l s L D) := hJ
      have HB : Hid (Below W.heap.size W wr) := hB
      have hbl := hL.lt
      have hcl := hD.lt
      by_cases h0 : 0 ≤ L s
      · have HJ2 : Hid (JnI N l (s + 1) L D) := jni_skip hJ hlt h0
        generalize hx : L s = x at *
        clear hL hD hJ hB hx HJ y6
        go_wp2
        go_roundw
        case rel => exact ⟨s + 1, by omega, by go_num, ⟨L, D, HL.out, HD.out, HJ2.out⟩, HB.out⟩
        case measure => simp [intOf]; omega
      · have HLs : Hid (L s < 0) := by rw [Hid]; omega
        obtain ⟨x, hx⟩ : ∃ x, L s = x := ⟨_, rfl⟩
        rw [hx] at s0 h0
        clear hL hD hJ hB hx y6
        go_wp2_with fail
        refine (spread_any N s ao1 cap1 (inter l) wr hA6 HIl.out h1 h12 hlt HI.out).mono ?_
        rintro e w7 ⟨hb7, g, q, F, B, hg, hq, hgq, rfl, hF, hBB, hFar, hBy⟩
        have hz7 := hb7.size
        have HL7 : Hid (w7.rowIs b 3 N (fun j => .int .i64 (L j))) := HL.out.of_block (hb7.block b hbl)
        have HD7 : Hid (w7.rowIs c 3 N (fun j => .int .i64 (D j))) := HD.out.of_block (hb7.block c hcl)
        have HF7 : Hid (w7.rowIs g 3 N (fun j => .int .i64 (F j))) := hF
        have HB7 : Hid (Below W.heap.size W w7) := HB.out.trans (hb7.mono (by omega))
        have HJ2 : Hid (JnI N l (s + 1) (fun v => if 0 ≤ ati ((List.range N).map F) v then (s : Int) else L v) (fun v => if 0 ≤ ati ((List.range N).map F) v then ati ((List.range N).map F) v else D v)) := by
          have hL' : L s < 0 := HLs.out
          exact jni_step HJ.out hlt hL' (far_inter hFar)
        have hgb : g ≠ b := by omega
        have hgc : g ≠ c := by omega
        clear HL HD HB HJ HLs hb7 hF hBB hFar hBy hA6 r0 r1 f0 f1 hbl hcl hz7 hz hq hgq
        go_wp2
        go_loopw [38] (fun i wr => ∃ j : Nat, j ≤ N ∧ i = .int .i64 j ∧ wr.rowIs b 3 N (fun v => .int .i64 (if v < j ∧ 0 ≤ F v then (s : Int) else L v)) ∧ wr.rowIs c 3 N (fun v => .int .i64 (if v < j ∧ 0 ≤ F v then F v else D v)) ∧ wr.rowIs g 3 N (fun v => .int .i64 (F v)) ∧ Below W.heap.size W wr) (fun i _ => N - (intOf i).toNat)
        case atStart => exact ⟨0, Nat.zero_le _, rfl, HL7.out.congr fun v _ => by simp, HD7.out.congr fun v _ => by simp, HF7.out, HB7.out⟩
        case round =>
          obtain ⟨j, hj, rfl, hL, hD, hF, hB⟩ := hrel
          clear HL7 HD7 HF7 HB7
          have hz := hB.size
          have hbl := hL.lt
          have hcl := hD.lt
          have hgl := hF.lt
          by_cases hjN : j < N
          · have q0 := hF.cell (i := j) hjN
            have q1 := hL.cell (i := j) hjN
            have q2 := hL.frozen j
            have q3 := hD.cell (i := j) hjN
            have q4 := hD.frozen j
            have HL : Hid (wr.rowIs b 3 N (fun v => .int .i64 (if v < j ∧ 0 ≤ F v then (s : Int) else L v))) := hL
            have HD : Hid (wr.rowIs c 3 N (fun v => .int .i64 (if v < j ∧ 0 ≤ F v then F v else D v))) := hD
            have HF : Hid (wr.rowIs g 3 N (fun v => .int .i64 (F v))) := hF
            have HB : Hid (Below W.heap.size W wr) := hB
            generalize (if j < j ∧ 0 ≤ F j then (s : Int) else L j) = z1 at *
            generalize (if j < j ∧ 0 ≤ F j then F j else D j) = z2 at *
            obtain ⟨x, hx⟩ : ∃ x, F j = x := ⟨_, rfl⟩
            rw [hx] at q0
            have HX : Hid (F j = x) := hx
            clear hL hD hF hB hx
            by_cases hx0 : 0 ≤ x
            · go_wp2
              go_roundw
              case rel =>
                refine ⟨j + 1, by omega, by go_num, ?_, ?_, ?_, ?_⟩
                · refine ((HL.out.set j _).setOther (by simp; omega) _).congr fun v hv => ?_
                  by_cases e : v = j
                  · subst e; simp [HX.out, hx0]
                  · have : (v < j + 1) = (v < j) := by simp; omega
                    simp [e, this]
                · refine ((HD.out.setOther (by simp; omega) _).set j _).congr fun v hv => ?_
                  by_cases e : v = j
                  · subst e; simp [HX.out, hx0]
                  · have : (v < j + 1) = (v < j) := by simp; omega
                    simp [e, this]
                · exact (HF.out.setOther (by simp; omega) _).setOther (by simp; omega) _
                · exact (HB.out.setCell (by simp; omega) _).setCell (by simp; omega) _
              case measure => simp [intOf]; omega
            · go_wp2
              go_roundw
              case rel =>
                refine ⟨j + 1, by omega, by go_num, HL.out.congr fun v hv => ?_, HD.out.congr fun v hv => ?_, HF.out, HB.out⟩
                · by_cases e : v = j
                  · subst e; simp [HX.out, hx0]
                  · have : (v < j + 1) = (v < j) := by simp; omega
                    simp [this]
                · by_cases e : v = j
                  · subst e; simp [HX.out, hx0]
                  · have : (v < j + 1) = (v < j) := by simp; omega
                    simp [this]
              case measure => simp [intOf]; omega
          · have hjj : N = j := by omega
            subst hjj
            have HL : Hid (wr.rowIs b 3 N (fun v => .int .i64 (if 0 ≤ ati ((List.range N).map F) v then (s : Int) else L v))) := hL.congr fun v hv => by simp [ati_range N F hv, hv]
            have HD : Hid (wr.rowIs c 3 N (fun v => .int .i64 (if 0 ≤ ati ((List.range N).map F) v then ati ((List.range N).map F) v else D v))) := hD.congr fun v hv => by simp [ati_range N F hv, hv]
            have HB : Hid (Below W.heap.size W wr) := hB
            clear hL hD hF hB
            go_wp2
            go_roundw
            case rel => exact ⟨s + 1, by omega, by go_num, ⟨_, _, HL.out, HD.out, HJ2.out⟩, HB.out⟩
            case measure => simp [intOf]; omega
    · have hss : N = s := by omega
      subst hss
      have HL : Hid (wr.rowIs b 3 N (fun j => .int .i64 (L j))) := hL
      have HD : Hid (wr.rowIs c 3 N (fun j => .int .i64 (D j))) := hD
      have HJ : Hid (JnI N l N L D) := hJ
      have HB : Hid (Below W.heap.size W wr) := hB
      clear hL hD hJ hB
      go_wp2
      go_ret2
      exact ⟨HBW.out.trans (HB.out.mono (by omega)), b, c, L, D, by omega, by omega, hbc, rfl, HL.out, HD.out, HJ.out⟩

set_option maxHeartbeats 400000 in
theorem Parts_any : PartsC := by
  intro n ao cap l w hG
  have hm := hG.len
  have hG0 := hG.alloc (.cells #[.int .i64 n, .slice ao l.length cap] 24)
  have x0 := blk_new w (.cells #[.int .i64 n, .slice ao l.length cap] 24)
  go_enter Try.func10, Try.ntmps10
  go_wp2_with fail
  refine (CheckLong_any _ _ _ _ _ hm hG0.arcs).mono ?_
  rintro e w1 ⟨rfl, hb1⟩
  simp only [World.size_alloc] at hb1
  have hz1 := hb1.size
  simp only [World.size_alloc] at hz1
  have x1 := blk_below hb1 x0 (by omega)
  have hG1 := hG0.below hb1 (by simp)
  have hbb1 := below_in hb1 (by omega)
  obtain ⟨r0, r1, f0, f1⟩ := blk2 x1
  clear hb1 hG0 x0
  by_cases hE : graphErr n (-10000) l = 0
  · obtain ⟨⟨hn1, hn2⟩, hlen, hnodes⟩ := err_ok hE
    obtain ⟨N, rfl⟩ := Int.eq_ofNat_of_zero_le (show 0 ≤ n by omega)
    have HL : Hid (∀ a ∈ l, (0 ≤ a.1 ∧ a.1 < (N : Int)) ∧ (0 ≤ a.2.1 ∧ a.2.1 < (N : Int))) := fun a ha => ⟨(hnodes a ha).1, (hnodes a ha).2.1⟩
    have HE : Hid (graphErr N (-10000) l = 0) := hE
    rw [hE]
    have h00 : ((0 : Int) != 0) = false := rfl
    clear hE hnodes
    go_wp2_with fail
    refine (join_any N ao cap l w1 hG1.arcs hlen (by omega) (by omega) HL.out).mono ?_
    rintro e w2 ⟨hb2, b, c, L, D, hb, hc, hbc, rfl, hL, hD, hJ⟩
    have HI : Hid (IntsAt w2 (some ⟨b, 0, none⟩) ((List.range N).map L)) := row_ints hL
    have HP : Hid (PartsIs N l ((List.range N).map L)) := jni_parts hJ
    have hbb2 := hbb1.trans (hb2.mono (by omega))
    clear hL hD hJ hb2
    go_wp2
    go_ret2
    exact ⟨hbb2, some ⟨b, 0, none⟩, N, (List.range N).map L, by rw [HE.out]; simp, HI.out, fun h => absurd HE.out h, fun _ => by rw [Int.toNat_natCast]; exact HP.out⟩
  · have hE' : (graphErr n (-10000) l != 0) = true := by simpa using hE
    have HE : Hid (graphErr n (-10000) l ≠ 0) := hE
    clear hE
    go_wp2
    go_ret2
    exact ⟨hbb1, none, 0, [], rfl, fun i hi => absurd hi (Nat.not_lt_zero _), fun _ => rfl, fun h => absurd h HE.out⟩


end Go.Proofs.Ytgmdacobbeoobaa
