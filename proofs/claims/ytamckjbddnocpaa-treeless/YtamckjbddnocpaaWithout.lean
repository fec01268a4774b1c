/- Contracts of package graph: Without. -/
import Derived.Test.YtamckjbddnocpaaLits
import Derived.Test.YtamckjbddnocpaaGErr
import Derived.Test.YtamckjbddnocpaaCopy
namespace Go.Proofs.Ytamckjbddnocpaa
open Go.RowKit
set_option linter.unusedVariables false

def cut1 (l : List Arc3) (k : Nat) : List Arc3 := l.take k ++ l.drop (k + 1)

theorem cut1_length (l : List Arc3) (k : Nat) (h : k < l.length) : (cut1 l k).length = l.length - 1 := by simp [cut1]; omega

theorem splice_two {α : Type} (Z X Y : List α) (k : Nat) (hk : X.length = k) (hZ : Z.length = k + Y.length) : splice (splice Z 0 X) k Y = X ++ Y := by
  subst hk
  have := splice_splice_splice Z X [] Y X.length 0 rfl rfl (by omega)
  have e : splice (splice Z 0 X) X.length ([] : List α) = splice Z 0 X := by simp [splice]
  rw [e] at this
  simpa using this

theorem sizeArc : (Try.prog.info? 39).map (·.size) = some 3 := by kernel_rfl

set_option maxHeartbeats 1000000 in
theorem Without_ok (n : Int) (ao : Option Addr) (cap : Nat) (l : List Arc3) (k : Nat) (w : World) (hA : ArcsAt w ao l) (he0 : graphErr n (-10000) l = 0) (hk : k < l.length) (hcap : l.length ≤ cap) (hcm : cap ≤ maxLen) :
    Calls Try.prog 15 #[.agg #[.int .i64 n, .slice ao l.length cap], .int .i64 (k : Int)] w fun e w' => Below w.heap.size w w' ∧
      ∃ b, w.heap.size ≤ b ∧ e = .returned (.tuple #[.agg #[.int .i64 n, .slice (some ⟨b, 0, none⟩) (l.length - 1) (l.length - 1)], .int .i64 0]) ∧ ArcsAt w' (some ⟨b, 0, none⟩) (cut1 l k) ∧ ∃ f, w'.rowIs b 39 ((l.length - 1) * 3) f := by
  have hlen := err_len he0
  have hm : l.length ≤ maxLen := by unfold maxLen; omega
  unfold maxLen at hcm
  obtain ⟨b, off, rfl, _⟩ := hA k hk
  have hmk := make_arcs (l.length - 1) (by omega)
  have ec : (((l.length - 1 : Nat)) : Int) = (l.length : Int) - 1 := by omega
  rw [ec] at hmk
  have HE : Hid (graphErr n (-10000) l = 0) := he0
  have HC : Hid ((((l.length - 1 : Nat)) : Int) = (l.length : Int) - 1) := ec
  clear he0 ec
  have hne : ((0 : Int) != 0) = false := rfl
  go_enter Try.func15, Try.ntmps15
  go_wp2_with fail
  refine (CheckLong_any _ _ _ _ _ hm ((hA.alloc _).alloc _)).mono ?_
  rintro e w1 ⟨rfl, hb1⟩
  rw [HE.out]
  have hz := hb1.size
  simp only [World.size_alloc] at hz hb1
  have hz0 : w.heap.size < w1.heap.size := by omega
  have hz1 : w.heap.size + 1 < w1.heap.size := by omega
  have x1 := blk_below hb1 (blk_old (blk_new w (.cells #[.int .i64 n, .slice (some ⟨b, off, none⟩) l.length cap] 34)) (.cells #[.int .i64 0, .slice none 0 0] 34)) (by omega)
  have y1 := blk_below hb1 (by have := blk_new (w.alloc (.cells #[.int .i64 n, .slice (some ⟨b, off, none⟩) l.length cap] 34)) (.cells #[.int .i64 0, .slice none 0 0] 34); rw [World.size_alloc] at this; exact this) (by omega)
  have hA1 := ((hA.alloc (.cells #[.int .i64 n, .slice (some ⟨b, off, none⟩) l.length cap] 34)).alloc (.cells #[.int .i64 0, .slice none 0 0] 34)).below hb1 (by simp)
  have hbb := below_in ((below_one _ _).trans (hb1.mono (by simp))) (by simp)
  clear hb1 hA
  obtain ⟨Z, hZ⟩ : ∃ Z : List Value, Z = (zer ((l.length - 1) * 3)).toList := ⟨_, rfl⟩
  obtain ⟨X1, hX1⟩ : ∃ X, X = flat (l.take k) := ⟨_, rfl⟩
  obtain ⟨X2, hX2⟩ : ∃ X, X = flat (l.drop (k + 1)) := ⟨_, rfl⟩
  have lZ : Z.length = (l.length - 1) * 3 := by rw [hZ]; simp [zer, size_madeCells]
  have lX1 : X1.length = k * 3 := by rw [hX1, flat_length]; simp; omega
  have lX2 : X2.length = (l.length - 1 - k) * 3 := by rw [hX2, flat_length]; simp; omega
  have oX1 : ∀ v ∈ X1, v.oneCell' = true := by rw [hX1]; exact oneFlat _
  have oX2 : ∀ v ∈ X2, v.oneCell' = true := by rw [hX2]; exact oneFlat _
  have zg : (w1.alloc (.cells (zer ((l.length - 1) * 3)) 39)).heap[w1.heap.size]? = some (.cells Z.toArray 39 (0, 0)) := by rw [blk_new, hZ]
  have s1 : ∀ j v, X1[j]? = some v → (w1.alloc (.cells (zer ((l.length - 1) * 3)) 39)).cell? ((⟨b, off, none⟩ : Addr).add j) = some v := by
    intro j v hv
    rw [hX1] at hv
    have := arcs_from (hA1.alloc (.cells (zer ((l.length - 1) * 3)) 39)) 0 (l.take k) (fun i hi => at3_take l k i hi) j v hv
    rw [Go.WideShapes.add_plain]
    simpa using this
  have HX : Hid (splice (splice Z 0 X1) (k * 3) X2 = flat (cut1 l k)) := by
    rw [Hid, splice_two Z X1 X2 (k * 3) lX1 (by omega), hX1, hX2, cut1, flat_append]
  have HZG : Hid _ := zg
  have HS1 : Hid _ := s1
  have HX2 : Hid (X2 = flat (l.drop (k + 1))) := hX2
  have HO1 : Hid _ := oX1
  have HO2 : Hid _ := oX2
  have HL0 : Hid (Z.length = (l.length - 1) * 3) := lZ
  have HL1 : Hid (X1.length = k * 3) := lX1
  have HL2 : Hid (X2.length = (l.length - 1 - k) * 3) := lX2
  have HM1 : Hid (X1.length = Nat.min k (l.length - 1) * 3) := by rw [Hid, lX1, show Nat.min k (l.length - 1) = k from Nat.min_eq_left (by omega)]
  have HM2 : Hid (X2.length = Nat.min (l.length - (k + 1)) (l.length - 1 - k) * 3) := by rw [Hid, lX2, show Nat.min (l.length - (k + 1)) (l.length - 1 - k) = l.length - 1 - k from Nat.min_eq_right (by omega)]
  have HF1 : Hid (0 + X1.length ≤ Z.length) := by rw [Hid, lX1, lZ]; omega
  have HF2 : Hid (k * 3 + X2.length ≤ (splice Z 0 X1).length) := by rw [Hid, length_splice _ _ _ HF1.out, lX2, lZ]; omega
  clear zg s1 hX1 hX2 hZ oX1 oX2 lZ lX1 lX2
  have hbN : Below w1.heap.size w1 (w1.alloc (.cells (zer ((l.length - 1) * 3)) 39)) := below_one _ _
  obtain ⟨r0, r1, f0, f1⟩ := blk2 x1
  obtain ⟨t0, t1, g0, g1⟩ := blk2 y1
  have hkl : ¬ (l.length : Int) ≤ (k : Int) := by omega
  have hk0 : ¬ (k : Int) < 0 := by omega
  go_wp2_with (refine wpList_copyK rfl (.tmp 29) (.tmp 33) 32 32 rfl 39 3 (by decide) Try.underlying32 sizeArc (some ⟨w1.heap.size, 0, none⟩) (some ⟨b, off, none⟩) (l.length - 1) (l.length - 1) k cap rfl rfl w1.heap.size 0 Z 39 HZG.out X1 HM1.out (fun _ => ⟨rfl, _, rfl, HS1.out⟩) HF1.out HO1.out w1.heap.size w1 hbN (Nat.le_refl _) ?_; intro w2 hg2 hb2)
  have hz2 := hb2.size
  have x2 := blk_below hb2 x1 hz0
  have y2 := blk_below hb2 y1 hz1
  obtain ⟨r0, r1, f0, f1⟩ := blk2 x2
  obtain ⟨t0, t1, g0, g1⟩ := blk2 y2
  simp only [Act.put, goInt]
  have hq1 : k ≤ l.length - 1 := by omega
  have hq2 : k + 1 ≤ l.length := by omega
  have hq3 : IntKind.i64.wrap ((k : Int) + 1) = (((k + 1 : Nat)) : Int) := by rw [IntKind.wrap_i64]; omega
  have hA2 := hA1.below hb2 (Nat.le_refl _)
  have HS2 : Hid (∀ j v, X2[j]? = some v → w2.cell? ((⟨b, off + (k + 1) * 3, none⟩ : Addr).add j) = some v) := by
    intro j v hv
    rw [HX2.out] at hv
    have := arcs_from hA2 (k + 1) (l.drop (k + 1)) (fun i hi => at3_drop l (k + 1) i hi) j v hv
    rw [Go.WideShapes.add_plain]
    exact this
  have hq4 : 0 ≤ (k : Int) + 1 := by omega
  have hq5 : (k : Int) + 1 ≤ (l.length : Int) := by omega
  have HP2 : Hid (0 < X2.length → (if l.length - 1 = k then some (⟨w1.heap.size, 0, none⟩ : Addr) else some ⟨w1.heap.size, k * 3, none⟩) = some ⟨w1.heap.size, k * 3, none⟩ ∧
      ∃ ad, (if cap = k + 1 then some (⟨b, off, none⟩ : Addr) else some ⟨b, off + (k + 1) * 3, none⟩) = some ad ∧ ∀ j v, X2[j]? = some v → w2.drew.cell? (ad.add j) = some v) := by
    intro h
    rw [HL2.out] at h
    rw [if_neg (by omega), if_neg (by omega)]
    exact ⟨rfl, _, rfl, HS2.out⟩
  go_region_law (refine step_copyK rfl (.tmp 37) (.tmp 42) 32 32 rfl 39 3 (by decide) Try.underlying32 sizeArc _ _ (l.length - 1 - k) (l.length - 1 - k) (l.length - (k + 1)) (cap - (k + 1)) (by simp [Act.eval, Act.put]) (by simp [Act.eval, Act.put]) w1.heap.size (k * 3) (splice Z 0 X1) 39 hg2.out X2 HM2.out HP2.out HF2.out HO2.out w1.heap.size w1 hb2.drew (Nat.le_refl _) ?_; intro w3 hg3 hb3)
  have hg3' := hg3.out
  rw [HX.out] at hg3'
  have hR := row_arcs hg3'
  have HR : Hid (ArcsAt w3 (some ⟨w1.heap.size, 0, none⟩) (cut1 l k)) := hR
  have HRow : Hid (∃ f, w3.rowIs w1.heap.size 39 ((l.length - 1) * 3) f) := by
    refine ⟨fun i => (flat (cut1 l k)).getD i undef, _, hg3', ?_, fun i hi => ?_⟩
    · simp [flat_length, cut1_length l k hk]
    · have : i < (flat (cut1 l k)).length := by rw [flat_length, cut1_length l k hk]; exact hi
      simp [this]
  have hz3 := hb3.size
  have x3 := blk_below hb3 x1 hz0
  have y3 := blk_below hb3 y1 hz1
  obtain ⟨r0, r1, f0, f1⟩ := blk2 x3
  obtain ⟨t0, t1, g0, g1⟩ := blk2 y3
  clear hg3' hR hg3 hg2 x3 y3 x1 y1 x2 y2 HP2
  generalize (if l.length - 1 = k then some (⟨w1.heap.size, 0, none⟩ : Addr) else some ⟨w1.heap.size, k * 3, none⟩) = dp
  generalize (if cap = k + 1 then some (⟨b, off, none⟩ : Addr) else some ⟨b, off + (k + 1) * 3, none⟩) = sp
  go_wp2
  refine bodyPost_ret (v := .tuple #[.agg #[.int .i64 n, .slice (some ⟨w1.heap.size, 0, none⟩) (l.length - 1) (l.length - 1)], .int .i64 0]) (by simp [results, Try.results15, go_sem, t0, t1]) rfl ⟨?_, w1.heap.size, by omega, rfl, ?_, ?_⟩
  · exact ((hbb.trans (hb3.mono (by omega))).setCell (by simp) _).setCell (by simp) _
  · exact (HR.out.setOther (by simp; omega) _).setOther (by simp; omega) _
  · obtain ⟨f, hf⟩ := HRow.out
    exact ⟨f, (hf.setOther (by simp; omega) _).setOther (by simp; omega) _⟩

set_option maxHeartbeats 400000 in
theorem Without_err (n k : Int) (ao : Option Addr) (cap : Nat) (l : List Arc3) (w : World) (hm : l.length ≤ maxLen) (hA : ArcsAt w ao l) (he0 : graphErr n (-10000) l ≠ 0) :
    Calls Try.prog 15 #[.agg #[.int .i64 n, .slice ao l.length cap], .int .i64 k] w fun e w' => Below w.heap.size w w' ∧
      e = .returned (.tuple #[.agg #[.int .i64 0, .slice none 0 0], .int .i64 (graphErr n (-10000) l)]) := by
  have hne : (graphErr n (-10000) l != 0) = true := by simpa using he0
  clear he0
  go_enter Try.func15, Try.ntmps15
  go_wp2_with fail
  refine (CheckLong_any _ _ _ _ _ hm ((hA.alloc _).alloc _)).mono ?_
  rintro e w1 ⟨rfl, hb1⟩
  have hz := hb1.size
  simp only [World.size_alloc] at hz hb1
  have hz0 : w.heap.size < w1.heap.size := by omega
  have y1 := blk_below hb1 (by have := blk_new (w.alloc (.cells #[.int .i64 n, .slice ao l.length cap] 34)) (.cells #[.int .i64 0, .slice none 0 0] 34); rw [World.size_alloc] at this; exact this) (by omega)
  obtain ⟨t0, t1, g0, g1⟩ := blk2 y1
  have hbb := below_in ((below_one _ _).trans (hb1.mono (by simp))) (by simp)
  clear hb1 y1
  go_wp2
  refine bodyPost_ret (v := .tuple #[.agg #[.int .i64 0, .slice none 0 0], .int .i64 (graphErr n (-10000) l)]) (by simp [results, Try.results15, go_sem, t0, t1]) rfl ⟨?_, rfl⟩
  exact (hbb.setCell (by simp) _).setCell (by simp) _

set_option maxHeartbeats 400000 in
theorem Without_none (n k : Int) (ao : Option Addr) (cap : Nat) (l : List Arc3) (w : World) (hA : ArcsAt w ao l) (he0 : graphErr n (-10000) l = 0) (hk : k < 0 ∨ (l.length : Int) ≤ k) :
    Calls Try.prog 15 #[.agg #[.int .i64 n, .slice ao l.length cap], .int .i64 k] w fun e w' => Below w.heap.size w w' ∧
      e = .returned (.tuple #[.agg #[.int .i64 0, .slice none 0 0], .int .i64 5]) := by
  have hlen := err_len he0
  have hm : l.length ≤ maxLen := by unfold maxLen; omega
  have HE : Hid (graphErr n (-10000) l = 0) := he0
  have hne : ((0 : Int) != 0) = false := rfl
  clear he0
  go_enter Try.func15, Try.ntmps15
  go_wp2_with fail
  refine (CheckLong_any _ _ _ _ _ hm ((hA.alloc _).alloc _)).mono ?_
  rintro e w1 ⟨rfl, hb1⟩
  rw [HE.out]
  have hz := hb1.size
  simp only [World.size_alloc] at hz hb1
  have hz0 : w.heap.size < w1.heap.size := by omega
  have x1 := blk_below hb1 (blk_old (blk_new w (.cells #[.int .i64 n, .slice ao l.length cap] 34)) (.cells #[.int .i64 0, .slice none 0 0] 34)) (by omega)
  have y1 := blk_below hb1 (by have := blk_new (w.alloc (.cells #[.int .i64 n, .slice ao l.length cap] 34)) (.cells #[.int .i64 0, .slice none 0 0] 34); rw [World.size_alloc] at this; exact this) (by omega)
  obtain ⟨r0, r1, f0, f1⟩ := blk2 x1
  obtain ⟨t0, t1, g0, g1⟩ := blk2 y1
  have hbb := below_in ((below_one _ _).trans (hb1.mono (by simp))) (by simp)
  clear hb1 y1 x1
  rcases (by omega : k < 0 ∨ (0 ≤ k ∧ (l.length : Int) ≤ k)) with hk' | ⟨hk0, hk'⟩
  all_goals
    clear hk
    go_wp2
    refine bodyPost_ret (v := .tuple #[.agg #[.int .i64 0, .slice none 0 0], .int .i64 5]) (by simp [results, Try.results15, go_sem, t0, t1]) rfl ⟨?_, rfl⟩
    exact (hbb.setCell (by simp) _).setCell (by simp) _

end Go.Proofs.Ytamckjbddnocpaa
