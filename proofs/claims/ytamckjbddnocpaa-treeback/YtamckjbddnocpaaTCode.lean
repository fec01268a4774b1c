/- Contract of package tree: Code, of a tree whose code is known. -/
import Derived.Test.YtamckjbddnocpaaTIs
import Derived.Test.YtamckjbddnocpaaTCodeP
import Derived.Test.YtamckjbddnocpaaAppJoin
namespace Go.Proofs.Ytamckjbddnocpaa
open Go.RowKit
set_option linter.unusedVariables false

/-- how many stand, as a list -/
def degL (N : Nat) (E : List Arc3) : List Int := (List.range N).map fun v => degN E v
theorem degL_len (N : Nat) (E : List Arc3) : (degL N E).length = N := by simp [degL]
theorem degL_at {N : Nat} (E : List Arc3) {v : Nat} (h : v < N) : ati (degL N E) v = degN E v := by
  rw [ati_lt _ _ (by rw [degL_len]; exact h)]; simp [degL]

theorem drop_cons {m : List Nat} {i : Nat} (h : i < m.length) : m.drop i = m.getD i 0 :: m.drop (i + 1) := by
  rw [List.drop_eq_getElem_cons h]; simp [h]

/-- the code so far -/
def codeC (m : List Nat) (i j : Nat) : Value := .int .i64 (if j < i then ((m.getD j 0 : Nat) : Int) else 0)

set_option maxRecDepth 10000 in
set_option maxHeartbeats 2000000 in
theorem Code_tree (M : Nat) (ab cap : Nat) (E : List Arc3) (m : List Nat) (w : World) (hG : GraphIn w (some ⟨ab, 0, none⟩) cap E) (he : graphErr ((M + 2 : Nat) : Int) (-10000) E = 0)
    (hj : ∀ u v : Nat, u < M + 2 → v < M + 2 → Jn E u v) (hE : E.length = M + 1) (hm : m.length = M) (h10 : M ≤ 10) (hC : CodeIs E m) :
    Calls Try.prog 20 #[.agg #[.int .i64 ((M : Int) + 2), .slice (some ⟨ab, 0, none⟩) (M + 1) cap]] w fun e w' => Below w.heap.size w w' ∧
      ∃ b, w.heap.size ≤ b ∧ e = .returned (.tuple #[.slice (some ⟨b, 0, none⟩) M M, .int .i64 0]) ∧ w'.rowIs b 3 M (codeC m M) := by
  obtain ⟨_, _, hnod⟩ := err_ok he
  have hcast : ((M + 2 : Nat) : Int) = (M : Int) + 2 := by omega
  have hnn : ∀ a ∈ E, (0 ≤ a.1 ∧ a.1 < ((M + 2 : Nat) : Int)) ∧ (0 ≤ a.2.1 ∧ a.2.1 < ((M + 2 : Nat) : Int)) := fun a ha => ⟨(hnod a ha).1, (hnod a ha).2.1⟩
  have HNN : Hid (∀ a ∈ E, (0 ≤ a.1 ∧ a.1 < ((M + 2 : Nat) : Int)) ∧ (0 ≤ a.2.1 ∧ a.2.1 < ((M + 2 : Nat) : Int))) := hnn
  have HNat : Hid (∀ a ∈ E, ∃ f t : Nat, a.1 = (f : Int) ∧ a.2.1 = (t : Int)) := fun a ha => by
    obtain ⟨⟨p1, _⟩, p2, _⟩ := hnn a ha
    obtain ⟨f, hf⟩ := Int.eq_ofNat_of_zero_le p1
    obtain ⟨t, ht⟩ := Int.eq_ofNat_of_zero_le p2
    exact ⟨f, t, hf, ht⟩
  have hG0 := hG.alloc (.cells #[.int .i64 ((M : Int) + 2), .slice (some ⟨ab, 0, none⟩) (M + 1) cap] 34)
  have x0 := blk_new w (.cells #[.int .i64 ((M : Int) + 2), .slice (some ⟨ab, 0, none⟩) (M + 1) cap] 34)
  have hIs := Is_tree (M + 2) (some ⟨ab, 0, none⟩) cap E (w.alloc (.cells #[.int .i64 ((M : Int) + 2), .slice (some ⟨ab, 0, none⟩) (M + 1) cap] 34)) hG0 he hj (by omega)
  rw [hcast, hE] at hIs
  have hmb := make_gone (M + 1) (by omega)
  simp only [show ((M + 1 : Nat) : Int) = (M : Int) + 1 from by omega] at hmb
  have hmk := make_ints M (by omega)
  have HG : Hid (GraphIn (w.alloc (.cells #[.int .i64 ((M : Int) + 2), .slice (some ⟨ab, 0, none⟩) (M + 1) cap] 34)) (some ⟨ab, 0, none⟩) cap E) := hG0
  have HE : Hid (E.length = M + 1) := hE
  have HM : Hid (m.length = M) := hm
  have HC : Hid (CodeIs E m) := hC
  have habz : ab < w.heap.size := by
    obtain ⟨_, _, e, hb, _⟩ := hG.arcs 0 (by omega)
    cases e; exact hb
  have HAw : Hid (ArcsAt w (some ⟨ab, 0, none⟩) E) := hG.arcs
  have hne : ((0 : Int) != 0) = false := rfl
  clear hG he hj hE hm hC hnod hnn hG0 hcast
  go_enter Try.func20, Try.ntmps20
  go_wp2_with fail
  refine hIs.mono ?_
  rintro e w1 ⟨hb1, rfl⟩
  simp only [World.size_alloc] at hb1
  have hz1 := hb1.size
  simp only [World.size_alloc] at hz1
  have x1 := blk_below hb1 x0 (by omega)
  obtain ⟨r0, r1, f0, f1⟩ := blk2 x1
  have HG1 : Hid (GraphIn w1 (some ⟨ab, 0, none⟩) cap E) := HG.out.below hb1 (by simp)
  have HB1 : Hid (Below w.heap.size w w1) := below_in hb1 (by omega)
  have hw1 : w.heap.size < w1.heap.size := by omega
  have hst := standing_any (M + 2) (some ⟨ab, 0, none⟩) cap E w1 HG1.out.arcs (by omega) (by rw [HE.out]; omega) HNN.out
  rw [HE.out, show ((M + 2 : Nat) : Int) = (M : Int) + 2 from by omega] at hst
  clear hb1 x0 hIs HG
  go_wp2_with fail
  refine hst.mono ?_
  rintro e w2 ⟨hb2, bl, hbl, rfl, hrl⟩
  have hz2 := hb2.size
  have x2 := blk_below hb2 x1 hw1
  clear r0 r1 f0 f1
  obtain ⟨r0, r1, f0, f1⟩ := blk2 x2
  have HG2 : Hid (GraphIn w2 (some ⟨ab, 0, none⟩) cap E) := HG1.out.below hb2 (Nat.le_refl _)
  have HB2 : Hid (Below w.heap.size w w2) := below_tr HB1.out hb2
  have HRl : Hid (w2.rowIs bl 3 (M + 2) (fun j => .int .i64 (degN E j))) := hrl
  have hblz := hrl.lt
  have hw2 : w.heap.size < w2.heap.size := by omega
  clear hb2 x1 hst HG1 HB1 hrl
  have hM2 : ¬ (M : Int) < 0 := by omega
  go_wp2_with fail
  obtain ⟨W, hW⟩ : ∃ W, W = (w2.alloc (.cells (zerG (M + 1)) 4)).alloc (.cells (zeri M) 3) := ⟨_, rfl⟩
  rw [← hW]
  have hWz : W.heap.size = w2.heap.size + 2 := by rw [hW]; simp
  have HBW : Hid (Below w.heap.size w W) := by rw [hW]; exact below_al (below_al HB2.out _) _
  have hB2W : Below w2.heap.size w2 W := by rw [hW]; exact (below_one w2 _).alloc (by simp) _
  have HL0 : Hid (W.rowIs bl 3 (M + 2) (fun j => .int .i64 (degN E j))) := HRl.out.of_block (hB2W.block bl hblz)
  have HG0 : Hid (W.rowIs w2.heap.size 4 (M + 1) (fun j => .bool false)) := by rw [hW]; exact (zerG_row w2 (M + 1) 4).alloc _
  have HC0 : Hid (W.rowIs (w2.heap.size + 1) 3 M (codeC m 0)) := by
    rw [hW]
    have := zeri_row (w2.alloc (.cells (zerG (M + 1)) 4)) M 3
    rw [World.size_alloc] at this
    exact this.congr fun j hj => by simp [codeC]
  have xW := blk_below hB2W x2 hw2
  have HGW : Hid (GraphIn W (some ⟨ab, 0, none⟩) cap E) := HG2.out.below hB2W (Nat.le_refl _)
  have HX : Hid (W.heap[w.heap.size]? = some (.cells #[.int .i64 ((M : Int) + 2), .slice (some ⟨ab, 0, none⟩) (M + 1) cap] 34 (0, 0))) := xW
  clear hW hB2W HRl HG2 HB2 r0 r1 f0 f1 x2 xW hmb hmk
  generalize w2.heap.size = g0 at *
  go_loopw [36] (fun s wr => ∃ i : Nat, i ≤ M ∧ s = .int .i64 i ∧ Hid (∃ g : Nat → Bool, wr.rowIs bl 3 (M + 2) (fun j => .int .i64 (degN (restG E g) j)) ∧ wr.rowIs g0 4 (M + 1) (fun j => .bool (g j)) ∧ CodeIs (restG E g) (m.drop i)) ∧
    Hid (wr.rowIs (g0 + 1) 3 M (codeC m i)) ∧ Hid (∀ p, p < W.heap.size → p ≠ bl → p ≠ g0 → p ≠ g0 + 1 → wr.heap[p]? = W.heap[p]?) ∧ W.heap.size ≤ wr.heap.size ∧ Hid (Below w.heap.size w wr)) (fun s _ => M - (intOf s).toNat)
  case atStart => exact ⟨0, Nat.zero_le _, rfl, ⟨fun _ => false, by rw [restG_all]; exact HL0.out, HG0.out, by rw [restG_all]; exact HC.out⟩, HC0, fun p _ _ _ _ => rfl, Nat.le_refl _, HBW⟩
  case round =>
    obtain ⟨i, hi, rfl, HI, HCd, HK, hzr, HB⟩ := hrel
    by_cases hlt : i < M
    · obtain ⟨g, hrl, hrg, hcode⟩ := HI.out
      rw [drop_cons (by rw [HM.out]; exact hlt)] at hcode
      obtain ⟨v, k, hv1, hvmin, hkl, hgk, hak, hfirst, hJ, hvx, hnext, hdeg⟩ := code_step hcode HNat.out
      have hmem := at3_mem E k hkl
      obtain ⟨⟨n1, n2⟩, n3, n4⟩ := HNN.out _ hmem
      have hvN : v < M + 2 ∧ m.getD i 0 < M + 2 := by
        rcases hJ with ⟨q1, q2⟩ | ⟨q1, q2⟩ <;> (rw [q1] at n1 n2; rw [q2] at n3 n4; omega)
      have HX1 : Hid (m.getD i 0 = m.getD i 0) := rfl
      obtain ⟨x, hx⟩ : ∃ x, x = m.getD i 0 := ⟨_, rfl⟩
      rw [← hx] at hJ hvx hdeg hvN
      have HXm : Hid (x = m.getD i 0) := hx
      have hleaf := leaf_at (some ⟨bl, 0, none⟩) (M + 2) (degL (M + 2) (restG E g)) v wr (by rw [degL_len]; unfold maxLen; omega) (row_ints hrl) (by rw [degL_len]; exact hvN.1) (by rw [degL_at _ hvN.1]; exact hv1) (fun u hu => by rw [degL_at _ (by omega)]; exact hvmin u hu)
      rw [degL_len] at hleaf
      have hWW := HBW.out.size
      have xr : wr.heap[w.heap.size]? = some (.cells #[.int .i64 ((M : Int) + 2), .slice (some ⟨ab, 0, none⟩) (M + 1) cap] 34 (0, 0)) := (HK.out _ (by omega) (by omega) (by omega) (by omega)).trans HX.out
      obtain ⟨r0, r1, f0, f1⟩ := blk2 xr
      have hAr : ArcsAt wr (some ⟨ab, 0, none⟩) E := HAw.out.below HB.out (Nat.le_refl _)
      have hat := arcAt_at (some ⟨ab, 0, none⟩) cap E g0 g v k wr hAr (by rw [HE.out]; omega) (by rw [HE.out]; exact hrg) hkl hgk hak hfirst
      rw [HE.out] at hat
      obtain ⟨_, _, ea, hba, c0, c1, c2⟩ := hAr k hkl
      cases ea
      simp only [Nat.zero_add] at c0 c1 c2
      have HOth : Hid (∀ y : World, Calls Try.prog 35 #[.agg #[.int .i64 (at3 E k).1, .int .i64 (at3 E k).2.1, .int .i64 (at3 E k).2.2], .int .i64 (v : Int)] y fun e w' => Below y.heap.size y w' ∧ e = .returned (.int .i64 (x : Int))) := fun y => otherEnd_at _ v x y hJ
      have HDeg : Hid (∀ u, degN (restG E (setG g k)) u = degN (restG E g) u - one (u = v) - one (u = x)) := hdeg
      have HNx : Hid (CodeIs (restG E (setG g k)) (m.drop (i + 1))) := hnext
      have HRl : Hid (wr.rowIs bl 3 (M + 2) (fun j => .int .i64 (degN (restG E g) j))) := hrl
      have HRg : Hid (wr.rowIs g0 4 (M + 1) (fun j => .bool (g j))) := hrg
      have hkM : k < M + 1 := by rw [← HE.out]; exact hkl
      have HV1 : Hid (degN (restG E g) v = 1) := hv1
      obtain ⟨hvM, hxM⟩ := hvN
      have d1 := degN_nonneg (restG E g) x
      have d2 := degN_le (restG E g) x
      have d3 := restG_le E g
      rw [HE.out] at d3
      have hgz := hrg.lt
      have hcz := HCd.out.lt
      have nw1 : ¬ w.heap.size = g0 := by omega
      have nw2 : ¬ w.heap.size = g0 + 1 := by omega
      have nw3 : ¬ w.heap.size = bl := by omega
      have na1 : ¬ ab = g0 := by omega
      have nb1 : ¬ bl = g0 := by omega
      have nb2 : ¬ bl = g0 + 1 := by omega
      have hzrr : w.heap.size < wr.heap.size := by omega
      obtain ⟨y, hy⟩ : ∃ y, y = degN (restG E g) x := ⟨_, rfl⟩
      have HY : Hid (y = degN (restG E g) x) := hy
      rw [← hy] at d1 d2
      have hyb : -100 ≤ y ∧ y ≤ 100 := by omega
      generalize (at3 E k).1 = af at *
      generalize (at3 E k).2.1 = at' at *
      generalize (at3 E k).2.2 = ac at *
      clear hnext hdeg hJ hrl hrg hAr hcode hv1 hvmin hgk hak hfirst HI hmem n1 n2 n3 n4 hx HX1 d1 d2 d3 hy hkl
      go_wp2_with fail
      refine hleaf.mono ?_
      rintro e w3 ⟨rfl, hw3⟩
      subst hw3
      clear hleaf
      go_wp2_with fail
      refine hat.mono ?_
      rintro e w3 ⟨hb3, rfl⟩
      have hz3 := hb3.size
      have x3 := blk_below hb3 xr hzrr
      have c0 := later hb3 c0 hba
      have c1 := later hb3 c1 hba
      have c2 := later hb3 c2 hba
      have HRl3 : Hid (w3.rowIs bl 3 (M + 2) (fun j => .int .i64 (degN (restG E g) j))) := HRl.out.of_block (hb3.block bl (by omega))
      have HRg3 : Hid (w3.rowIs g0 4 (M + 1) (fun j => .bool (g j))) := HRg.out.of_block (hb3.block g0 hgz)
      have HCd3 : Hid (w3.rowIs (g0 + 1) 3 M (codeC m i)) := HCd.out.of_block (hb3.block (g0 + 1) hcz)
      have HB3 : Hid (Below w.heap.size w w3) := below_tr HB.out hb3
      have HK3 : Hid (∀ p, p < W.heap.size → p ≠ bl → p ≠ g0 → p ≠ g0 + 1 → w3.heap[p]? = W.heap[p]?) := fun p hp q1 q2 q3 => (hb3.block p (by omega)).trans (HK.out p hp q1 q2 q3)
      clear r0 r1 f0 f1 xr hat hb3 HRl HRg HCd HB HK
      obtain ⟨r0, r1, f0, f1⟩ := blk2 x3
      have g1 := HRg3.out.cell (i := k) hkM
      have g2 := HRg3.out.frozen k
      have hgz3 : g0 < w3.heap.size := by omega
      have haz3 : ab < w3.heap.size := by omega
      have hwz3 : w.heap.size < w3.heap.size := by omega
      go_wp2_with fail
      refine (HOth.out _).mono ?_
      rintro e w5 ⟨hb5, rfl⟩
      have hz5 := hb5.size
      simp only [World.size_setCell] at hz5 hb5
      have HRl5 : Hid (w5.rowIs bl 3 (M + 2) (fun j => .int .i64 (degN (restG E g) j))) := (HRl3.out.setOther (by simp; omega) _).of_block (hb5.block bl (by omega))
      have HRg5 : Hid (w5.rowIs g0 4 (M + 1) (fun j => .bool (setG g k j))) := ((HRg3.out.set k (.bool true)).of_block (hb5.block g0 (by omega))).congr fun j hj => by
        unfold setG
        by_cases e : j = k <;> simp [e]
      have HCd5 : Hid (w5.rowIs (g0 + 1) 3 M (codeC m i)) := (HCd3.out.setOther (by simp) _).of_block (hb5.block (g0 + 1) (by omega))
      have HB5 : Hid (Below w.heap.size w w5) := (HB3.out.setCell (p := ⟨g0, k, none⟩) (by simp; omega) (.bool true)).trans (hb5.mono (by omega))
      have HK5 : Hid (∀ p, p < W.heap.size → p ≠ bl → p ≠ g0 → p ≠ g0 + 1 → w5.heap[p]? = W.heap[p]?) := fun p hp q1 q2 q3 => (hb5.block p (by omega)).trans ((Below.heap_setCell w3 ⟨g0, k, none⟩ _ p q2).trans (HK3.out p hp q1 q2 q3))
      clear hb5 r0 r1 f0 f1 x3 HRl3 HRg3 HCd3 HB3 HK3 HOth c0 c1 c2 g1 g2
      have s1 := HRl5.out.cell (i := v) hvM
      rw [HV1.out] at s1
      have s2 := HRl5.out.cell (i := x) hxM
      rw [← HY.out] at s2
      have s3 := HRl5.out.frozen v
      have s4 := HRl5.out.frozen x
      have s5 := HCd5.out.cell (i := i) hlt
      have s6 := HCd5.out.frozen i
      have hblz5 : bl < w5.heap.size := by omega
      have hcz5 : g0 + 1 < w5.heap.size := by omega
      have hxv : ¬ x = v := fun h => hvx h.symm
      have HN1 : Hid ((((w5.setCell ⟨bl, v, none⟩ (.int .i64 0)).setCell ⟨bl, x, none⟩ (.int .i64 (y - 1))).setCell ⟨g0 + 1, i, none⟩ (.int .i64 (x : Int))).rowIs bl 3 (M + 2) (fun j => .int .i64 (degN (restG E (setG g k)) j))) :=
        (((HRl5.out.set v _).set x _).setOther (by simp; omega) _).congr fun j hj => by
          rw [HDeg.out j]
          by_cases e1 : j = x
          · subst e1; rw [one_no hxv, one_yes rfl, ← HY.out]; simp
          · by_cases e2 : j = v
            · subst e2; rw [one_yes rfl, one_no e1, HV1.out]; simp [e1]
            · rw [one_no e1, one_no e2]; simp [e1, e2]
      have HN2 : Hid ((((w5.setCell ⟨bl, v, none⟩ (.int .i64 0)).setCell ⟨bl, x, none⟩ (.int .i64 (y - 1))).setCell ⟨g0 + 1, i, none⟩ (.int .i64 (x : Int))).rowIs g0 4 (M + 1) (fun j => .bool (setG g k j))) :=
        ((HRg5.out.setOther (by simp; omega) _).setOther (by simp; omega) _).setOther (by simp) _
      have HN3 : Hid ((((w5.setCell ⟨bl, v, none⟩ (.int .i64 0)).setCell ⟨bl, x, none⟩ (.int .i64 (y - 1))).setCell ⟨g0 + 1, i, none⟩ (.int .i64 (x : Int))).rowIs (g0 + 1) 3 M (codeC m (i + 1))) :=
        (((HCd5.out.setOther (by simp; omega) _).setOther (by simp; omega) _).set i _).congr fun j hj => by
          unfold codeC
          by_cases e : j = i
          · subst e; simp [HXm.out]
          · by_cases e2 : j < i
            · simp [e, e2, show j < i + 1 by omega]
            · simp [e, e2, show ¬ j < i + 1 by omega]
      go_wp2_with fail
      go_roundw
      case rel => exact ⟨i + 1, by omega, by go_num, ⟨setG g k, HN1.out, HN2.out, HNx.out⟩, HN3, fun p hp q1 q2 q3 => (Below.heap_setCell _ _ _ p q3).trans ((Below.heap_setCell _ _ _ p q1).trans ((Below.heap_setCell _ _ _ p q1).trans (HK5.out p hp q1 q2 q3))), by simp; omega, ((HB5.out.setCell (by simp; omega) _).setCell (by simp; omega) _).setCell (by simp; omega) _⟩
      case measure => simp [intOf]; omega
    · obtain rfl : i = M := by omega
      go_wp2_with fail
      go_ret2
      exact ⟨HB.out, g0 + 1, by omega, rfl, HCd.out⟩

end Go.Proofs.Ytamckjbddnocpaa
