/- The law TreeLess, walked. -/
import Derived.Test.YtamckjbddnocpaaTLess
namespace Go.Proofs.Ytamckjbddnocpaa
open Go.RowKit
set_option linter.unusedVariables false

/-- a call of a Go function that leaves the world as it was, as one step of a region that draws -/
theorem step_call {P : Program} {ops : Array Oper} {o : Oper} {a : Act} {w : World} {K : Act → World → Prop} {Q : Exit → Act → World → Prop} {E : Prop} (hgd : o.guard = none) (f : FuncId) (args : Array Value)
    (hrun : (execOp a.eval o).run P w = .ok (.enter f args) w) (v : Value) (hc : Calls P f args w fun e w' => e = .returned v ∧ w' = w) (h : K (a.put o.dst v) w) :
    if Region.wanted o (yielded ops a.tmps) = true then Oper.wp P o a w K Q else E := by
  have hw : Region.wanted o (yielded ops a.tmps) = true := by simp [Region.wanted, hgd]
  rw [if_pos hw]
  unfold Oper.wp
  rw [hrun, Oper.upon_enter]
  refine hc.mono fun e w'' hh => ?_
  obtain ⟨rfl, rfl⟩ := hh
  exact h

theorem full3_trees : trees 3 (fullL 3) = 3 := by decide +kernel
theorem full3_ok : countErr 3 (fullL 3) = 0 := by decide +kernel
theorem full3_len : (fullL 3).length = 3 := by decide +kernel

theorem full3_call (w : World) : Calls Try.prog 14 #[.int .i64 3] w fun e w' => Below w.heap.size w w' ∧
      ∃ ao cap, e = .returned (.agg #[.int .i64 3, .slice ao 3 cap]) ∧ GraphIn w' ao cap (fullL 3) := by
  have h := full_any 3 (by omega) w
  rw [full3_len, show ((3 : Nat) : Int) = 3 from rfl] at h
  exact h

theorem full3_count (ao : Option Addr) (cap : Nat) (w : World) (hG : GraphIn w ao cap (fullL 3)) :
    Calls Try.prog 11 #[.agg #[.int .i64 3, .slice ao 3 cap]] w fun e w' => Below w.heap.size w w' ∧ e = .returned (.tuple #[.int .i64 3, .int .i64 0]) := by
  have h := Count_ok 3 ao cap (fullL 3) w hG full3_ok
  rw [full3_trees, full3_len, show ((3 : Nat) : Int) = 3 from rfl] at h
  exact h

/-- the law's beginning: up to what Count tells of the graph -/
theorem cut1_split (l : List Arc3) (k : Nat) (h : k < l.length) : l = l.take k ++ at3 l k :: l.drop (k + 1) := by
  rw [at3_lt l k h, ← List.drop_eq_getElem_cons h, List.take_append_drop]

set_option maxHeartbeats 1600000 in
theorem TreeLess_err (n k : Int) (ao : Option Addr) (cap : Nat) (l : List Arc3) (w : World) (hG : GraphIn w ao cap l) (he : countErr n l ≠ 0) :
    Calls Try.prog 5 #[.agg #[.int .i64 n, .slice ao l.length cap], .int .i64 k] w fun e w' => e = .returned (.bool true) ∧ Below w.heap.size w w' := by
  have hne : ((0 : Int) != 0) = false := rfl
  have hne3 : ((3 : Int) != 3) = false := rfl
  have heq0 : ((0 : Int) == 0) = true := rfl
  have hne2 : (countErr n l != 0) = true := by simpa using he
  have heq2 : (countErr n l == 0) = false := by simpa using he
  have HG : Hid (GraphIn (w.alloc (.cells #[.int .i64 n, .slice ao l.length cap] 34)) ao cap l) := hG.alloc _
  have HE : Hid (countErr n l ≠ 0) := he
  clear he hG
  go_enter Try.func5, Try.ntmps5
  go_wp2_with fail
  refine (full3_call _).mono ?_
  rintro e w1 ⟨hb1, ao1, cap1, rfl, hG1⟩
  have hz1 := hb1.size
  have hG2 := HG.out.below hb1 (Nat.le_refl _)
  simp only [World.size_alloc] at hz1 hb1
  have hcnt := full3_count ao1 cap1 w1 hG1
  clear hG1
  go_wp2_with fail
  refine hcnt.mono ?_
  rintro e w2 ⟨hb2, rfl⟩
  have hz2 := hb2.size
  have hG3 := hG2.below hb2 (Nat.le_refl _)
  have HB2 : Hid (Below (w.heap.size + 1) (w.alloc (.cells #[.int .i64 n, .slice ao l.length cap] 34)) w2) := hb1.trans (hb2.mono (by omega))
  have hbx : w2.heap[w.heap.size]? = some (.cells #[.int .i64 n, .slice ao l.length cap] 34 (0, 0)) := (HB2.out.block w.heap.size (by omega)).trans (blk_new w _)
  obtain ⟨x0, x1, xf0, xf1⟩ := blk2 hbx
  have hc2 := Count_err n ao cap l w2 hG3 HE.out
  have hwz : w.heap.size < w2.heap.size := by omega
  clear hb1 hb2 hcnt hG2 hbx
  go_wp2_with fail
  refine hc2.mono ?_
  rintro e w3 ⟨hb3, rfl⟩
  have hz3 := hb3.size
  have hG4 := hG3.below hb3 (Nat.le_refl _)
  have x0 := later hb3 x0 hwz
  have x1 := later hb3 x1 hwz
  have HB3 : Hid (Below (w.heap.size + 1) (w.alloc (.cells #[.int .i64 n, .slice ao l.length cap] 34)) w3) := HB2.out.trans (hb3.mono (by omega))
  have hwo := Without_any n k ao cap l w3 hG4
  have hwz3 : w.heap.size < w3.heap.size := by omega
  clear hb3 hc2 hG3 HB2 xf0 xf1
  generalize countErr n l = E at *
  go_wp2_with fail
  refine hwo.mono ?_
  rintro e w4 ⟨hb4, x, a, lc, cc, f, rfl⟩
  have hz4 := hb4.size
  have x0 := later hb4 x0 hwz3
  have x1 := later hb4 x1 hwz3
  have HB4 : Hid (Below (w.heap.size + 1) (w.alloc (.cells #[.int .i64 n, .slice ao l.length cap] 34)) w4) := HB3.out.trans (hb4.mono (by omega))
  have hwz4 : w.heap.size < w4.heap.size := by omega
  clear hb4 hwo hG4 HB3
  go_wp2_with fail
  go_ret
  exact ⟨rfl, (below_in HB4.out (by omega)).alloc (by omega) _⟩

set_option maxHeartbeats 1600000 in
theorem TreeLess_out (N : Nat) (k : Int) (ao : Option Addr) (cap : Nat) (l : List Arc3) (w : World) (hG : GraphIn w ao cap l) (he : countErr N l = 0) (hk : k < 0 ∨ (l.length : Int) ≤ k) :
    Calls Try.prog 5 #[.agg #[.int .i64 (N : Int), .slice ao l.length cap], .int .i64 k] w fun e w' => e = .returned (.bool true) ∧ Below w.heap.size w w' := by
  have hne : ((0 : Int) != 0) = false := rfl
  have hne3 : ((3 : Int) != 3) = false := rfl
  have heq0 : ((0 : Int) == 0) = true := rfl
  have HG : Hid (GraphIn (w.alloc (.cells #[.int .i64 (N : Int), .slice ao l.length cap] 34)) ao cap l) := hG.alloc _
  have HE : Hid (countErr N l = 0) := he
  clear he hG
  go_enter Try.func5, Try.ntmps5
  go_wp2_with fail
  refine (full3_call _).mono ?_
  rintro e w1 ⟨hb1, ao1, cap1, rfl, hG1⟩
  have hz1 := hb1.size
  have hG2 := HG.out.below hb1 (Nat.le_refl _)
  simp only [World.size_alloc] at hz1 hb1
  have hcnt := full3_count ao1 cap1 w1 hG1
  clear hG1
  go_wp2_with fail
  refine hcnt.mono ?_
  rintro e w2 ⟨hb2, rfl⟩
  have hz2 := hb2.size
  have hG3 := hG2.below hb2 (Nat.le_refl _)
  have HB2 : Hid (Below (w.heap.size + 1) (w.alloc (.cells #[.int .i64 (N : Int), .slice ao l.length cap] 34)) w2) := hb1.trans (hb2.mono (by omega))
  have hbx : w2.heap[w.heap.size]? = some (.cells #[.int .i64 (N : Int), .slice ao l.length cap] 34 (0, 0)) := (HB2.out.block w.heap.size (by omega)).trans (blk_new w _)
  obtain ⟨x0, x1, xf0, xf1⟩ := blk2 hbx
  have hc2 := Count_ok N ao cap l w2 hG3 HE.out
  have hwz : w.heap.size < w2.heap.size := by omega
  clear hb1 hb2 hcnt hG2 hbx
  go_wp2_with fail
  refine hc2.mono ?_
  rintro e w3 ⟨hb3, rfl⟩
  have hz3 := hb3.size
  have hG4 := hG3.below hb3 (Nat.le_refl _)
  have x0 := later hb3 x0 hwz
  have x1 := later hb3 x1 hwz
  have HB3 : Hid (Below (w.heap.size + 1) (w.alloc (.cells #[.int .i64 (N : Int), .slice ao l.length cap] 34)) w3) := HB2.out.trans (hb3.mono (by omega))
  have hwo := Without_none N k ao cap l w3 hG4.arcs (countErr_ok HE.out).1 hk
  have hne5 : ((5 : Int) != 0) = true := rfl
  have hwz3 : w.heap.size < w3.heap.size := by omega
  clear hb3 hc2 hG3 HB2 xf0 xf1
  go_wp2_with fail
  refine hwo.mono ?_
  rintro e w4 ⟨hb4, rfl⟩
  have hz4 := hb4.size
  have x0 := later hb4 x0 hwz3
  have x1 := later hb4 x1 hwz3
  have HB4 : Hid (Below (w.heap.size + 1) (w.alloc (.cells #[.int .i64 (N : Int), .slice ao l.length cap] 34)) w4) := HB3.out.trans (hb4.mono (by omega))
  have hwz4 : w.heap.size < w4.heap.size := by omega
  clear hb4 hwo hG4 HB3 hk
  go_wp2_with fail
  go_ret
  exact ⟨rfl, (below_in HB4.out (by omega)).alloc (by omega) _⟩

set_option maxHeartbeats 1600000 in
theorem TreeLess_one (k : Nat) (ao : Option Addr) (cap : Nat) (l : List Arc3) (w : World) (hG : GraphIn w ao cap l) (he : countErr (1 : Nat) l = 0) (hk : k < l.length) :
    Calls Try.prog 5 #[.agg #[.int .i64 ((1 : Nat) : Int), .slice ao l.length cap], .int .i64 (k : Int)] w fun e w' => e = .returned (.bool true) ∧ Below w.heap.size w w' := by
  obtain ⟨N, hN⟩ : ∃ N : Nat, N = 1 := ⟨1, rfl⟩
  rw [← hN] at he ⊢
  have hN2 : (N : Int) < 2 := by omega
  clear hN
  have hne : ((0 : Int) != 0) = false := rfl
  have hne3 : ((3 : Int) != 3) = false := rfl
  have heq0 : ((0 : Int) == 0) = true := rfl
  have HG : Hid (GraphIn (w.alloc (.cells #[.int .i64 (N : Int), .slice ao l.length cap] 34)) ao cap l) := hG.alloc _
  have HE : Hid (countErr N l = 0) := he
  clear he hG
  go_enter Try.func5, Try.ntmps5
  go_wp2_with fail
  refine (full3_call _).mono ?_
  rintro e w1 ⟨hb1, ao1, cap1, rfl, hG1⟩
  have hz1 := hb1.size
  have hG2 := HG.out.below hb1 (Nat.le_refl _)
  simp only [World.size_alloc] at hz1 hb1
  have hcnt := full3_count ao1 cap1 w1 hG1
  clear hG1
  go_wp2_with fail
  refine hcnt.mono ?_
  rintro e w2 ⟨hb2, rfl⟩
  have hz2 := hb2.size
  have hG3 := hG2.below hb2 (Nat.le_refl _)
  have HB2 : Hid (Below (w.heap.size + 1) (w.alloc (.cells #[.int .i64 (N : Int), .slice ao l.length cap] 34)) w2) := hb1.trans (hb2.mono (by omega))
  have hbx : w2.heap[w.heap.size]? = some (.cells #[.int .i64 (N : Int), .slice ao l.length cap] 34 (0, 0)) := (HB2.out.block w.heap.size (by omega)).trans (blk_new w _)
  obtain ⟨x0, x1, xf0, xf1⟩ := blk2 hbx
  have hc2 := Count_ok N ao cap l w2 hG3 HE.out
  have hwz : w.heap.size < w2.heap.size := by omega
  clear hb1 hb2 hcnt hG2 hbx
  go_wp2_with fail
  refine hc2.mono ?_
  rintro e w3 ⟨hb3, rfl⟩
  have hz3 := hb3.size
  have hG4 := hG3.below hb3 (Nat.le_refl _)
  have x0 := later hb3 x0 hwz
  have x1 := later hb3 x1 hwz
  have HB3 : Hid (Below (w.heap.size + 1) (w.alloc (.cells #[.int .i64 (N : Int), .slice ao l.length cap] 34)) w3) := HB2.out.trans (hb3.mono (by omega))
  have hwo := Without_ok N ao cap l k w3 hG4.arcs (countErr_ok HE.out).1 hk hG4.le hG4.max
  have hwz3 : w.heap.size < w3.heap.size := by omega
  clear hb3 hc2 hG3 HB2 xf0 xf1
  go_wp2_with fail
  refine hwo.mono ?_
  rintro e w4 ⟨hb4, b4, hb4z, rfl, hA4, _⟩
  have hz4 := hb4.size
  have x0 := later hb4 x0 hwz3
  have x1 := later hb4 x1 hwz3
  have HB4 : Hid (Below (w.heap.size + 1) (w.alloc (.cells #[.int .i64 (N : Int), .slice ao l.length cap] 34)) w4) := HB3.out.trans (hb4.mono (by omega))
  have hwz4 : w.heap.size < w4.heap.size := by omega
  clear hb4 hwo hG4 HB3
  go_wp2_with fail
  go_ret
  exact ⟨rfl, (below_in HB4.out (by omega)).alloc (by omega) _⟩

theorem cut1_nodes {l : List Arc3} {k : Nat} {a : Arc3} (h : a ∈ cut1 l k) : a ∈ l := by
  rcases List.mem_append.1 h with h | h
  · exact List.mem_of_mem_take h
  · exact List.mem_of_mem_drop h

theorem cut1_count {N : Nat} {l : List Arc3} {k : Nat} (h : countErr N l = 0) (hk : k < l.length) : countErr N (cut1 l k) = 0 := by
  obtain ⟨h1, h2, h3⟩ := countErr_ok h
  obtain ⟨e1, e2, e3⟩ := err_ok h1
  have := cut1_length l k hk
  exact countErr_mk (err_mk ⟨e1, by omega, fun a ha => e3 a (cut1_nodes ha)⟩) h2 (by omega)

theorem ctr_count {N : Nat} {l : List Arc3} {f t : Nat} (h : countErr N l = 0) (h2 : 2 ≤ N) (hf : f < N) (ht : t < N) (hne : f ≠ t) : countErr ((N - 1 : Nat) : Int) (l.map (ctrA N f t)) = 0 := by
  obtain ⟨h1, h2', h3⟩ := countErr_ok h
  obtain ⟨e1, e2, e3⟩ := err_ok h1
  refine countErr_mk (err_mk ⟨by omega, by rw [List.length_map]; exact e2, fun a ha => ?_⟩) (by omega) (by rw [List.length_map]; exact h3)
  obtain ⟨x, hx, rfl⟩ := List.mem_map.1 ha
  have := e3 x hx
  exact ⟨ctr_node hf ht hne this.1, ctr_node hf ht hne this.2.1, by simp [ctrA], by simp [ctrA]⟩

theorem trees_abs {N : Nat} {l : List Arc3} (h : countErr N l = 0) : -14108774400000000 ≤ trees N l ∧ trees N l ≤ 14108774400000000 := by
  obtain ⟨h1, h2, h3⟩ := countErr_ok h
  obtain ⟨e1, e2, e3⟩ := err_ok h1
  rw [trees_det (by omega) fun a ha => ⟨(e3 a ha).1, (e3 a ha).2.1⟩]
  have := Nat.le_trans (det_abs 60 (N - 1) (lap l) fun i j _ _ => Nat.le_trans (lap_abs l i j) (by omega)) (show fact (N - 1) * 60 ^ (N - 1) ≤ _ from big_le (k := N - 1) (by omega))
  omega

set_option maxHeartbeats 2400000 in
theorem TreeLess_in (N : Nat) (k : Nat) (ao : Option Addr) (cap : Nat) (l : List Arc3) (w : World) (hG : GraphIn w ao cap l) (he : countErr N l = 0) (hk : k < l.length) (hN2 : 2 ≤ N) :
    Calls Try.prog 5 #[.agg #[.int .i64 (N : Int), .slice ao l.length cap], .int .i64 (k : Int)] w fun e w' => e = .returned (.bool true) ∧ Below w.heap.size w w' := by
  have hne : ((0 : Int) != 0) = false := rfl
  have hne3 : ((3 : Int) != 3) = false := rfl
  have heq0 : ((0 : Int) == 0) = true := rfl
  have HG : Hid (GraphIn (w.alloc (.cells #[.int .i64 (N : Int), .slice ao l.length cap] 34)) ao cap l) := hG.alloc _
  have HE : Hid (countErr N l = 0) := he
  clear he hG
  go_enter Try.func5, Try.ntmps5
  go_wp2_with fail
  refine (full3_call _).mono ?_
  rintro e w1 ⟨hb1, ao1, cap1, rfl, hG1⟩
  have hz1 := hb1.size
  have hG2 := HG.out.below hb1 (Nat.le_refl _)
  simp only [World.size_alloc] at hz1 hb1
  have hcnt := full3_count ao1 cap1 w1 hG1
  clear hG1
  go_wp2_with fail
  refine hcnt.mono ?_
  rintro e w2 ⟨hb2, rfl⟩
  have hz2 := hb2.size
  have hG3 := hG2.below hb2 (Nat.le_refl _)
  have HB2 : Hid (Below (w.heap.size + 1) (w.alloc (.cells #[.int .i64 (N : Int), .slice ao l.length cap] 34)) w2) := hb1.trans (hb2.mono (by omega))
  have hbx : w2.heap[w.heap.size]? = some (.cells #[.int .i64 (N : Int), .slice ao l.length cap] 34 (0, 0)) := (HB2.out.block w.heap.size (by omega)).trans (blk_new w _)
  obtain ⟨x0, x1, xf0, xf1⟩ := blk2 hbx
  have hc2 := Count_ok N ao cap l w2 hG3 HE.out
  have hwz : w.heap.size < w2.heap.size := by omega
  clear hb1 hb2 hcnt hG2 hbx
  go_wp2_with fail
  refine hc2.mono ?_
  rintro e w3 ⟨hb3, rfl⟩
  have hz3 := hb3.size
  have hG4 := hG3.below hb3 (Nat.le_refl _)
  have x0 := later hb3 x0 hwz
  have x1 := later hb3 x1 hwz
  have HB3 : Hid (Below (w.heap.size + 1) (w.alloc (.cells #[.int .i64 (N : Int), .slice ao l.length cap] 34)) w3) := HB2.out.trans (hb3.mono (by omega))
  have hwo := Without_ok N ao cap l k w3 hG4.arcs (countErr_ok HE.out).1 hk hG4.le hG4.max
  have hwz3 : w.heap.size < w3.heap.size := by omega
  clear hb3 hc2 hG3 HB2 xf0 xf1
  go_wp2_with fail
  refine hwo.mono ?_
  rintro e w4 ⟨hb4, b4, hb4z, rfl, hA4, _⟩
  have hz4 := hb4.size
  have x0 := later hb4 x0 hwz3
  have x1 := later hb4 x1 hwz3
  have HB4 : Hid (Below (w.heap.size + 1) (w.alloc (.cells #[.int .i64 (N : Int), .slice ao l.length cap] 34)) w4) := HB3.out.trans (hb4.mono (by omega))
  have hwz4 : w.heap.size < w4.heap.size := by omega
  have hG5 := hG4.below hb4 (Nat.le_refl _)
  have hN2' : ¬ (N : Int) < 2 := by omega
  have hk0 : ¬ (k : Int) < 0 := by omega
  have hkl : ¬ (l.length : Int) ≤ (k : Int) := by omega
  have hcl := cut1_length l k hk
  obtain ⟨hg0, hN8, hl30⟩ := countErr_ok HE.out
  have hGc : GraphIn w4 (some ⟨b4, 0, none⟩) (l.length - 1) (cut1 l k) := ⟨hA4, by rw [hcl]; exact Nat.le_refl _, by unfold maxLen; omega, fun e => by cases e⟩
  have hc4 := Count_ok N (some ⟨b4, 0, none⟩) (l.length - 1) (cut1 l k) (w4.alloc (.cells #[.int .i64 (N : Int), .slice (some ⟨b4, 0, none⟩) (l.length - 1) (l.length - 1)] 34)) (hGc.alloc _) (cut1_count HE.out hk)
  rw [hcl] at hc4
  have HGc : Hid (GraphIn w4 (some ⟨b4, 0, none⟩) (l.length - 1) (cut1 l k)) := hGc
  have HG5 : Hid (GraphIn w4 ao cap l) := hG5
  have HCL : Hid ((cut1 l k).length = l.length - 1) := hcl
  clear hb4 hwo hG4 HB3 hA4 hGc hG5 hg0 hcl
  go_wp2_with fail
  refine hc4.mono ?_
  rintro e w5 ⟨hb5, rfl⟩
  have hz5 := hb5.size
  simp only [World.size_alloc] at hz5 hb5
  have HB5 : Hid (Below (w.heap.size + 1) (w.alloc (.cells #[.int .i64 (N : Int), .slice ao l.length cap] 34)) w5) := HB4.out.trans (((below_one w4 _).mono (by omega)).trans (hb5.mono (by omega)))
  have x0 := later hb5 (later (below_one w4 _) x0 hwz4) (by omega)
  have x1 := later hb5 (later (below_one w4 _) x1 hwz4) (by omega)
  have hph := blk_below hb5 (blk_new w4 (.cells #[.int .i64 (N : Int), .slice (some ⟨b4, 0, none⟩) (l.length - 1) (l.length - 1)] 34)) (by omega)
  have HGh : Hid (GraphIn w5 (some ⟨b4, 0, none⟩) (l.length - 1) (cut1 l k)) := (HGc.out.alloc _).below hb5 (by simp)
  obtain ⟨p0, p1, pf0, pf1⟩ := blk2 hph
  obtain ⟨b, off, rfl, hb, c0, c1, c2⟩ := ((HG5.out.alloc _).below hb5 (by simp)).arcs k hk
  have hwz5 : w.heap.size < w5.heap.size := by omega
  have hpz5 : w4.heap.size < w5.heap.size := by omega
  have hsp := cut1_split l k hk
  have hnode := (err_ok (countErr_ok HE.out).1).2.2 _ (at3_mem l k hk)
  have HNl : Hid (∀ a ∈ cut1 l k, (0 ≤ a.1 ∧ a.1 < (N : Int)) ∧ (0 ≤ a.2.1 ∧ a.2.1 < (N : Int))) := fun a ha => by
    have := (err_ok (countErr_ok HE.out).1).2.2 _ (cut1_nodes ha)
    exact ⟨this.1, this.2.1⟩
  generalize ha : at3 l k = a at *
  obtain ⟨f, t, c⟩ := a
  simp only at c0 c1 c2 hnode
  obtain ⟨⟨q1, q2⟩, ⟨q3, q4⟩, _⟩ := hnode
  obtain ⟨f, rfl⟩ := Int.eq_ofNat_of_zero_le q1
  obtain ⟨t, rfl⟩ := Int.eq_ofNat_of_zero_le q3
  have hf : f < N := by omega
  have ht : t < N := by omega
  clear hb5 hc4 HGc HG5 HB4 ha q1 q2 q3 q4 hph
  by_cases hft : f = t
  · subst hft
    have HT : Hid (trees N l = trees N (cut1 l k)) := by
      have := trees_loop N (l.take k) (l.drop (k + 1)) f c
      rw [← hsp] at this
      exact this
    have heqT : (trees N l == trees N (cut1 l k)) = true := by rw [HT.out]; simp
    clear hsp HT
    generalize trees N l = T1 at *
    generalize trees N (cut1 l k) = T2 at *
    go_wp2_with fail
    go_ret
    exact ⟨rfl, (below_in HB5.out (by omega)).alloc (by omega) _⟩
  · have HT : Hid (trees N l = trees N (cut1 l k) + trees (N - 1) ((cut1 l k).map (ctrA N f t))) := by
      have := trees_less (l := l.take k) (m := l.drop (k + 1)) c hf ht hft HNl.out
      rw [← hsp] at this
      exact this
    have hft' : ((f : Int) == (t : Int)) = false := by simp; omega
    have hT1 := trees_abs HE.out
    have hT2 := trees_abs (cut1_count HE.out hk)
    have hT3 := trees_abs (ctr_count (cut1_count HE.out hk) hN2 hf ht hft)
    have HT1 : Hid ((trees N l == trees N (cut1 l k) + trees (N - 1) ((cut1 l k).map (ctrA N f t))) = true) := by rw [Hid, HT.out]; simp
    have HC3 : Hid (countErr ((N - 1 : Nat) : Int) ((cut1 l k).map (ctrA N f t)) = 0) := ctr_count (cut1_count HE.out hk) hN2 hf ht hft
    rw [HT.out] at hT1
    obtain ⟨i0, hi, hz0, hz1i, hz2i⟩ := info_parts infoArc
    clear hsp
    obtain ⟨W, hW⟩ : ∃ W : World, W = w5.alloc (.cells #[.int .i64 (f : Int), .int .i64 (t : Int), .int .i64 c] 39) := ⟨_, rfl⟩
    have hWz : W.heap.size = w5.heap.size + 1 := by rw [hW]; simp
    have ya := blk_new w5 (.cells #[.int .i64 (f : Int), .int .i64 (t : Int), .int .i64 c] 39)
    rw [← hW] at ya
    have HB6 : Hid (Below w.heap.size w W) := by rw [hW]; exact (below_in HB5.out (by omega)).alloc (by omega) _
    have HGh6 : Hid (GraphIn W (some ⟨b4, 0, none⟩) (l.length - 1) (cut1 l k)) := by rw [hW]; exact HGh.out.alloc _
    have X0 : W.cell? ⟨w.heap.size, 0, none⟩ = some (.int .i64 (N : Int)) := by rw [hW]; exact later (below_one w5 _) x0 hwz5
    obtain ⟨ya0, ya1, ya2⟩ := blk3 ya
    have HN1 : Hid (((N : Int) - 1) = ((N - 1 : Nat) : Int)) := by rw [Hid]; omega
    clear HGh HB5
    go_wp2_with fail
    rw [← hW, ← hWz]
    have HWz : Hid (W.heap.size = w5.heap.size + 1) := hWz
    have hwW : w.heap.size < W.heap.size := by omega
    have haW : w5.heap.size < W.heap.size := by omega
    clear hW hWz x0 x1 p0 p1 pf0 pf1 ya c0 c1 c2
    go_loopw [98] (fun i wr => ∃ j : Nat, j ≤ l.length - 1 ∧ i = .int .i64 j ∧ (∃ v, wr.heap[W.heap.size]? = some (.cells #[.int .i64 ((N : Int) - 1), v] 34 (0, 0)) ∧ wr.ownsRow W.heap.size 39 3 v j (flat (((cut1 l k).map (ctrA N f t)).take j))) ∧ Below W.heap.size W wr) (fun i _ => l.length - 1 - (intOf i).toNat)
    case atStart => exact ⟨0, Nat.zero_le _, rfl, ⟨_, blk_new _ _, World.ownsRow_nil _ _ _ _⟩, below_one _ _⟩
    case round =>
      obtain ⟨j, hj, rfl, ⟨v, hblk, hown⟩, hB⟩ := hrel
      have hz := hB.size
      have hpl : W.heap.size < wr.heap.size := (Array.getElem?_eq_some_iff.1 hblk).1
      obtain ⟨ao6, cap6, rfl⟩ := owns_shape hown
      obtain ⟨s0, s1, g0, g1⟩ := blk2 hblk
      by_cases hlt : j < l.length - 1
      · have hjc : j < (cut1 l k).length := by rw [HCL.out]; exact hlt
        obtain ⟨b', off', e', hb', d0, d1, d2⟩ := (HGh6.out.below hB (Nat.le_refl _)).arcs j hjc
        cases e'
        have hsn := take_snoc3 ((cut1 l k).map (ctrA N f t)) j (by rw [List.length_map]; exact hjc)
        rw [at3_map _ _ _ hjc] at hsn
        generalize at3 (cut1 l k) j = a at *
        obtain ⟨af, at', ac⟩ := a
        simp only at d0 d1 d2
        rw [Nat.zero_add] at d0 d1 d2
        have HS : Hid (flat (((cut1 l k).map (ctrA N f t)).take (j + 1)) = flat (((cut1 l k).map (ctrA N f t)).take j) ++ [.int .i64 (ctr N f t af), .int .i64 (ctr N f t at'), .int .i64 0]) := by
          rw [Hid, hsn, flat_append]; rfl
        clear hsn
        have HAt : Hid (∀ y : World, Below W.heap.size W y → ∀ i : Int, Calls Try.prog 16 #[.int .i64 i, .pointer (some ⟨w5.heap.size, 0, none⟩), .pointer (some ⟨w.heap.size, 0, none⟩)] y fun e w' => e = .returned (.int .i64 (ctr N f t i)) ∧ w' = y) := fun y hbw i => by
          have hzz := hbw.size
          exact at_any N f t hft i w5.heap.size w.heap.size _ (by omega) hf ht (by omega) (by omega) (later hbw ya0 haW) (later hbw ya1 haW) (later hbw X0 hwW)
        have HS1 : Hid (Below W.heap.size W (wr.alloc (.cells #[.int .i64 af, .int .i64 at', .int .i64 ac] 39)).drew ∧ (wr.alloc (.cells #[.int .i64 af, .int .i64 at', .int .i64 ac] 39)).drew.cell? ⟨W.heap.size, 1, none⟩ = some (.slice ao6 j cap6) ∧ (wr.alloc (.cells #[.int .i64 af, .int .i64 at', .int .i64 ac] 39)).drew.cell? ⟨wr.heap.size, 0, none⟩ = some (.int .i64 af) ∧ (wr.alloc (.cells #[.int .i64 af, .int .i64 at', .int .i64 ac] 39)).drew.cell? ⟨wr.heap.size, 1, none⟩ = some (.int .i64 at')) :=
          ⟨(hB.alloc hz _).drew, later (below_one wr _) s1 hpl, newest _ _ _, newest _ _ _⟩
        have HS2 : Hid (Below W.heap.size W ((wr.alloc (.cells #[.int .i64 af, .int .i64 at', .int .i64 ac] 39)).alloc (.cells #[.int .i64 (ctr N f t af), .int .i64 (ctr N f t at'), .int .i64 0] 39)).drew ∧ ((wr.alloc (.cells #[.int .i64 af, .int .i64 at', .int .i64 ac] 39)).alloc (.cells #[.int .i64 (ctr N f t af), .int .i64 (ctr N f t at'), .int .i64 0] 39)).drew.cell? ⟨W.heap.size, 1, none⟩ = some (.slice ao6 j cap6) ∧ ((wr.alloc (.cells #[.int .i64 af, .int .i64 at', .int .i64 ac] 39)).alloc (.cells #[.int .i64 (ctr N f t af), .int .i64 (ctr N f t at'), .int .i64 0] 39)).drew.cell? ⟨wr.heap.size, 0, none⟩ = some (.int .i64 af) ∧ ((wr.alloc (.cells #[.int .i64 af, .int .i64 at', .int .i64 ac] 39)).alloc (.cells #[.int .i64 (ctr N f t af), .int .i64 (ctr N f t at'), .int .i64 0] 39)).drew.cell? ⟨wr.heap.size, 1, none⟩ = some (.int .i64 at')) :=
          ⟨((hB.alloc hz _).alloc (by simp; omega) _).drew, later (below_one _ _) (later (below_one wr _) s1 hpl) (by simp; omega), later (below_one _ _) (newest _ _ _) (by simp), later (below_one _ _) (newest _ _ _) (by simp)⟩
        have HO : Hid (((wr.alloc (.cells #[.int .i64 af, .int .i64 at', .int .i64 ac] 39)).alloc (.cells #[.int .i64 (ctr N f t af), .int .i64 (ctr N f t at'), .int .i64 0] 39)).drew.ownsRow W.heap.size 39 3 (.slice ao6 j cap6) j (flat (((cut1 l k).map (ctrA N f t)).take j))) := ((hown.alloc _).alloc _).drew
        have HBl : Hid (Below W.heap.size W ((wr.alloc (.cells #[.int .i64 af, .int .i64 at', .int .i64 ac] 39)).alloc (.cells #[.int .i64 (ctr N f t af), .int .i64 (ctr N f t at'), .int .i64 0] 39)).drew) := ((hB.alloc hz _).alloc (by simp; omega) _).drew
        have HC1 : Hid (∀ i u, [Value.int .i64 (ctr N f t af), .int .i64 (ctr N f t at'), .int .i64 0][i]? = some u → ((wr.alloc (.cells #[.int .i64 af, .int .i64 at', .int .i64 ac] 39)).alloc (.cells #[.int .i64 (ctr N f t af), .int .i64 (ctr N f t at'), .int .i64 0] 39)).drew.cell? ((⟨wr.heap.size + 1, 0, none⟩ : Addr).add i) = some u) := news3 (t := 39) (blk_drew blk_new1)
        have HC2 : Hid (∀ u ∈ [Value.int .i64 (ctr N f t af), .int .i64 (ctr N f t at'), .int .i64 0], u.oneCell' = true) := by intro u hu; simp at hu; rcases hu with rfl | rfl | rfl <;> rfl
        have HK : Hid (j + 1 ≤ maxLen) := by unfold Hid maxLen; omega
        have HBk2 : Hid (((wr.alloc (.cells #[.int .i64 af, .int .i64 at', .int .i64 ac] 39)).alloc (.cells #[.int .i64 (ctr N f t af), .int .i64 (ctr N f t at'), .int .i64 0] 39)).drew.heap[W.heap.size]? = some (.cells #[.int .i64 ((N : Int) - 1), .slice ao6 j cap6] 34 (0, 0))) := blk_drew (blk_old (blk_old hblk _) _)
        have HGr : Hid (∀ v8 w8, World.ownsRow w8 W.heap.size 39 3 v8 (j + 1) (flat (((cut1 l k).map (ctrA N f t)).take j) ++ [.int .i64 (ctr N f t af), .int .i64 (ctr N f t at'), .int .i64 0]) → ((wr.alloc (.cells #[.int .i64 af, .int .i64 at', .int .i64 ac] 39)).alloc (.cells #[.int .i64 (ctr N f t af), .int .i64 (ctr N f t at'), .int .i64 0] 39)).drew.grownBy w8 (Value.slice ao6 j cap6).ownBlock →
            ∃ ao8 cap8, v8 = .slice ao8 (j + 1) cap8 ∧ Hid (w8.ownsRow W.heap.size 39 3 (.slice ao8 (j + 1) cap8) (j + 1) (flat (((cut1 l k).map (ctrA N f t)).take (j + 1)))) ∧ Hid (Below W.heap.size W w8) ∧ Hid (w8.heap[W.heap.size]? = some (.cells #[.int .i64 ((N : Int) - 1), .slice ao6 j cap6] 34 (0, 0))) ∧
              (Below W.heap.size W w8 ∧ w8.cell? ⟨W.heap.size, 1, none⟩ = some (.slice ao6 j cap6) ∧ w8.cell? ⟨wr.heap.size, 0, none⟩ = some (.int .i64 af) ∧ w8.cell? ⟨wr.heap.size, 1, none⟩ = some (.int .i64 at'))) := fun v8 w8 h2 h3 => by
          obtain ⟨ao8, cap8, rfl⟩ := owns_shape h2
          have hbel := grown_bel HBl.out HO.out h3
          have hk := grown_blk HO.out h3 (by decide) HBk2.out
          have hbb : w8.heap[wr.heap.size]? = some (.cells #[.int .i64 af, .int .i64 at', .int .i64 ac] 39 (0, 0)) := by
            rw [h3.block wr.heap.size (by simp; omega) ?_]
            · exact blk_drew (blk_old (blk_new _ _) _)
            · intro e
              rcases hown.2 with ⟨e', _⟩ | ⟨g', _, cur, e', _, hg', _⟩
              · rw [e'] at e; cases e
              · have hgl : g' < wr.heap.size := (Array.getElem?_eq_some_iff.1 hg').1
                rw [e'] at e
                simp only [Value.ownBlock, Option.some.injEq] at e
                omega
          obtain ⟨m0, m1, m2⟩ := blk3 hbb
          exact ⟨ao8, cap8, rfl, by rw [Hid, HS.out]; exact h2, hbel, hk, hbel, (blk2 hk).2.1, m0, m1⟩
        have HAf : Hid (∀ i : Int, Calls Try.prog 16 #[.int .i64 i, .pointer (some ⟨w5.heap.size, 0, none⟩), .pointer (some ⟨w.heap.size, 0, none⟩)] (wr.alloc (.cells #[.int .i64 af, .int .i64 at', .int .i64 ac] 39)).drew fun e w' => e = .returned (.int .i64 (ctr N f t i)) ∧ w' = (wr.alloc (.cells #[.int .i64 af, .int .i64 at', .int .i64 ac] 39)).drew) := fun i => HAt.out _ HS1.out.1 i
        clear hown hblk hB HAt
        go_wp2_with fail
        go_region_law (first
            | (refine step_append_own rfl (.tmp 103) (.tmp 113) 32 rfl W.heap.size 39 i0 _ 3 24 Try.underlying32 hi hz0 hz1i hz2i rfl (by decide) (.slice ao6 j cap6) j (flat (((cut1 l k).map (ctrA N f t)).take j)) rfl HO.out ⟨wr.heap.size + 1, 0, none⟩ 1 1 [.int .i64 (ctr N f t af), .int .i64 (ctr N f t at'), .int .i64 0] rfl rfl HC1.out HC2.out HK.out (by omega) HBl.out.size ?_; intro v8 w8 hown8 hgrow8 _; obtain ⟨ao8, cap8, rfl, HO8, HB8, HK8, hs8⟩ := HGr.out v8 w8 hown8 hgrow8; have hz8 := HB8.out.size; have hp8 : W.heap.size < w8.heap.size := (Array.getElem?_eq_some_iff.1 HK8.out).1; obtain ⟨t0, t1, e0, e1⟩ := blk2 HK8.out; clear hown8 hgrow8)
            | (go_simp; go_at_call 16; refine Calls.mono (HAf.out _) ?_; rintro e w9 ⟨rfl, hw9⟩; subst hw9; dsimp only))
        all_goals
          have HBn : Hid ((w8.setCell ⟨W.heap.size, 1, none⟩ (.slice ao8 (j + 1) cap8)).heap[W.heap.size]? = some (.cells #[.int .i64 ((N : Int) - 1), .slice ao8 (j + 1) cap8] 34 (0, 0))) := blk2_set1 HK8.out _
          have HOn : Hid ((w8.setCell ⟨W.heap.size, 1, none⟩ (.slice ao8 (j + 1) cap8)).ownsRow W.heap.size 39 3 (.slice ao8 (j + 1) cap8) (j + 1) (flat (((cut1 l k).map (ctrA N f t)).take (j + 1)))) := owns_set HO8.out (fun _ _ g c e => owns_ne HO8.out HK8.out (by decide) g c e) _
          go_wp2_with fail
          go_roundw
          case rel => exact ⟨j + 1, by omega, by go_num, ⟨_, HBn.out, HOn.out⟩, HB8.out.setCell (Nat.le_refl _) _⟩
          case measure => simp [intOf]; omega
      · have hjj : j = l.length - 1 := by omega
        subst hjj
        have hlen1 : ((cut1 l k).map (ctrA N f t)).length = l.length - 1 := by rw [List.length_map]; exact HCL.out
        rw [List.take_of_length_le (by rw [hlen1]; exact Nat.le_refl _)] at hown
        have hown2 : wr.ownsRow W.heap.size 39 3 (.slice ao6 (l.length - 1) cap6) ((cut1 l k).map (ctrA N f t)).length (flat ((cut1 l k).map (ctrA N f t))) := by rw [hlen1]; exact hown
        have hnil : ao6 = none → l.length - 1 = 0 ∧ cap6 = 0 := fun e => by
          rcases hown.2 with ⟨e', hn⟩ | ⟨g', _, _, e', _⟩
          · simp only [Value.slice.injEq] at e'; exact ⟨hn, e'.2.2⟩
          · rw [e] at e'; cases e'
        obtain ⟨_, _, e3, hA3, hfr3, hc3, hm3⟩ := owns_arcs hown2
        rw [hlen1] at e3 hc3
        cases e3
        have hcnt := Count_ok (N - 1) ao6 cap6 ((cut1 l k).map (ctrA N f t)) wr ⟨hA3, by rw [hlen1]; exact hc3, hm3, fun e => by rw [hlen1]; exact hnil e⟩ HC3.out
        rw [hlen1, ← HN1.out] at hcnt
        have HB7 : Hid (Below w.heap.size w wr) := HB6.out.trans (hB.mono (by omega))
        clear hown hown2 hA3 hfr3 hc3 hm3 hB hblk hnil hlen1
        go_wp2_with fail
        refine hcnt.mono ?_
        rintro e w9 ⟨hb9, rfl⟩
        have HB9 : Hid (Below w.heap.size w w9) := HB7.out.trans (hb9.mono (by omega))
        have hTT := HT1.out
        clear hb9 hcnt HB7
        generalize trees N l = T1 at *
        generalize trees N (cut1 l k) = T2 at *
        generalize trees (N - 1) ((cut1 l k).map (ctrA N f t)) = T3 at *
        go_wp2_with fail
        go_ret
        exact ⟨rfl, HB9.out⟩

theorem TreeLess_walk (n k : Int) (ao : Option Addr) (cap : Nat) (l : List Arc3) (w : World) (hG : GraphIn w ao cap l) :
    Calls Try.prog 5 #[.agg #[.int .i64 n, .slice ao l.length cap], .int .i64 k] w fun e w' => e = .returned (.bool true) ∧ Below w.heap.size w w' := by
  by_cases he : countErr n l = 0
  · obtain ⟨hg, h8, h30⟩ := countErr_ok he
    obtain ⟨⟨hn1, hn2⟩, _, _⟩ := err_ok hg
    obtain ⟨N, rfl⟩ : ∃ N : Nat, n = (N : Int) := ⟨n.toNat, by omega⟩
    by_cases hk : k < 0 ∨ (l.length : Int) ≤ k
    · exact TreeLess_out N k ao cap l w hG he hk
    · obtain ⟨k, rfl⟩ : ∃ k' : Nat, k = (k' : Int) := ⟨k.toNat, by omega⟩
      by_cases h1 : N = 1
      · subst h1; exact TreeLess_one k ao cap l w hG he (by omega)
      · exact TreeLess_in N k ao cap l w hG he (by omega) (by omega)
  · exact TreeLess_err n k ao cap l w hG he

end Go.Proofs.Ytamckjbddnocpaa
