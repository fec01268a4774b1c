/- Contracts of package tree: standing, arcAt, otherEnd. -/
import Derived.Test.YtamckjbddnocpaaCMath
import Derived.Test.YtamckjbddnocpaaMk
import Derived.Test.YtamckjbddnocpaaTLeaf
namespace Go.Proofs.Ytamckjbddnocpaa
open Go.RowKit
set_option linter.unusedVariables false

theorem infoBoolT : (Try.prog.info? 4).map (fun i => (i.zero, i.size, i.bytes)) = some (some (.bool false), 1, 1) := by kernel_rfl
def zerG (k : Nat) : Array Value := madeCells #[.bool false] k
theorem make_gone (n : Nat) (hn : n ≤ 60) (w : World) :
    (Instr.makeSlice 67 (.int .i64 (n : Int)) (.int .i64 (n : Int))).run Try.prog w = .ok (.slice (some ⟨w.heap.size, 0, none⟩) n n) (w.alloc (.cells (zerG n) 4)) :=
  run_make_row' 67 4 (.bool false) 1 Try.underlying67 infoBoolT rfl .i64 .i64 n (by omega) (by omega) w
theorem zerG_row (w : World) (n : Nat) (t : TypeId) : (w.alloc (.cells (zerG n) t)).rowIs w.heap.size t n (fun _ => .bool false) := World.rowIs_made w (.bool false) n t

theorem degN_snoc (E : List Arc3) (f t : Nat) (c : Int) (v : Nat) : degN (E ++ [((f : Int), (t : Int), c)]) v = degN E v + (one (v = f) + one (v = t)) := by
  rw [degN_append, degN_cons]
  have e0 : degN [] v = 0 := rfl
  have := (show Joins ((f : Int), (t : Int), c) f t from Or.inl ⟨rfl, rfl⟩).ev v
  rw [this, e0]; omega

set_option maxHeartbeats 800000 in
theorem standing_any (N : Nat) (ao : Option Addr) (cap : Nat) (E : List Arc3) (w : World) (hA : ArcsAt w ao E) (hN : N ≤ 12) (hlen : E.length ≤ 60) (hn : ∀ a ∈ E, (0 ≤ a.1 ∧ a.1 < (N : Int)) ∧ (0 ≤ a.2.1 ∧ a.2.1 < (N : Int))) :
    Calls Try.prog 33 #[.agg #[.int .i64 (N : Int), .slice ao E.length cap]] w fun e w' => Below w.heap.size w w' ∧
      ∃ b, w.heap.size ≤ b ∧ e = .returned (.slice (some ⟨b, 0, none⟩) N N) ∧ w'.rowIs b 3 N (fun j => .int .i64 (degN E j)) := by
  have hmk := make_ints N (by omega)
  have HAll : Hid (∀ a ∈ E, (0 ≤ a.1 ∧ a.1 < (N : Int)) ∧ (0 ≤ a.2.1 ∧ a.2.1 < (N : Int))) := hn
  have HA : Hid (ArcsAt w ao E) := hA
  clear hn hA
  have hB0 : Below w.heap.size w ((w.alloc (.cells #[.int .i64 (N : Int), .slice ao E.length cap] 34)).alloc (.cells (zeri N) 3)) := (below_one w _).alloc (by simp) _
  go_enter Try.func33, Try.ntmps33
  go_wp2
  go_loopw [12] (fun i wr => ∃ k : Nat, k ≤ E.length ∧ i = .int .i64 k ∧ wr.rowIs (w.heap.size + 1) 3 N (fun j => .int .i64 (degN (E.take k) j)) ∧ Below w.heap.size w wr) (fun i _ => E.length - (intOf i).toNat)
  case atStart => exact ⟨0, Nat.zero_le _, rfl, by have := zeri_row (w.alloc (.cells #[.int .i64 (N : Int), .slice ao E.length cap] 34)) N 3; rw [World.size_alloc] at this; exact this, hB0⟩
  case round =>
    obtain ⟨k, hk, rfl, hro, hB⟩ := hrel
    have hzr := hro.lt
    by_cases hlt : k < E.length
    · obtain ⟨b, off, rfl, hb, c0, c1, c2⟩ := HA.out k hlt
      have c0 := later hB c0 hb
      have c1 := later hB c1 hb
      have c2 := later hB c2 hb
      have hbz : b < wr.heap.size := by omega
      have hmem := at3_mem E k hlt
      have hsn := take_snoc3 E k hlt
      generalize ha : at3 E k = a at *
      obtain ⟨f, t, c⟩ := a
      obtain ⟨⟨p1, p2⟩, p3, p4⟩ := HAll.out _ hmem
      simp only at p1 p2 p3 p4 c0 c1 c2
      obtain ⟨f, rfl⟩ := Int.eq_ofNat_of_zero_le p1
      obtain ⟨t, rfl⟩ := Int.eq_ofNat_of_zero_le p3
      have HO : Hid (∀ v : Nat, degN (E.take (k + 1)) v = degN (E.take k) v + (one (v = f) + one (v = t))) := fun v => by rw [hsn, degN_snoc]
      have HRo : Hid (wr.rowIs (w.heap.size + 1) 3 N (fun j => .int .i64 (degN (E.take k) j))) := hro
      clear ha hmem hsn
      have r0 := hro.cell (i := f) (by omega)
      have r1 := hro.cell (i := t) (by omega)
      have f0 := hro.frozen f
      have f1 := hro.frozen t
      have q0 := degN_le (E.take k) f
      have q1 := degN_le (E.take k) t
      have q2 := degN_nonneg (E.take k) f
      have q3 := degN_nonneg (E.take k) t
      have q4 : (E.take k).length ≤ 60 := by rw [List.length_take]; omega
      by_cases hft : f = t
      · subst hft
        generalize hx : degN (E.take k) f = x at *
        have HX : Hid (degN (E.take k) f = x) := hx
        clear hx r1 f1 q1 q3 hro
        have hx1 : -200 ≤ x ∧ x ≤ 200 := by omega
        clear q0 q2 q4
        go_wp2
        go_roundw
        case rel =>
          refine ⟨k + 1, by omega, by go_num, ?_, ?_⟩
          · refine (((HRo.out.set f _).set f _).alloc _).congr fun j hj => ?_
            rw [HO.out j]
            by_cases e : j = f
            · subst e; simp [one_yes, HX.out]; omega
            · simp [e, one_no]
          · exact ((hB.setCell (by simp) _).setCell (by simp) _).alloc (by simp; omega) _
        case measure => simp [intOf]; omega
      · have htf : t ≠ f := fun h => hft h.symm
        generalize hx : degN (E.take k) f = x at *
        generalize hy : degN (E.take k) t = y at *
        have HX : Hid (degN (E.take k) f = x) := hx
        have HY : Hid (degN (E.take k) t = y) := hy
        have hx1 : -200 ≤ x ∧ x ≤ 200 := by omega
        have hy1 : -200 ≤ y ∧ y ≤ 200 := by omega
        clear hx hy hro q0 q1 q2 q3 q4
        go_wp2
        go_roundw
        case rel =>
          refine ⟨k + 1, by omega, by go_num, ?_, ?_⟩
          · refine (((HRo.out.set f _).set t _).alloc _).congr fun j hj => ?_
            rw [HO.out j]
            by_cases e : j = t
            · subst e; rw [one_no htf, one_yes rfl]; simp [HY.out]
            · by_cases e2 : j = f
              · subst e2; rw [one_yes rfl, one_no e]; simp [e, HX.out]
              · rw [one_no e2, one_no e]; simp [e, e2]
          · exact ((hB.setCell (by simp) _).setCell (by simp) _).alloc (by simp; omega) _
        case measure => simp [intOf]; omega
    · have hkl : k = E.length := by omega
      subst hkl
      rw [List.take_length] at hro
      have HRo : Hid (wr.rowIs (w.heap.size + 1) 3 N (fun j => .int .i64 (degN E j))) := hro
      clear hro
      go_wp2
      go_ret
      exact ⟨hB, w.heap.size + 1, by omega, rfl, HRo.out⟩

set_option maxHeartbeats 800000 in
theorem arcAt_at (ao : Option Addr) (cap : Nat) (E : List Arc3) (gb : Nat) (g : Nat → Bool) (v k : Nat) (w : World) (hA : ArcsAt w ao E) (hlen : E.length ≤ 60) (hg : w.rowIs gb 4 E.length (fun j => .bool (g j)))
    (hk : k < E.length) (hk1 : g k = false) (hk2 : atN (at3 E k) v = true) (hb : ∀ j, j < k → g j = true ∨ atN (at3 E j) v = false) :
    Calls Try.prog 34 #[.slice ao E.length cap, .slice (some ⟨gb, 0, none⟩) E.length E.length, .int .i64 (v : Int)] w fun e w' => Below w.heap.size w w' ∧ e = .returned (.int .i64 (k : Int)) := by
  have HA : Hid (ArcsAt w ao E) := hA
  have HG : Hid (w.rowIs gb 4 E.length (fun j => .bool (g j))) := hg
  have HB : Hid (∀ j, j < k → g j = true ∨ atN (at3 E j) v = false) := hb
  have HK : Hid (g k = false ∧ atN (at3 E k) v = true) := ⟨hk1, hk2⟩
  have hgz := hg.lt
  clear hA hg hb hk1 hk2
  go_enter Try.func34, Try.ntmps34
  go_wp2
  go_loopw [11] (fun i wr => ∃ j : Nat, j ≤ k ∧ i = .int .i64 j ∧ Below w.heap.size w wr) (fun i _ => k - (intOf i).toNat)
  case atStart => exact ⟨0, Nat.zero_le _, rfl, Below.refl _ _⟩
  case round =>
    obtain ⟨j, hj, rfl, hB⟩ := hrel
    have hzw := hB.size
    have hjl : j < E.length := by omega
    obtain ⟨b, off, rfl, hbz, c0, c1, c2⟩ := HA.out j hjl
    have c0 := later hB c0 hbz
    have c1 := later hB c1 hbz
    have c2 := later hB c2 hbz
    have hrow := HG.out.of_block (hB.block gb hgz)
    have g0 := hrow.cell (i := j) hjl
    have hgz' : gb < wr.heap.size := by omega
    have hbz' : b < wr.heap.size := by omega
    by_cases hjk : j = k
    · have hgj : g j = false := by rw [hjk]; exact HK.out.1
      have hat : atN (at3 E j) v = true := by rw [hjk]; exact HK.out.2
      rw [hgj] at g0
      have hjI : (j : Int) = (k : Int) := by rw [hjk]
      generalize at3 E j = a at *
      obtain ⟨f, t, c⟩ := a
      simp only [atN] at hat c0 c1 c2
      have HJ : Hid (j = k) := hjk
      clear hjk hjI hgj hrow HK
      by_cases hf : f = (v : Int)
      · subst hf
        have hff : ((v : Int) == (v : Int)) = true := beq_self_eq_true _
        clear hat
        go_wp2
        go_ret
        exact ⟨hB.alloc (by omega) _, by rw [← HJ.out]; rfl⟩
      · have hff : (f == (v : Int)) = false := by simpa using hf
        have ht : t = (v : Int) := by simpa [hf] using hat
        subst ht
        have htt : ((v : Int) == (v : Int)) = true := beq_self_eq_true _
        clear hat hf
        go_wp2
        go_ret
        exact ⟨hB.alloc (by omega) _, by rw [← HJ.out]; rfl⟩
    · have hor := HB.out j (by omega)
      generalize at3 E j = a at *
      obtain ⟨f, t, c⟩ := a
      simp only [atN] at hor c0 c1 c2
      have hjlt : j < k := by omega
      clear hjk hrow HK
      cases hgj : g j with
      | true =>
        rw [hgj] at g0
        clear hor hgj
        go_wp2
        go_roundw
        case rel => exact ⟨j + 1, by omega, by go_num, hB.alloc (by omega) _⟩
        case measure => simp [intOf]; omega
      | false =>
        rw [hgj] at g0 hor
        have hor : (decide (f = (v : Int)) || decide (t = (v : Int))) = false := by
          rcases hor with h | h
          · cases h
          · exact h
        rw [Bool.or_eq_false_iff, decide_eq_false_iff_not, decide_eq_false_iff_not] at hor
        have hff : (f == (v : Int)) = false := by simpa using hor.1
        have htt : (t == (v : Int)) = false := by simpa using hor.2
        clear hor hgj
        go_wp2
        go_roundw
        case rel => exact ⟨j + 1, by omega, by go_num, hB.alloc (by omega) _⟩
        case measure => simp [intOf]; omega

theorem otherEnd_at (a : Arc3) (v x : Nat) (w : World) (h : Joins a v x) :
    Calls Try.prog 35 #[.agg #[.int .i64 a.1, .int .i64 a.2.1, .int .i64 a.2.2], .int .i64 (v : Int)] w fun e w' => Below w.heap.size w w' ∧ e = .returned (.int .i64 (x : Int)) := by
  obtain ⟨f, t, c⟩ := a
  unfold Joins at h
  simp only at h ⊢
  by_cases hf : f = (v : Int)
  · have ht : t = (x : Int) := by omega
    subst hf ht
    have hff : ((v : Int) == (v : Int)) = true := beq_self_eq_true _
    clear h
    go_enter Try.func35, Try.ntmps35
    go_wp2
    go_ret
    exact ⟨below_one _ _, rfl⟩
  · have hx : f = (x : Int) := by omega
    have hff : (f == (v : Int)) = false := by simpa using hf
    subst hx
    clear h hf
    go_enter Try.func35, Try.ntmps35
    go_wp2
    go_ret
    exact ⟨below_one _ _, rfl⟩

end Go.Proofs.Ytamckjbddnocpaa
