/- Contract of slices.Repeat of one integer, at most twelve times. -/
import Derived.Test.YtakemienlmlgkaaMk
import Derived.Test.YtakemienlmlgkaaCopy
import Derived.WideShapes
namespace Go.Proofs.Ytakemienlmlgkaa
open Go.RowKit
set_option linter.unusedVariables false

set_option maxHeartbeats 1000000 in
theorem mul64_one (N : Nat) (hN : N ≤ 12) (w : World) :
    Calls Try.prog 37 #[.int .u64 1, .int .u64 (N : Int)] w fun e w' => e = .returned (.tuple #[.int .u64 0, .int .u64 (N : Int)]) ∧ w' = w := by
  rcases (by omega : N = 0 ∨ N = 1 ∨ N = 2 ∨ N = 3 ∨ N = 4 ∨ N = 5 ∨ N = 6 ∨ N = 7 ∨ N = 8 ∨ N = 9 ∨ N = 10 ∨ N = 11 ∨ N = 12) with rfl | rfl | rfl | rfl | rfl | rfl | rfl | rfl | rfl | rfl | rfl | rfl | rfl
  all_goals
    go_enter Try.func37, Try.ntmps37
    go_wp2
    go_ret2
    exact ⟨rfl, rfl⟩

set_option maxHeartbeats 400000 in
theorem mul_one (N : Nat) (hN : N ≤ 12) (w : World) :
    Calls Try.prog 34 #[.int .u64 1, .int .u64 (N : Int)] w fun e w' => e = .returned (.tuple #[.int .u64 0, .int .u64 (N : Int)]) ∧ w' = w := by
  go_enter Try.func34, Try.ntmps34
  go_wp2_with (go_at_call 37; refine (mul64_one N hN _).mono ?_; rintro e w' ⟨rfl, rfl⟩)
  go_ret2
  exact ⟨rfl, rfl⟩

/-- k times x, zeros behind, n cells in all -/
def repL (x : Value) (n k : Nat) : List Value := List.replicate k x ++ List.replicate (n - k) (.int .i64 0)

theorem repL_length (x : Value) (n k : Nat) (h : k ≤ n) : (repL x n k).length = n := by simp [repL]; omega

theorem repL_splice (x : Value) (n k m : Nat) (h : k + m ≤ n) : splice (repL x n k) k (List.replicate m x) = repL x n (k + m) := by
  unfold splice repL
  rw [List.take_left' (by simp), List.drop_append]
  simp only [List.length_replicate]
  rw [List.drop_eq_nil_of_le (by simp), List.nil_append, List.drop_replicate, ← List.append_assoc, List.replicate_append_replicate]
  congr 2
  omega

theorem repL_at (x : Value) (n k j : Nat) (h : j < k) : (repL x n k)[j]? = some x := by
  unfold repL
  rw [List.getElem?_append_left (by simpa using h)]
  simp [h]

theorem sizeInt : (Try.prog.info? 3).map (·.size) = some 1 := by kernel_rfl

theorem zeri_toList (n : Nat) : (zeri n).toList = List.replicate n (.int .i64 0) := toList_madeCells_one _ _

set_option maxHeartbeats 1000000 in
theorem repeat_one (x : Int) (b off cap N : Nat) (w : World) (h1 : 1 ≤ N) (h12 : N ≤ 12) (hb : b < w.heap.size) (hx : w.cell? ⟨b, off, none⟩ = some (.int .i64 x)) :
    Calls Try.prog 29 #[.slice (some ⟨b, off, none⟩) 1 cap, .int .i64 (N : Int)] w fun e w' => Below w.heap.size w w' ∧
      ∃ g, w.heap.size ≤ g ∧ e = .returned (.slice (some ⟨g, 0, none⟩) N N) ∧ w'.rowIs g 3 N (fun _ => .int .i64 x) := by
  have hmk := make_ints N (by omega)
  have hneg : ¬ (N : Int) < 0 := by omega
  obtain ⟨X, hX⟩ : ∃ X : Value, X = .int .i64 x := ⟨_, rfl⟩
  obtain ⟨Z, hZ⟩ : ∃ Z : List Value, Z = repL X N 0 := ⟨_, rfl⟩
  obtain ⟨cs1, hc1⟩ : ∃ cs : List Value, cs = List.replicate 1 X := ⟨_, rfl⟩
  have zg : Hid ((w.alloc (.cells (zeri N) 3)).heap[w.heap.size]? = some (.cells Z.toArray 3 (0, 0))) := by
    rw [Hid, blk_new, hZ]
    have : (zeri N) = (repL X N 0).toArray := by rw [← Array.toArray_toList (xs := zeri N), zeri_toList]; simp [repL]
    rw [this]
  have HM1 : Hid (cs1.length = Nat.min 1 N * 1) := by rw [Hid, hc1, show Nat.min 1 N = 1 from Nat.min_eq_left h1]; rfl
  have HS1 : Hid (∀ j v, cs1[j]? = some v → (w.alloc (.cells (zeri N) 3)).cell? ((⟨b, off, none⟩ : Addr).add j) = some v) := by
    intro j v hv
    rw [hc1] at hv
    have hj : j = 0 := by have := (List.getElem?_eq_some_iff.1 hv).1; simp at this; omega
    subst hj
    simp at hv
    subst hv
    rw [Go.WideShapes.add_plain, hX]
    exact (World.cell?_alloc_past _ _ _ hb).trans hx
  have HF1 : Hid (0 + cs1.length ≤ Z.length) := by rw [Hid, hc1, hZ, repL_length _ _ _ (Nat.zero_le _)]; simp; omega
  have HO1 : Hid (∀ v ∈ cs1, v.oneCell' = true) := by intro v hv; rw [hc1] at hv; simp at hv; subst hv; rw [hX]; rfl
  have HR1 : Hid (splice Z 0 cs1 = repL X N 1) := by rw [Hid, hZ, hc1, repL_splice _ _ _ _ (by omega)]
  have HX : Hid (X = .int .i64 x) := hX
  clear hX hZ hc1 hx
  have hbN : Below w.heap.size w (w.alloc (.cells (zeri N) 3)) := below_one _ _
  go_enter Try.func29, Try.ntmps29
  go_wp2_with fail
  refine (mul_one N h12 _).mono ?_
  rintro e w' ⟨rfl, rfl⟩
  go_wp2_with (refine wpList_copyK rfl (.tmp 31) (.tmp 32) 25 25 rfl 3 1 (by decide) Try.underlying25 sizeInt (some ⟨w'.heap.size, 0, none⟩) (some ⟨b, off, none⟩) N N 1 cap rfl rfl w'.heap.size 0 Z 3 zg.out cs1 HM1.out (fun _ => ⟨rfl, _, rfl, HS1.out⟩) HF1.out HO1.out w'.heap.size w' hbN (Nat.le_refl _) ?_; intro w2 hg2 hb2)
  have hg2' := hg2.out
  rw [HR1.out] at hg2'
  have HG2 : Hid (w2.heap[w'.heap.size]? = some (.cells (repL X N 1).toArray 3 (0, 0))) := hg2'
  clear hg2 hg2' zg HM1 HS1 HF1 HO1 HR1 hbN
  go_loopw [8] (fun s wr => ∃ k : Nat, 1 ≤ k ∧ k ≤ N ∧ s = .int .i64 k ∧ Hid (wr.heap[w'.heap.size]? = some (.cells (repL X N k).toArray 3 (0, 0))) ∧ Below w'.heap.size w' wr) (fun s _ => N - (intOf s).toNat)
  case atStart => exact ⟨1, Nat.le_refl _, h1, rfl, HG2, hb2⟩
  case round =>
    obtain ⟨k, hk1, hkN, rfl, HG, hB⟩ := hrel
    by_cases hlt : k < N
    · obtain ⟨m, hm⟩ : ∃ m, m = Nat.min k (N - k) := ⟨_, rfl⟩
      have hm2 : m ≤ N - k ∧ m ≤ k ∧ 1 ≤ m := by
        have a1 : m ≤ k := by rw [hm]; exact Nat.min_le_left _ _
        have a2 : m ≤ N - k := by rw [hm]; exact Nat.min_le_right _ _
        have a3 : 1 ≤ m := by rw [hm]; exact Nat.le_min.2 ⟨hk1, by omega⟩
        omega
      obtain ⟨cs, hcs⟩ : ∃ cs : List Value, cs = List.replicate m X := ⟨_, rfl⟩
      have HM : Hid (cs.length = Nat.min k (N - k) * 1) := by rw [Hid, hcs, ← hm]; simp
      have HS : Hid (∀ j v, cs[j]? = some v → wr.drew.cell? ((⟨w'.heap.size, 0, none⟩ : Addr).add j) = some v) := by
        intro j v hv
        rw [hcs] at hv
        have hj : j < m := by have := (List.getElem?_eq_some_iff.1 hv).1; simpa using this
        have hv' : v = X := by simp [hj] at hv; exact hv.symm
        subst hv'
        rw [Go.WideShapes.add_plain, Nat.zero_add]
        have := HG.out
        show wr.cell? _ = _
        simp only [World.cell?, this]
        simpa using repL_at _ N k j (by omega)
      have HF : Hid (k + cs.length ≤ (repL X N k).length) := by rw [Hid, hcs, repL_length _ _ _ hkN]; simp; omega
      have HO : Hid (∀ v ∈ cs, v.oneCell' = true) := by intro v hv; rw [hcs] at hv; have := (List.mem_replicate.1 hv).2; subst this; rw [HX.out]; rfl
      have HR : Hid (splice (repL X N k) k cs = repL X N (k + m)) := by rw [Hid, hcs, repL_splice _ _ _ _ (by omega)]
      have HMM : Hid (Nat.min k (N - k) = m) := hm.symm
      have hNk : ¬ N = k := by omega
      have hkN' : k ≤ N := hkN
      clear hm hcs
      go_wp2_with fail
      go_region_law (refine step_copyK rfl (.tmp 41) (.tmp 44) 25 25 rfl 3 1 (by decide) Try.underlying25 sizeInt (some ⟨w'.heap.size, k, none⟩) (some ⟨w'.heap.size, 0, none⟩) (N - k) (N - k) k N (by simp [Act.eval, Act.put]) (by simp [Act.eval, Act.put]) w'.heap.size k (repL X N k) 3 HG.out cs HM.out (fun _ => ⟨rfl, _, rfl, HS.out⟩) HF.out HO.out w'.heap.size w' hB.drew (Nat.le_refl _) ?_; intro w3 hg3 hb3)
      have hg3' := hg3.out
      rw [HR.out] at hg3'
      have HG3 : Hid (w3.heap[w'.heap.size]? = some (.cells (repL X N (k + m)).toArray 3 (0, 0))) := hg3'
      have hmm := HMM.out
      clear hg3 hg3' HM HS HF HO HR HG
      have hw : IntKind.i64.wrap ((k : Int) + ((Nat.min k (N - k) : Nat) : Int)) = (((k + m : Nat)) : Int) := by rw [HMM.out, IntKind.wrap_i64]; omega
      simp only [Act.put, List.getElem_toArray, List.getElem_cons_succ, List.getElem_cons_zero, hw, List.setIfInBounds_toArray, List.set_cons_succ, List.set_cons_zero]
      clear hw hmm
      go_wp2
      go_roundw
      case rel => exact ⟨k + m, by omega, by omega, by go_num, HG3, hb3⟩
      case measure => simp [intOf]; omega
    · have hkl : k = N := by omega
      subst hkl
      have hrow : wr.rowIs w'.heap.size 3 k (fun _ => .int .i64 x) := by
        refine ⟨_, HG.out, by simp [repL], fun i hi => ?_⟩
        rw [← HX.out]
        simpa using repL_at X k k i hi
      go_wp2
      go_ret
      exact ⟨hB, _, Nat.le_refl _, rfl, hrow⟩

end Go.Proofs.Ytakemienlmlgkaa
