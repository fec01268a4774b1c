/- Contracts of package span: join, isNode. -/
import Derived.Test.YtgmdacobbeoobaaKruM
import Derived.Test.YtgmdacobbeoobaaOnly
import Derived.Test.YtgmdacobbeoobaaMk
import Derived.BigRegion
namespace Go.Proofs.Ytgmdacobbeoobaa
open Go.RowKit
set_option linter.unusedVariables false

set_option maxHeartbeats 1000000 in
theorem joinN_any (N c f t : Nat) (x : Int) (F : Nat → Int) (w : World) (hN : N ≤ 60) (hf : f < N) (ht : t < N) (hrow : w.rowIs c 3 N (fun j => .int .i64 (F j))) :
    Calls Try.prog 21 #[.slice (some ⟨c, 0, none⟩) N N, .agg #[.int .i64 (f : Int), .int .i64 (t : Int), .int .i64 x]] w fun e w' =>
      e = .returned (.bool (decide (F f ≠ F t))) ∧ Only c w w' ∧ w'.rowIs c 3 N (fun j => .int .i64 (if F j = F f then F t else F j)) := by
  have hcl := hrow.lt
  have hcn : c ≠ w.heap.size := by omega
  have q0 := hrow.cell (i := f) hf
  have q1 := hrow.cell (i := t) ht
  have HR : Hid (w.rowIs c 3 N (fun j => .int .i64 (F j))) := hrow
  clear hrow
  obtain ⟨p, hp⟩ : ∃ p, F f = p := ⟨_, rfl⟩
  obtain ⟨q, hq⟩ : ∃ q, F t = q := ⟨_, rfl⟩
  rw [hp] at q0
  rw [hq] at q1
  rw [hp, hq]
  have HP : Hid (F f = p) := hp
  have HQ : Hid (F t = q) := hq
  clear hp hq
  have b0 : (w.alloc (.cells #[.int .i64 (f : Int), .int .i64 (t : Int), .int .i64 x] 32)).cell? ⟨c, f, none⟩ = some (.int .i64 p) := later (below_one w _) q0 hcl
  have b1 : (w.alloc (.cells #[.int .i64 (f : Int), .int .i64 (t : Int), .int .i64 x] 32)).cell? ⟨c, t, none⟩ = some (.int .i64 q) := later (below_one w _) q1 hcl
  clear q0 q1
  go_enter Try.func21, Try.ntmps21
  by_cases e : p = q
  · subst e
    have hee : (p == p) = true := by simp
    go_wp2
    go_region
    go_wp2
    go_ret
    refine ⟨ret_bool (by simp), ((Only.refl c w).alloc _).drew, ?_⟩
    refine (HR.out.alloc _).congr fun j hj => ?_
    by_cases e : F j = p
    · simp [e]
    · simp [e]
  · have hee : (p == q) = false := by simpa using e
    have hd : decide (p ≠ q) = true := decide_eq_true e
    rw [hd]
    clear hd e
    go_wp2
    go_region
    go_wp2
    clear b0 b1
    go_loopw [23] (fun i wr => ∃ k : Nat, k ≤ N ∧ i = .int .i64 k ∧ wr.rowIs c 3 N (fun j => .int .i64 (if j < k ∧ F j = p then q else F j)) ∧ Only c w wr) (fun i _ => N - (intOf i).toNat)
    case atStart => exact ⟨0, Nat.zero_le _, rfl, (HR.out.alloc _).congr fun j hj => by simp, ((Only.refl c w).alloc _).drew⟩
    case round =>
      obtain ⟨k, hk, rfl, hrow, hO⟩ := hrel
      have hzr := hrow.lt
      by_cases hlt : k < N
      · have r0 := hrow.cell (i := k) hlt
        have f0 := hrow.frozen k
        have e0 : (if k < k ∧ F k = p then q else F k) = F k := by simp
        rw [e0] at r0
        clear e0
        obtain ⟨y, hy⟩ : ∃ y, F k = y := ⟨_, rfl⟩
        rw [hy] at r0
        have HW : Hid (wr.rowIs c 3 N (fun j => .int .i64 (if j < k ∧ F j = p then q else F j))) := hrow
        have HY : Hid (F k = y) := hy
        clear hrow hy
        by_cases e : y = p
        · subst e
          have h1 : (y == y) = true := by simp
          go_wp2
          go_roundw
          case rel =>
            refine ⟨k + 1, by omega, by go_num, (HW.out.set k _).congr fun j hj => ?_, hO.setCell _⟩
            by_cases e : j = k
            · subst e; simp [HY.out]
            · have : (j < k + 1) = (j < k) := by simp; omega
              simp [e, this]
          case measure => simp [intOf]; omega
        · have h1 : (y == p) = false := by simpa using e
          have HE : Hid (y ≠ p) := e
          clear e
          go_wp2
          go_roundw
          case rel =>
            refine ⟨k + 1, by omega, by go_num, HW.out.congr fun j hj => ?_, hO⟩
            by_cases e : j = k
            · subst e; simp [HY.out, HE.out]
            · have : (j < k + 1) = (j < k) := by simp; omega
              simp [this]
          case measure => simp [intOf]; omega
      · have hkl : N = k := by omega
        subst hkl
        go_wp2
        go_ret
        exact ⟨rfl, hO, hrow.congr fun j hj => by simp [hj]⟩

set_option maxHeartbeats 400000 in
theorem isNodeS_any (n v : Int) (ao : Option Addr) (len cap : Nat) (w : World) :
    Calls Try.prog 26 #[.agg #[.int .i64 n, .slice ao len cap], .int .i64 v] w fun e w' => e = .returned (.bool (decide (0 ≤ v ∧ v < n))) ∧ Below w.heap.size w w' := by
  go_enter Try.func26, Try.ntmps26
  by_cases h0 : 0 ≤ v
  · by_cases h1 : v < n
    · go_wp2
      go_ret
      exact ⟨ret_bool (by simp [h0, h1]), below_one _ _⟩
    · go_wp2
      go_ret
      exact ⟨ret_bool (by simp [h1]), below_one _ _⟩
  · go_wp2
    go_ret
    exact ⟨ret_bool (by simp; omega), below_one _ _⟩

end Go.Proofs.Ytgmdacobbeoobaa
