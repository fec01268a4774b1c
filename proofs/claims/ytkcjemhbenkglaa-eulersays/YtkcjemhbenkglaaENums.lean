/- Contracts of the document's own Numbers, and of the law's own helper trail. -/
import Derived.Test.YtkcjemhbenkglaaShelf
import Derived.Test.YtkcjemhbenkglaaEulerC
namespace Go.Proofs.Ytkcjemhbenkglaa
open Go.RowKit
set_option linter.unusedVariables false

theorem nums_nodup {K : List Nat} (h : K.Nodup) : (nums K).Nodup :=
  List.pairwise_map.2 (h.imp fun hne e => hne (Int.ofNat.inj e))

/-- numbers below m, each once, m of them: in order they are 0, 1, .. -/
theorem sorted_nums {K : List Nat} {m : Nat} (hn : K.Nodup) (hlt : ∀ j ∈ K, j < m) (hl : K.length = m) : ∀ i, i < m → ati (sorted (nums K)) i = (i : Int) := by
  have hS : (sorted (nums K)).length = m := by rw [sorted_length, nums_length, hl]
  have hnd : (sorted (nums K)).Nodup := (sorted_perm (nums K)).nodup_iff.2 (nums_nodup hn)
  have hlS : (nums K).length = m := by rw [nums_length, hl]
  have hstep : ∀ i, i + 1 < m → ati (sorted (nums K)) i < ati (sorted (nums K)) (i + 1) := by
    intro i hi
    have h1 := sorted_ati (l := nums K) (i := i) (j := i + 1) (by omega) (by omega)
    have h2 : ati (sorted (nums K)) i ≠ ati (sorted (nums K)) (i + 1) := by
      rw [ati_lt _ _ (by omega), ati_lt _ _ (by omega)]
      exact List.pairwise_iff_getElem.1 hnd i (i + 1) (by omega) (by omega) (by omega)
    omega
  have hin : ∀ i, i < m → 0 ≤ ati (sorted (nums K)) i ∧ ati (sorted (nums K)) i < m := by
    intro i hi
    have hm := ati_mem (sorted (nums K)) i (by omega)
    have hm2 := (sorted_perm (nums K)).mem_iff.1 hm
    obtain ⟨j, hj, e⟩ := List.mem_map.1 hm2
    have := hlt j hj
    have e' : (j : Int) = ati (sorted (nums K)) i := e
    omega
  have low : ∀ i, i < m → (i : Int) ≤ ati (sorted (nums K)) i := by
    intro i
    induction i with
    | zero => intro hi; have := hin 0 hi; omega
    | succ i ih => intro hi; have := ih (by omega); have := hstep i hi; omega
  have up : ∀ d, d < m → ati (sorted (nums K)) (m - 1 - d) ≤ ((m - 1 - d : Nat) : Int) := by
    intro d
    induction d with
    | zero => intro hd; have := hin (m - 1) (by omega); simp only [Nat.sub_zero]; omega
    | succ d ih =>
      intro hd
      have h1 := ih (by omega)
      have h2 := hstep (m - 1 - (d + 1)) (by omega)
      rw [show m - 1 - (d + 1) + 1 = m - 1 - d by omega] at h2
      omega
  intro i hi
  have h1 := low i hi
  have h2 := up (m - 1 - i) (by omega)
  rw [show m - 1 - (m - 1 - i) = i by omega] at h2
  omega

set_option maxHeartbeats 1000000 in
theorem Numbers_any (ao : Option Addr) (cap : Nat) (K : List Nat) (m : Nat) (w : World) (hI : IntsAt w ao (nums K)) (hn : ao = none → K.length = 0 ∧ cap = 0) (hlen : K.length ≤ 60)
    (hnd : K.Nodup) (hlt : ∀ j ∈ K, j < m) (hl : K.length = m) :
    Calls Try.prog 25 #[.slice ao K.length cap, .int .i64 (m : Int)] w fun e w' => e = .returned (.bool true) ∧ Below w.heap.size w w' := by
  have HS : Hid (∀ i, i < m → ati (sorted (nums K)) i = (i : Int)) := sorted_nums hnd hlt hl
  have hcl := cloneInts ao cap (nums K) w hI (by rw [nums_length]; exact hn) (by rw [nums_length]; exact hlen)
  rw [nums_length] at hcl
  clear hnd hlt hI hn
  subst hl
  go_enter Try.func25, Try.ntmps25
  go_wp2_with fail
  refine hcl.mono ?_
  clear hcl
  rintro e w1 ⟨hb1, v, rfl, hown⟩
  have hz1 := hb1.size
  have hst := sortInts w.heap.size v (nums K) w1 (by rw [nums_length]; exact hown) hz1 (by rw [nums_length]; exact hlen)
  obtain ⟨ao1, cap1, rfl⟩ := owns_form hown
  clear hown
  go_wp2_with fail
  refine hst.mono ?_
  clear hst
  rintro e w2 ⟨rfl, hb2, hown⟩
  have hz2 := hb2.size
  have hbb2 := hb1.trans hb2
  rw [sorted_length, nums_length] at hown
  have hSl : (sorted (nums K)).length = K.length := by rw [sorted_length, nums_length]
  obtain ⟨ao2, cap2, ev, hI2, _, _, _⟩ := owns_ints (l := sorted (nums K)) (by rw [hSl]; exact hown)
  rw [hSl] at ev
  cases ev
  have HI : Hid (IntsAt w2 ao1 (sorted (nums K))) := hI2
  clear hb1 hb2 hown hI2
  go_wp2
  go_loop [14] (fun i => ∃ k : Nat, k ≤ K.length ∧ i = .int .i64 k) (fun i => K.length - (intOf i).toNat)
  case atStart => exact ⟨0, Nat.zero_le _, rfl⟩
  case round =>
    obtain ⟨k, hk, rfl⟩ := hrel
    by_cases hlt : k < K.length
    · obtain ⟨b, off, rfl, hb, q⟩ := HI.out k (by rw [hSl]; exact hlt)
      rw [HS.out k hlt] at q
      have hkk : ((k : Int) != (k : Int)) = false := by simp
      go_wp2
      go_round
      case rel => exact ⟨k + 1, by omega, by go_num⟩
      case measure => simp [intOf]; omega
    · have hkk : ((K.length : Int) == (K.length : Int)) = true := by simp
      go_wp2
      go_ret
      exact ⟨rfl, hbb2⟩

end Go.Proofs.Ytkcjemhbenkglaa
