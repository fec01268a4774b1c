/- Contracts of package euler: inOnePart. -/
import Derived.Test.YtkcjemhbenkglaaEMath
import Derived.Test.YtkcjemhbenkglaaMk
import Derived.Test.YtkcjemhbenkglaaRowK
namespace Go.Proofs.Ytkcjemhbenkglaa
open Go.RowKit
set_option linter.unusedVariables false

theorem conn_of {N : Nat} {l : List Arc3} {F : List Int} (hF : PartsIs N l F) (hl : ∀ a ∈ l, (0 ≤ a.1 ∧ a.1 < (N : Int)) ∧ (0 ≤ a.2.1 ∧ a.2.1 < (N : Int)))
    (h : ∀ j, j < l.length → ati F (at3 l j).1.toNat = ati F (at3 l 0).1.toNat) : Conn l := by
  have key : ∀ a ∈ l, Jn l a.1 (at3 l 0).1 := by
    intro a ha
    obtain ⟨j, hj, rfl⟩ := List.getElem_of_mem ha
    rw [← at3_lt l j hj]
    have h0 := (hl _ (at3_mem l 0 (by omega))).1
    have h1 := (hl _ (at3_mem l j hj)).1
    have := (hF.same (u := (at3 l j).1.toNat) (v := (at3 l 0).1.toNat) (by omega) (by omega)).1 (h j hj)
    rwa [Int.toNat_of_nonneg h1.1, Int.toNat_of_nonneg h0.1] at this
  exact fun a ha b hb => (key a ha).trans (key b hb).symm

theorem conn_no {N : Nat} {l : List Arc3} {F : List Int} (hF : PartsIs N l F) (hl : ∀ a ∈ l, (0 ≤ a.1 ∧ a.1 < (N : Int)) ∧ (0 ≤ a.2.1 ∧ a.2.1 < (N : Int)))
    {j : Nat} (hj : j < l.length) (h : ati F (at3 l j).1.toNat ≠ ati F (at3 l 0).1.toNat) : ¬ Conn l := by
  intro hc
  have h0 := (hl _ (at3_mem l 0 (by omega))).1
  have h1 := (hl _ (at3_mem l j hj)).1
  refine h ((hF.same (u := (at3 l j).1.toNat) (v := (at3 l 0).1.toNat) (by omega) (by omega)).2 ?_)
  rw [Int.toNat_of_nonneg h1.1, Int.toNat_of_nonneg h0.1]
  exact hc _ (at3_mem l j hj) _ (at3_mem l 0 (by omega))

set_option maxHeartbeats 1000000 in
theorem inOnePart_any (N : Nat) (ao aF : Option Addr) (cap cF : Nat) (l : List Arc3) (F : List Int) (w : World) (hA : ArcsAt w ao l) (hI : IntsAt w aF F) (hlen : l.length ≤ 60) (h12 : N ≤ 12)
    (hl : ∀ a ∈ l, (0 ≤ a.1 ∧ a.1 < (N : Int)) ∧ (0 ≤ a.2.1 ∧ a.2.1 < (N : Int))) (hF : PartsIs N l F) :
    Calls Try.prog 17 #[.slice ao l.length cap, .slice aF F.length cF] w fun e w' => Below w.heap.size w w' ∧
      ((e = .returned (.bool true) ∧ Conn l) ∨ (e = .returned (.bool false) ∧ ¬ Conn l)) := by
  have HA : Hid (ArcsAt w ao l) := hA
  have HI : Hid (IntsAt w aF F) := hI
  have HL : Hid (∀ a ∈ l, (0 ≤ a.1 ∧ a.1 < (N : Int)) ∧ (0 ≤ a.2.1 ∧ a.2.1 < (N : Int))) := hl
  have HF : Hid (PartsIs N l F) := hF
  have hFl : F.length = N := hF.len
  clear hA hI hl hF
  go_enter Try.func17, Try.ntmps17
  go_wp2
  go_loopw [9] (fun i wr => ∃ k : Nat, k ≤ l.length ∧ i = .int .i64 k ∧ Hid (∀ j, j < k → ati F (at3 l j).1.toNat = ati F (at3 l 0).1.toNat) ∧ Below w.heap.size w wr) (fun i _ => l.length - (intOf i).toNat)
  case atStart => exact ⟨0, Nat.zero_le _, rfl, fun j hj => absurd hj (Nat.not_lt_zero _), Below.refl _ _⟩
  case round =>
    obtain ⟨k, hk, rfl, hyes, hB⟩ := hrel
    have hz := hB.size
    by_cases hlt : k < l.length
    · have hl0 : 0 < l.length := by omega
      obtain ⟨ba, off, rfl, hba, c0, c1, c2⟩ := HA.out.below hB (Nat.le_refl _) k hlt
      obtain ⟨_, _, e', _, d0, d1, d2⟩ := HA.out.below hB (Nat.le_refl _) 0 hl0
      cases e'
      rw [Nat.zero_mul, Nat.add_zero] at d0 d1 d2
      obtain ⟨⟨p1, p2⟩, _⟩ := HL.out _ (at3_mem l k hlt)
      obtain ⟨⟨p3, p4⟩, _⟩ := HL.out _ (at3_mem l 0 hl0)
      have HX : Hid (∀ j, j < k + 1 → (j = k → ati F (at3 l j).1.toNat = ati F (at3 l 0).1.toNat) → ati F (at3 l j).1.toNat = ati F (at3 l 0).1.toNat) := fun j hj h => by
        by_cases ej : j = k
        · exact h ej
        · exact hyes.out j (by omega)
      have HNo : Hid (ati F (at3 l k).1.toNat ≠ ati F (at3 l 0).1.toNat → ¬ Conn l) := fun h => conn_no HF.out HL.out hlt h
      obtain ⟨a, ha⟩ : ∃ a, at3 l k = a := ⟨_, rfl⟩
      obtain ⟨a2, ha2⟩ : ∃ a, at3 l 0 = a := ⟨_, rfl⟩
      rw [ha] at c0 c1 c2 p1 p2
      rw [ha2] at d0 d1 d2 p3 p4
      obtain ⟨f, t, c⟩ := a
      obtain ⟨f2, t2, c2'⟩ := a2
      simp only at c0 c1 c2 d0 d1 d2 p1 p2 p3 p4
      obtain ⟨f, rfl⟩ := Int.eq_ofNat_of_zero_le p1
      obtain ⟨f2, rfl⟩ := Int.eq_ofNat_of_zero_le p3
      have HA1 : Hid (at3 l k = ((f : Int), t, c)) := ha
      have HA2 : Hid (at3 l 0 = ((f2 : Int), t2, c2')) := ha2
      have hf : f < F.length := by omega
      have hf2 : f2 < F.length := by omega
      obtain ⟨bf, of, rfl, hbf, q0⟩ := HI.out.below hB (Nat.le_refl _) f hf
      obtain ⟨_, _, e', _, q1⟩ := HI.out.below hB (Nat.le_refl _) f2 hf2
      cases e'
      obtain ⟨y, hy⟩ : ∃ y, ati F f = y := ⟨_, rfl⟩
      obtain ⟨z, hzz⟩ : ∃ z, ati F f2 = z := ⟨_, rfl⟩
      have HY : Hid (ati F f = y) := hy
      have HZ : Hid (ati F f2 = z) := hzz
      rw [hy] at q0
      rw [hzz] at q1
      have HB : Hid (Below w.heap.size w wr) := hB
      clear ha ha2 hB hy hzz
      by_cases e : y = z
      · subst e
        have ee : (y != y) = false := by simp
        have HN : Hid (∀ j, j < k + 1 → ati F (at3 l j).1.toNat = ati F (at3 l 0).1.toNat) := fun j hj => HX.out j hj fun ej => by
          subst ej; rw [HA1.out, HA2.out]; simp [HY.out, HZ.out]
        go_wp2
        go_quiet (fail)
        go_wp2
        go_roundw
        case rel => exact ⟨k + 1, by omega, by go_num, HN, below_drewN (HB.out.alloc (by omega) _) _⟩
        case measure => simp [intOf]; omega
      · have ee : (y != z) = true := by simpa using e
        have HN : Hid (¬ Conn l) := HNo.out (by rw [HA1.out, HA2.out]; simpa [HY.out, HZ.out] using e)
        clear e
        go_wp2
        go_quiet (fail)
        go_wp2
        go_ret
        exact ⟨below_drewN (HB.out.alloc (by omega) _) _, Or.inr ⟨rfl, HN.out⟩⟩
    · have hkk : k = l.length := by omega
      subst hkk
      have HC : Hid (Conn l) := conn_of HF.out HL.out hyes.out
      go_wp2
      go_ret
      exact ⟨hB, Or.inl ⟨rfl, HC.out⟩⟩

end Go.Proofs.Ytkcjemhbenkglaa
