/- Contracts of package euler: next. -/
import Derived.Test.YtkcjemhbenkglaaEMath
import Derived.Test.YtkcjemhbenkglaaMk
import Derived.Test.YtkcjemhbenkglaaRowK
namespace Go.Proofs.Ytkcjemhbenkglaa
open Go.RowKit
set_option linter.unusedVariables false

set_option maxHeartbeats 1000000 in
theorem next_any (ao : Option Addr) (cap : Nat) (l : List Arc3) (b : Nat) (g : Nat → Bool) (x : Int) (w : World) (hA : ArcsAt w ao l) (hlen : l.length ≤ 60)
    (hg : w.rowIs b 4 l.length (fun j => .bool (g j))) :
    Calls Try.prog 29 #[.slice ao l.length cap, .slice (some ⟨b, 0, none⟩) l.length l.length, .int .i64 x] w fun e w' => Below w.heap.size w w' ∧
      ((e = .returned (.int .i64 (-1)) ∧ ∀ j, j < l.length → (at3 l j).1 = x → g j = true) ∨ (∃ j : Nat, j < l.length ∧ e = .returned (.int .i64 (j : Int)) ∧ (at3 l j).1 = x ∧ g j = false)) := by
  have HA : Hid (ArcsAt w ao l) := hA
  have HG : Hid (w.rowIs b 4 l.length (fun j => .bool (g j))) := hg
  have hbl := hg.lt
  clear hA hg
  go_enter Try.func29, Try.ntmps29
  go_wp2
  go_loopw [11] (fun i wr => ∃ k : Nat, k ≤ l.length ∧ i = .int .i64 k ∧ Hid (∀ j, j < k → (at3 l j).1 = x → g j = true) ∧ Below w.heap.size w wr) (fun i _ => l.length - (intOf i).toNat)
  case atStart => exact ⟨0, Nat.zero_le _, rfl, fun j hj => absurd hj (Nat.not_lt_zero _), Below.refl _ _⟩
  case round =>
    obtain ⟨k, hk, rfl, hno, hB⟩ := hrel
    have hz := hB.size
    by_cases hlt : k < l.length
    · obtain ⟨ba, off, rfl, hba, c0, c1, c2⟩ := HA.out.below hB (Nat.le_refl _) k hlt
      have q := (HG.out.of_block (hB.block b hbl)).cell (i := k) hlt
      have hbw : b < wr.heap.size := by omega
      obtain ⟨a, ha⟩ : ∃ a, at3 l k = a := ⟨_, rfl⟩
      rw [ha] at c0 c1 c2
      obtain ⟨f, t, c⟩ := a
      simp only at c0 c1 c2
      have HAt : Hid (at3 l k = (f, t, c)) := ha
      have HB : Hid (Below w.heap.size w wr) := hB
      obtain ⟨z, hgz⟩ : ∃ z, g k = z := ⟨_, rfl⟩
      rw [hgz] at q
      have HZ : Hid (g k = z) := hgz
      clear ha hB hgz
      by_cases e : f = x
      · subst e
        have ee : (f == f) = true := by simp
        cases z with
        | false =>
          go_wp2
          go_ret
          exact ⟨HB.out.alloc (by omega) _, Or.inr ⟨k, hlt, rfl, by rw [HAt.out], HZ.out⟩⟩
        | true =>
          have HN : Hid (∀ j, j < k + 1 → (at3 l j).1 = f → g j = true) := fun j hj e => by
            by_cases ej : j = k
            · subst ej; exact HZ.out
            · exact hno.out j (by omega) e
          go_wp2
          go_roundw
          case rel => exact ⟨k + 1, by omega, by go_num, HN, HB.out.alloc (by omega) _⟩
          case measure => simp [intOf]; omega
      · have ee : (f == x) = false := by simpa using e
        have HN : Hid (∀ j, j < k + 1 → (at3 l j).1 = x → g j = true) := fun j hj e' => by
          by_cases ej : j = k
          · subst ej; rw [HAt.out] at e'; exact absurd e' e
          · exact hno.out j (by omega) e'
        clear e
        go_wp2
        go_roundw
        case rel => exact ⟨k + 1, by omega, by go_num, HN, HB.out.alloc (by omega) _⟩
        case measure => simp [intOf]; omega
    · have hkk : k = l.length := by omega
      subst hkk
      go_wp2
      go_ret
      exact ⟨hB, Or.inl ⟨rfl, hno.out⟩⟩

end Go.Proofs.Ytkcjemhbenkglaa
