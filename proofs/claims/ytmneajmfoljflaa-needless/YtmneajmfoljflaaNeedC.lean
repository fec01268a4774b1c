/- What the laws ask of package need, said as contracts: Check, Round, Fault. -/
import Derived.Test.YtmneajmfoljflaaNeedA
import Derived.Test.YtmneajmfoljflaaJoinedA
import Derived.Test.YtmneajmfoljflaaOwnIs
namespace Go.Proofs.Ytmneajmfoljflaa
open Go.RowKit
set_option linter.unusedVariables false

def NCheckC : Prop := ∀ (n : Int) (ao : Option Addr) (cap : Nat) (l : List Need4) (w : World), NeedsIn w ao cap l →
  Calls Try.prog 11 #[.int .i64 n, .slice ao l.length cap] w fun e w' => Below w.heap.size w w' ∧ e = .returned (.int .i64 (needErr n l))
/-- what Round tells -/
def RoundTells (n : Int) (l : List Need4) (F : List Int) (E : Int) : Prop :=
  (needErr n l ≠ 0 → E = needErr n l ∧ F = []) ∧ (needErr n l = 0 → (E = 0 ∧ RoundIs n.toNat l F) ∨ (E = 5 ∧ F = [] ∧ ∃ x : Nat, x < 2 ^ n.toNat ∧ Strains l x))
/-- what Fault tells -/
def FaultTells (n : Int) (l : List Need4) (x : Nat) (E : Int) : Prop :=
  (needErr n l ≠ 0 → E = needErr n l ∧ x = 0) ∧ (needErr n l = 0 → (E = 5 ∧ x = 0 ∧ ∃ F, RoundIs n.toNat l F) ∨ (E = 0 ∧ x < 2 ^ n.toNat ∧ Strains l x))
def NRoundC : Prop := ∀ (n : Int) (ao : Option Addr) (cap : Nat) (l : List Need4) (w : World), NeedsIn w ao cap l →
  Calls Try.prog 8 #[.int .i64 n, .slice ao l.length cap] w fun e w' => Below w.heap.size w w' ∧
    ∃ a1 c1 F E, e = .returned (.tuple #[.slice a1 (F : List Int).length c1, .int .i64 E]) ∧ OwnIs w' w.heap.size a1 c1 F ∧ RoundTells n l F E
def NFaultC : Prop := ∀ (n : Int) (ao : Option Addr) (cap : Nat) (l : List Need4) (w : World), NeedsIn w ao cap l →
  Calls Try.prog 9 #[.int .i64 n, .slice ao l.length cap] w fun e w' => Below w.heap.size w w' ∧
    ∃ (x : Nat) (E : Int), e = .returned (.tuple #[.int .u16 (x : Int), .int .i64 E]) ∧ FaultTells n l x E
theorem RoundTells.ok {n : Int} {l : List Need4} {F : List Int} {E : Int} (h : RoundTells n l F E) (hE : E = 0) : needErr n l = 0 ∧ RoundIs n.toNat l F := by
  by_cases c : needErr n l = 0
  · rcases h.2 c with h | h
    · exact ⟨c, h.2⟩
    · rw [hE] at h; exact absurd h.1 (by decide)
  · have := (h.1 c).1
    rw [hE] at this; exact absurd this.symm c
theorem RoundTells.no {n : Int} {l : List Need4} {F : List Int} {E : Int} (h : RoundTells n l F E) (hE : E ≠ 0) : F = [] ∧ (E = 5 → needErr n l = 0 ∧ ∃ x : Nat, x < 2 ^ n.toNat ∧ Strains l x) := by
  by_cases c : needErr n l = 0
  · rcases h.2 c with h | h
    · exact absurd h.1 hE
    · exact ⟨h.2.1, fun _ => ⟨c, h.2.2⟩⟩
  · refine ⟨(h.1 c).2, fun e => ?_⟩
    have h1 := (h.1 c).1
    rw [e] at h1
    unfold needErr at h1
    split at h1
    · cases h1
    · split at h1
      · cases h1
      · exfalso
        have : ∀ l : List Need4, needsErr n l ≠ 5 := fun l => by
          induction l with
          | nil => exact fun h => absurd (show (0 : Int) = 5 from h) (by decide)
          | cons a l ih =>
            unfold needsErr
            split
            · exact ih
            · unfold need1
              split
              · split <;> decide
              · decide
        exact this l h1.symm
/-- Round and Fault say the same -/
theorem tells_same {n : Int} {l : List Need4} {F : List Int} {E : Int} {x : Nat} {G : Int} (hn : needErr n l = 0) (h : RoundTells n l F E) (k : FaultTells n l x G) : (E = 0 ∧ G = 5 ∧ x = 0 ∧ RoundIs n.toNat l F) ∨ (E = 5 ∧ G = 0 ∧ F = [] ∧ x < 2 ^ n.toNat ∧ Strains l x) := by
  have hN : ((n.toNat : Nat) : Int) = n := by have := (need_ok hn).1; omega
  have hn' : needErr (n.toNat : Int) l = 0 := by rw [hN]; exact hn
  rcases h.2 hn with ⟨e1, r⟩ | ⟨e1, e2, y, hy, hs⟩
  · rcases k.2 hn with ⟨k1, k2, _⟩ | ⟨k1, k2, k3⟩
    · exact Or.inl ⟨e1, k1, k2, r⟩
    · have := r.eased hn' x
      unfold Strains at k3; omega
  · rcases k.2 hn with ⟨k1, k2, G', r⟩ | ⟨k1, k2, k3⟩
    · have := r.eased hn' y
      unfold Strains at hs; omega
    · exact Or.inr ⟨e1, k1, e2, k2, k3⟩

end Go.Proofs.Ytmneajmfoljflaa
