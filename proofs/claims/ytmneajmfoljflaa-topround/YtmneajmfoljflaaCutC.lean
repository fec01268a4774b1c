/- What the laws ask of package cut, said as contracts: Cap, Least, Greatest. -/
import Derived.Test.YtmneajmfoljflaaMostC
import Derived.Test.YtmneajmfoljflaaPartM
namespace Go.Proofs.Ytmneajmfoljflaa
open Go.RowKit
set_option linter.unusedVariables false

/-- P27: what is wrong with a net and a side -/
def capErr (n s t : Int) (l : List Arc3) (side : Int) : Int := if netErr n s t l ≠ 0 then netErr n s t l else if side < 2 ^ n.toNat ∧ bt side s = 1 ∧ bt side t = 0 then 0 else 3
def capVal (n s t : Int) (l : List Arc3) (side : Int) : Int := if capErr n s t l side = 0 then capS side l else 0
theorem cap_ok {n s t : Int} {l : List Arc3} {side : Int} (h : capErr n s t l side = 0) : netErr n s t l = 0 ∧ side < 2 ^ n.toNat ∧ bt side s = 1 ∧ bt side t = 0 := by
  unfold capErr at h
  by_cases c1 : netErr n s t l = 0
  · rw [if_neg (by simpa using c1)] at h
    by_cases c2 : side < 2 ^ n.toNat ∧ bt side s = 1 ∧ bt side t = 0
    · exact ⟨c1, c2⟩
    · rw [if_neg c2] at h; cases h
  · rw [if_pos c1] at h; exact absurd h c1
theorem cap_mk {n s t : Int} {l : List Arc3} {side : Int} (h1 : netErr n s t l = 0) (h2 : side < 2 ^ n.toNat ∧ bt side s = 1 ∧ bt side t = 0) : capErr n s t l side = 0 := by
  unfold capErr; rw [if_neg (by simpa using h1), if_pos h2]
theorem cap_net {n s t : Int} {l : List Arc3} {side : Int} (h1 : netErr n s t l ≠ 0) : capErr n s t l side = netErr n s t l := by unfold capErr; rw [if_pos h1]
theorem cap_form {n s t : Int} {l : List Arc3} {side : Int} (h1 : netErr n s t l = 0) (h2 : ¬ (side < 2 ^ n.toNat ∧ bt side s = 1 ∧ bt side t = 0)) : capErr n s t l side = 3 := by
  unfold capErr; rw [if_neg (by simpa using h1), if_neg h2]

/-- what Least and Greatest tell: a side and its number -/
structure LeastTells (n s t : Int) (l : List Arc3) (x : Nat) (v : Int) : Prop where
  none : netErr n s t l ≠ 0 → x = 0 ∧ v = 0
  some : netErr n s t l = 0 → ∃ hi, PartIs n.toNat s.toNat t.toNat l v x hi
  small : x < 65536
structure GreatTells (n s t : Int) (l : List Arc3) (x : Nat) (v : Int) : Prop where
  none : netErr n s t l ≠ 0 → x = 0 ∧ v = 0
  some : netErr n s t l = 0 → ∃ lo, PartIs n.toNat s.toNat t.toNat l v lo x
  small : x < 65536

def CLeastC : Prop := ∀ (n s t : Int) (ao : Option Addr) (cap : Nat) (l : List Arc3) (w : World), GraphIn w ao cap l →
  Calls Try.prog 22 #[.agg #[.int .i64 n, .int .i64 s, .int .i64 t, .slice ao l.length cap]] w fun e w' => Below w.heap.size w w' ∧
    ∃ (x : Nat) (v : Int), e = .returned (.tuple #[.int .u16 (x : Int), .int .i64 v, .int .i64 (netErr n s t l)]) ∧ LeastTells n s t l x v

theorem weir_part : PartIs 4 0 3 weirL 5 7 7 := by
  have hone : ∀ x : Nat, x < 16 → (Nat.testBit x 0 = true ∧ Nat.testBit x 3 = false) → capS (x : Int) weirL = 5 → x = 7 := by decide
  have hle : ∀ x : Nat, x < 16 → (Nat.testBit x 0 = true ∧ Nat.testBit x 3 = false) → 5 ≤ capS (x : Int) weirL := by decide
  have h7 : SideN 0 3 7 := ⟨by decide, by decide⟩
  have v7 : capS ((7 : Nat) : Int) weirL = 5 := by decide
  exact ⟨⟨7, by decide, h7, v7⟩, fun x hx hs => hle x hx hs, fun v => ⟨fun a x hx hs hv => by rw [hone x hx hs hv]; exact a, fun a => a 7 (by decide) h7 v7⟩,
    fun v => ⟨fun a => ⟨7, by decide, h7, v7, a⟩, fun ⟨x, hx, hs, hv, a⟩ => by rw [hone x hx hs hv] at a; exact a⟩⟩

end Go.Proofs.Ytmneajmfoljflaa
