/- Contract of the document's own IsWay, where it is a way. -/
import Derived.Test.YtpomdnjfogfnbaaWMath
namespace Go.Proofs.Ytpomdnjfogfnbaa
open Go.RowKit
set_option linter.unusedVariables false

/-- arcs by their numbers, each from where the one ahead leads to -/
def Chain (l : List Arc3) : Int → List Int → Int → Prop
  | s, [], t => s = t
  | s, k :: r, t => ∃ j : Nat, k = j ∧ j < l.length ∧ (at3 l j).1 = s ∧ Chain l (at3 l j).2.1 r t

set_option maxHeartbeats 400000 in
theorem IsWay_yes (a1 a2 : Option Addr) (c1 c2 : Nat) (l : List Arc3) (P : List Int) (s t : Int) (w : World) (h1 : l.length ≤ maxLen) (h2 : P.length ≤ maxLen) (hL : ArcsAt w a1 l) (hP : IntsAt w a2 P) (hC : Chain l s P t) :
    Calls Try.prog 28 #[.slice a1 l.length c1, .slice a2 P.length c2, .int .i64 s, .int .i64 t] w fun e w' => e = .returned (.bool true) ∧ w' = w := by
  unfold maxLen at h1 h2
  have HC : Hid (Chain l s P t) := hC
  clear hC
  go_enter Try.func28, Try.ntmps28
  go_wp2
  go_loop [2, 13] (fun v i => ∃ (k : Nat) (u : Int), k ≤ P.length ∧ i = .int .i64 k ∧ v = .int .i64 u ∧ Hid (Chain l u (P.drop k) t)) (fun _ i => P.length - (intOf i).toNat)
  case atStart => exact ⟨0, s, Nat.zero_le _, rfl, rfl, HC⟩
  case round =>
    obtain ⟨k, u, hk, rfl, rfl, hch⟩ := hrel
    by_cases hlt : k < P.length
    · have hch' := hch.out
      rw [List.drop_eq_getElem_cons hlt, ← ati_lt P k hlt] at hch'
      obtain ⟨j, ej, hj, e1, hrest⟩ := hch'
      obtain ⟨b2, o2, rfl, hb2, d⟩ := hP k hlt
      obtain ⟨b1, o1, rfl, hb1, q0, q1, q2⟩ := hL j hj
      rw [ej] at d
      rw [e1] at q0
      have HR : Hid (Chain l (at3 l j).2.1 (P.drop (k + 1)) t) := hrest
      generalize (at3 l j).2.1 = x at *
      have hjj : ((j : Int) < 0) = False := by simp
      have hj0 : ¬ (j : Int) < 0 := by omega
      have hj1 : ¬ (l.length : Int) ≤ (j : Int) := by omega
      have huu : (u != u) = false := by simp
      clear hrest e1 ej hch hjj
      go_wp2
      go_round
      case rel => exact ⟨k + 1, x, by omega, by go_num, rfl, HR⟩
      case measure => simp [intOf]; omega
    · have hch' := hch.out
      rw [List.drop_eq_nil_of_le (by omega)] at hch'
      have e : u = t := hch'
      subst e
      clear hch hch' HC
      go_wp2
      go_ret
      exact ⟨by simp, rfl⟩

end Go.Proofs.Ytpomdnjfogfnbaa
