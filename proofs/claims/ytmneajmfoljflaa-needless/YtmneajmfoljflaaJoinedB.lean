/- Texts joined: Rest, MostC. -/
import Derived.Test.YtmneajmfoljflaaRows
import Derived.Test.YtmneajmfoljflaaBase
import Derived.Test.YtmneajmfoljflaaJoinedA
import Derived.Test.YtmneajmfoljflaaCutM

/- Contract of the document's own Rest. -/
namespace Go.Proofs.Ytmneajmfoljflaa
open Go.RowKit
set_option linter.unusedVariables false

def restV (n : Int) (m : Nat) : Int := if Int.tmod n m < 0 then Int.tmod n m + m else Int.tmod n m

theorem restV_in (n : Int) {m : Nat} (hm : 0 < m) : 0 ≤ restV n m ∧ restV n m < (m : Int) := by
  unfold restV
  have h1 := Int.tmod_lt_of_pos n (show (0 : Int) < m by omega)
  have h2 : -(m : Int) < Int.tmod n m := by
    have := Int.tmod_lt_of_pos (-n) (show (0 : Int) < m by omega)
    rw [Int.neg_tmod] at this; omega
  split <;> omega

set_option maxHeartbeats 400000 in
theorem rest_any (n : Int) (m : Nat) (hm : 0 < m) (hm2 : m ≤ 100) (w : World) :
    Calls Try.prog 17 #[.int .i64 n, .int .i64 (m : Int)] w fun e w' => e = .returned (.int .i64 (restV n m)) ∧ w' = w := by
  have h1 := Int.tmod_lt_of_pos n (show (0 : Int) < m by omega)
  have h2 : -(m : Int) < Int.tmod n m := by
    have := Int.tmod_lt_of_pos (-n) (show (0 : Int) < m by omega)
    rw [Int.neg_tmod] at this; omega
  have hm0 : ¬ (m : Int) = 0 := by omega
  by_cases h : Int.tmod n m < 0
  · rw [show restV n m = Int.tmod n m + m from if_pos h]
    go_enter Try.func17, Try.ntmps17
    go_wp2
    go_ret
    exact ⟨rfl, rfl⟩
  · rw [show restV n m = Int.tmod n m from if_neg h]
    go_enter Try.func17, Try.ntmps17
    go_wp2
    go_ret
    exact ⟨rfl, rfl⟩

set_option maxHeartbeats 400000 in
theorem rest_big (n : Int) (m : Nat) (hm : 0 < m) (hm2 : m ≤ 100000) (w : World) :
    Calls Try.prog 17 #[.int .i64 n, .int .i64 (m : Int)] w fun e w' => e = .returned (.int .i64 (restV n m)) ∧ w' = w := by
  have h1 := Int.tmod_lt_of_pos n (show (0 : Int) < m by omega)
  have h2 : -(m : Int) < Int.tmod n m := by
    have := Int.tmod_lt_of_pos (-n) (show (0 : Int) < m by omega)
    rw [Int.neg_tmod] at this; omega
  have hm0 : ¬ (m : Int) = 0 := by omega
  by_cases h : Int.tmod n m < 0
  · rw [show restV n m = Int.tmod n m + m from if_pos h]
    go_enter Try.func17, Try.ntmps17
    go_wp2
    go_ret
    exact ⟨rfl, rfl⟩
  · rw [show restV n m = Int.tmod n m from if_neg h]
    go_enter Try.func17, Try.ntmps17
    go_wp2
    go_ret
    exact ⟨rfl, rfl⟩

end Go.Proofs.Ytmneajmfoljflaa

/- What the laws ask of package most, said as contracts: Of, More. -/
namespace Go.Proofs.Ytmneajmfoljflaa
open Go.RowKit
set_option linter.unusedVariables false

/-- what Of and More tell, err being what is wrong -/
structure MostTells (n s t : Int) (l : List Arc3) (F : List Int) (v err : Int) : Prop where
  none : err ≠ 0 → F = [] ∧ v = 0
  net : err = 0 → netErr n s t l = 0
  flow : err = 0 → FlowIs n.toNat s t l F ∧ gone l (ati F) s = v
  most : err = 0 → MaxIs n.toNat s t l v

def MOfC : Prop := ∀ (n s t : Int) (ao : Option Addr) (cap : Nat) (l : List Arc3) (w : World), GraphIn w ao cap l →
  Calls Try.prog 18 #[.agg #[.int .i64 n, .int .i64 s, .int .i64 t, .slice ao l.length cap]] w fun e w' => Below w.heap.size w w' ∧
    ∃ a1 c1 F v, e = .returned (.tuple #[.slice a1 (F : List Int).length c1, .int .i64 v, .int .i64 (netErr n s t l)]) ∧ IntsIn w' a1 c1 F ∧ MostTells n s t l F v (netErr n s t l)
def MMoreC : Prop := ∀ (n s t : Int) (ao af : Option Addr) (cap capf : Nat) (l : List Arc3) (f : List Int) (w : World), GraphIn w ao cap l → IntsIn w af capf f →
  Calls Try.prog 27 #[.agg #[.int .i64 n, .int .i64 s, .int .i64 t, .slice ao l.length cap], .slice af f.length capf] w fun e w' => Below w.heap.size w w' ∧
    ∃ a1 c1 F v, e = .returned (.tuple #[.slice a1 (F : List Int).length c1, .int .i64 v, .int .i64 (flowErr n s t l f)]) ∧ IntsIn w' a1 c1 F ∧ MostTells n s t l F v (flowErr n s t l f)

theorem weir_net : netErr 4 0 3 weirL = 0 := by decide
theorem weir_max : MaxIs 4 0 3 weirL 5 := by
  refine ⟨⟨[3, 2, 2, 1, 3], (flow_ok weir_err).2, by decide⟩, ⟨7, ⟨by decide, by decide, by decide, by decide⟩, by decide⟩⟩

end Go.Proofs.Ytmneajmfoljflaa
