/- Contract of the law's own function that holds a row of lengths against what From told. -/
import Derived.Test.YtakemienlmlgkaaLLoops
import Derived.Test.YtakemienlmlgkaaLwM
namespace Go.Proofs.Ytakemienlmlgkaa
open Go.RowKit
set_option linter.unusedVariables false

/-- what From tells of each node, against the document's own lengths -/
def RowFits (N : Nat) (m : Nat → Int) (F : List Int) (K : List Bool) : Prop :=
  ∀ v, v < N → (atb K v = true ∧ m v = ati F v ∧ ati F v < 1073741824) ∨ (atb K v = false ∧ m v = noEnd ∧ ati F v = 0)

set_option maxHeartbeats 2000000 in
set_option maxRecDepth 100000 in
theorem shortRow_any (N B D bd bg s : Nat) (R C : Nat → Nat) (M : Nat → Nat → Int) (a1 a2 : Option Addr) (c1 c2 : Nat) (F : List Int) (K : List Bool) (w : World) (hP : LMat B w D R C N N M) (h12 : N ≤ 12) (hs : s < N)
    (hbd : bd < w.heap.size) (hd : w.cell? ⟨bd, 0, none⟩ = some (.slice (some ⟨D, 0, none⟩) N N)) (hbg : bg < w.heap.size) (hg : w.cell? ⟨bg, 0, none⟩ = some (.int .i64 (N : Int)))
    (hF : IntsAt w a1 F) (hK : BoolsAt w a2 K) (hFl : F.length = N) (hKl : K.length = N) (hR : RowFits N (M s) F K) :
    Calls Try.prog 16 #[.int .i64 (s : Int), .slice a1 N c1, .slice a2 N c2, .pointer (some ⟨bd, 0, none⟩), .pointer (some ⟨bg, 0, none⟩)] w fun e w' => e = .returned (.bool true) ∧ w' = w := by
  have d0 := hP.at hs
  have hDl := hP.outer.lt
  have hRl := hP.lt s hs
  have hNN : ((N : Int) != (N : Int)) = false := by simp
  have HFl : Hid (F.length = N) := hFl
  have HKl : Hid (K.length = N) := hKl
  have HP : Hid (∀ j, j < N → w.cell? ⟨R s, j, none⟩ = some (.int .i64 (M s j))) := fun j hj => hP.num hs hj
  have HR : Hid (RowFits N (M s) F K) := hR
  clear hP hFl hKl hR
  go_enter Try.func16, Try.ntmps16
  go_wp2
  go_loop [16] (fun i => ∃ k : Nat, k ≤ N ∧ i = .int .i64 k) (fun i => N - (intOf i).toNat)
  case atStart => exact ⟨0, Nat.zero_le _, rfl⟩
  case round =>
    obtain ⟨k, hk, rfl⟩ := hrel
    by_cases hlt : k < N
    · have m0 := HP.out k hlt
      obtain ⟨b1, o1, rfl, hb1, e1⟩ := hF k (by rw [HFl.out]; exact hlt)
      obtain ⟨b2, o2, rfl, hb2, e2⟩ := hK k (by rw [HKl.out]; exact hlt)
      rcases HR.out k hlt with ⟨g1, g2, g3⟩ | ⟨g1, g2, g3⟩
      · rw [g1] at e2
        rw [g2] at m0
        generalize ati F k = z at *
        have hzz : (z != z) = false := by simp
        have hzd : decide (z < 1073741824) = true := decide_eq_true g3
        clear g1 g2 hF hK
        go_wp2
        go_round
        case rel => exact ⟨k + 1, by omega, by go_num⟩
        case measure => simp [intOf]; omega
      · rw [g1] at e2
        rw [g2, show noEnd = 1099511627776 from rfl] at m0
        rw [g3] at e1
        clear g1 g2 g3 hF hK
        go_wp2
        go_round
        case rel => exact ⟨k + 1, by omega, by go_num⟩
        case measure => simp [intOf]; omega
    · have hkN : N = k := by omega
      subst hkN
      go_wp2
      go_ret
      exact ⟨rfl, rfl⟩

end Go.Proofs.Ytakemienlmlgkaa
