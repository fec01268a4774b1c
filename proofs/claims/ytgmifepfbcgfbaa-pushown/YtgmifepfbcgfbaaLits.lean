/- Contracts of the laws' own helpers: arcs written out, a line of three nodes. -/
import Derived.Test.YtgmifepfbcgfbaaMk
import Derived.Test.YtgmifepfbcgfbaaFlat
namespace Go.Proofs.Ytgmifepfbcgfbaa
open Go.RowKit
set_option linter.unusedVariables false

set_option maxHeartbeats 800000 in
theorem arcs_any (ao : Option Addr) (cap : Nat) (l : List Arc3) (w : World) (hA : ArcsAt w ao l) (hlen : l.length ≤ 60) :
    Calls Try.prog 21 #[.slice ao l.length cap] w fun e w' => Below w.heap.size w w' ∧
      ∃ ao' cap', e = .returned (.slice ao' l.length cap') ∧ ArcsAt w' ao' l ∧ (∀ b off, ao' = some ⟨b, off, none⟩ → w.heap.size ≤ b) ∧ l.length ≤ cap' ∧ cap' ≤ maxLen := by
  obtain ⟨i0, hi, hz0, hz1, hz2⟩ := info_parts infoArc
  go_enter Try.func21, Try.ntmps21
  go_wp2
  go_loopw [3, 8] (fun v i wr => ∃ k : Nat, k ≤ l.length ∧ i = .int .i64 k ∧ wr.ownsRow w.heap.size 35 3 v k (flat (l.take k)) ∧ Below w.heap.size w wr) (fun _ i _ => l.length - (intOf i).toNat)
  case atStart => exact ⟨0, Nat.zero_le _, rfl, World.ownsRow_nil _ _ _ _, Below.refl _ _⟩
  case round =>
    obtain ⟨k, hk, rfl, hown, hB⟩ := hrel
    by_cases hlt : k < l.length
    · obtain ⟨b, off, rfl, hb, c0, c1, c2⟩ := hA k hlt
      have c0 := later hB c0 hb
      have c1 := later hB c1 hb
      have c2 := later hB c2 hb
      have hsz := hB.size
      have hbz : b < wr.heap.size := by omega
      have hsn := take_snoc3 l k hlt
      generalize ha : at3 l k = a at *
      obtain ⟨f, t, c⟩ := a
      simp only at c0 c1 c2
      have HS : Hid (flat (l.take (k + 1)) = flat (l.take k) ++ [.int .i64 f, .int .i64 t, .int .i64 c]) := by rw [Hid, hsn, flat_append]; rfl
      clear ha hsn
      go_wp2_with (at_builtin; refine wpList_append_own _ rfl (.tmp 12) (.tmp 20) 22 rfl w.heap.size 35 i0 _ 3 24 Try.underlying22 hi hz0 hz1 hz2 rfl (by decide) _ _ _ rfl ((hown.alloc _).alloc _) ⟨wr.heap.size + 1, 0, none⟩ 1 1 [.int .i64 f, .int .i64 t, .int .i64 c] rfl rfl ?c1 ?c2 ?c3 ?c4 ?c5 ?_)
      case c2 => exact ⟨rfl, rfl, rfl⟩
      case c3 => unfold maxLen; omega
      case c4 => omega
      case c5 => omega
      · intro v' w1 hown' hgrow _
        rw [← HS.out] at hown'
        have hB' : Below w.heap.size w w1 := ((hB.alloc hsz _).alloc (by simp; omega) _).grown hgrow (by simp; omega) (by
          intro g hg
          rcases hown.2 with ⟨rfl, _⟩ | ⟨g', _, _, rfl, hB0, _⟩
          · cases hg
          · simp only [Value.ownBlock, Option.some.injEq] at hg; omega)
        clear hgrow hown
        go_wp2
        go_roundw
        case rel => exact ⟨k + 1, by omega, by go_num, hown', hB'⟩
        case measure => simp [intOf]; omega
    · have hkl : k = l.length := by omega
      subst hkl
      rw [List.take_length] at hown
      obtain ⟨ao', cap', rfl, hA', hfr, hcl, hcm⟩ := owns_arcs hown
      have HF : Hid (∀ b off, ao' = some ⟨b, off, none⟩ → w.heap.size ≤ b) := hfr
      clear hfr
      go_wp2
      go_ret
      exact ⟨hB, ao', cap', rfl, hA', HF.out, hcl, hcm⟩

def lineL : List Arc3 := [(0, 1, 4), (1, 2, 3)]


end Go.Proofs.Ytgmifepfbcgfbaa
