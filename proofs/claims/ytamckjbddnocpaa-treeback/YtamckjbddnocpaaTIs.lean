/- Contracts of package tree: Is, of a tree; slices.Max of zeros. -/
import Derived.Test.YtamckjbddnocpaaJoin
namespace Go.Proofs.Ytamckjbddnocpaa
open Go.RowKit
set_option linter.unusedVariables false

set_option maxHeartbeats 400000 in
theorem max_zero (ao : Option Addr) (cap : Nat) (l : List Int) (w : World) (h0 : 0 < l.length) (hm : l.length ≤ 100) (hA : IntsAt w ao l) (hz : ∀ k, k < l.length → ati l k = 0) :
    Calls Try.prog 37 #[.slice ao l.length cap] w fun e w' => e = .returned (.int .i64 0) ∧ w' = w := by
  have HA : Hid (∀ k, k < l.length → ∃ b off, ao = some ⟨b, off, none⟩ ∧ b < w.heap.size ∧ w.cell? ⟨b, off + k, none⟩ = some (.int .i64 0)) := fun k hk => by
    obtain ⟨b, off, e, hb, c⟩ := hA k hk
    rw [hz k hk] at c
    exact ⟨b, off, e, hb, c⟩
  obtain ⟨b, off, rfl, hb, c0⟩ := HA.out 0 h0
  rw [Nat.add_zero] at c0
  clear hA hz
  go_enter Try.func37, Try.ntmps37
  go_wp2
  go_loop [3, 4] (fun m i => m = .int .i64 0 ∧ ∃ k : Nat, 1 ≤ k ∧ k ≤ l.length ∧ i = .int .i64 k) (fun _ i => l.length - (intOf i).toNat)
  case atStart => exact ⟨rfl, 1, Nat.le_refl _, h0, rfl⟩
  case round =>
    obtain ⟨rfl, k, hk1, hk, rfl⟩ := hrel
    by_cases hlt : k < l.length
    · obtain ⟨_, _, e, hb', ck⟩ := HA.out k hlt
      cases e
      go_wp2
      go_round
      case rel => exact ⟨rfl, k + 1, by omega, by omega, by go_num⟩
      case measure => simp [intOf]; omega
    · go_wp2
      go_ret
      exact ⟨rfl, rfl⟩

set_option maxHeartbeats 400000 in
theorem Is_tree (N : Nat) (ao : Option Addr) (cap : Nat) (E : List Arc3) (w : World) (hG : GraphIn w ao cap E) (he : graphErr N (-10000) E = 0) (hj : ∀ u v : Nat, u < N → v < N → Jn E u v) (hl : E.length + 1 = N) :
    Calls Try.prog 22 #[.agg #[.int .i64 (N : Int), .slice ao E.length cap]] w fun e w' => Below w.heap.size w w' ∧ e = .returned (.tuple #[.bool true, .int .i64 0]) := by
  obtain ⟨⟨hn1, hn2⟩, hlen, _⟩ := err_ok he
  have hcall := Parts_any (N : Int) ao cap E (w.alloc (.cells #[.int .i64 (N : Int), .slice ao E.length cap] 34)) (hG.alloc _)
  have HE : Hid (graphErr N (-10000) E = 0) := he
  have HJ : Hid (∀ u v : Nat, u < N → v < N → Jn E u v) := hj
  have hne : ((0 : Int) != 0) = false := rfl
  have heq : ((0 : Int) == 0) = true := rfl
  have hln : ((E.length : Int) == (N : Int) - 1) = true := by rw [beq_iff_eq]; omega
  have x0 := blk_new w (.cells #[.int .i64 (N : Int), .slice ao E.length cap] 34)
  have HN : Hid (E.length + 1 = N) := hl
  clear hG he hj hl
  go_enter Try.func22, Try.ntmps22
  go_wp2_with fail
  refine hcall.mono ?_
  rintro e w1 ⟨hb1, ao1, cap1, F, rfl, hI, _, hP⟩
  rw [HE.out]
  have hP := hP HE.out
  rw [Int.toNat_natCast] at hP
  have hz1 := hb1.size
  simp only [World.size_alloc] at hb1 hz1
  have x1 := blk_below hb1 x0 (by omega)
  obtain ⟨r0, r1, f0, f1⟩ := blk2 x1
  have hFl := hP.len
  have hmx := max_zero ao1 cap1 F w1 (by omega) (by omega) hI (fun k hk => by
    obtain ⟨p, e1, _, h2⟩ := hP.all k (by omega)
    have := h2 0 (HJ.out 0 k (by omega) (by omega))
    rw [e1]; omega)
  have HB : Hid (Below w.heap.size w w1) := below_in hb1 (by omega)
  have hlt : w.heap.size < w1.heap.size := by omega
  clear hP hI x0 x1 hcall hb1 hFl
  generalize F.length = fl at *
  go_wp2_with (go_at_call 37; refine hmx.mono ?_; rintro e w2 ⟨rfl, hw2⟩; subst hw2)
  go_ret2
  exact ⟨HB.out, rfl⟩

end Go.Proofs.Ytamckjbddnocpaa
