/- The laws' own helper needs, out of the contract of need.Round; NeedSets. -/
import Derived.Test.YtmneajmfoljflaaNeedC
import Derived.Test.YtmneajmfoljflaaPartM
namespace Go.Proofs.Ytmneajmfoljflaa
open Go.RowKit
set_option linter.unusedVariables false

def need1L : List Need4 := [(0, 1, 2, 5), (1, 0, 0, 3)]
def need2L : List Need4 := [(0, 1, 2, 5), (1, 0, 0, 1)]
theorem need1_err : needErr 2 need1L = 0 := by decide
theorem need2_err : needErr 2 need2L = 0 := by decide
theorem need1_round : RoundIs 2 need1L [2, 2] := by
  refine ⟨rfl, ?_, ?_⟩
  · intro k hk
    have : k < 2 := hk
    rcases (by omega : k = 0 ∨ k = 1) with rfl | rfl <;> decide
  · intro v hv
    rcases (by omega : v = 0 ∨ v = 1) with rfl | rfl <;> decide
theorem two_gone (l : List Need4) (a b c d : Int) (hl : l = [(0, 1, a, b), (1, 0, c, d)]) (f : List Int) : gone (needA l) (ati f) 0 = ati f 0 - ati f 1 := by
  subst hl
  simp [gone, goneK, needA, sumN, at3]
  omega
theorem round_two {F : List Int} (h : RoundIs 2 need1L F) : F.length = 2 ∧ ati F 0 = ati F 1 ∧ 2 ≤ ati F 0 := by
  have h1 := h.bal 0 (by omega)
  have h2 := two_gone need1L 2 5 0 3 rfl F
  have h3 := h.bnd 0 (by decide)
  have e : (at4 need1L 0).2.2.1 = 2 := rfl
  rw [e] at h3
  have h4 : gone (needA need1L) (ati F) 0 = 0 := h1
  exact ⟨h.len, by omega, h3.1⟩
theorem round_no {F : List Int} (h : RoundIs 2 need2L F) : False := by
  have h1 := h.bal 0 (by omega)
  have h2 := two_gone need2L 2 5 0 1 rfl F
  have h3 := h.bnd 0 (by decide)
  have h5 := h.bnd 1 (by decide)
  have e : (at4 need2L 0).2.2.1 = 2 := rfl
  have e2 : (at4 need2L 1).2.2.2 = 1 := rfl
  rw [e] at h3
  rw [e2] at h5
  have h4 : gone (needA need2L) (ati F) 0 = 0 := h1
  omega
/-- a row of eight cells that are two needs -/
theorem needs_row {w : World} {b : Nat} {t : TypeId} {f : Nat → Value} {l : List Need4} (hl : l.length = 2) (h : w.rowIs b t 8 f)
    (hf : ∀ i, i < 2 → f (i * 4) = .int .i64 (at4 l i).1 ∧ f (i * 4 + 1) = .int .i64 (at4 l i).2.1 ∧ f (i * 4 + 2) = .int .i64 (at4 l i).2.2.1 ∧ f (i * 4 + 3) = .int .i64 (at4 l i).2.2.2) : NeedsIn w (some ⟨b, 0, none⟩) 2 l := by
  refine ⟨fun i hi => ?_, by omega, by unfold maxLen; omega, fun e => by cases e⟩
  rw [hl] at hi
  obtain ⟨h0, h1, h2, h3⟩ := hf i hi
  refine ⟨b, 0, rfl, h.lt, ?_, ?_, ?_, ?_⟩ <;> rw [Nat.zero_add]
  · rw [h.cell (i := i * 4) (by omega), h0]
  · rw [h.cell (i := i * 4 + 1) (by omega), h1]
  · rw [h.cell (i := i * 4 + 2) (by omega), h2]
  · rw [h.cell (i := i * 4 + 3) (by omega), h3]

set_option maxHeartbeats 2000000 in
set_option maxRecDepth 100000 in
theorem needs_any (hR : NRoundC) (w : World) : Calls Try.prog 15 #[] w fun e w' => e = .returned (.bool true) ∧ Below w.heap.size w w' := by
  have r0 : (w.alloc (.cells #[.int .i64 0, .int .i64 1, .int .i64 2, .int .i64 5, .int .i64 1, .int .i64 0, .int .i64 0, .int .i64 3] 36)).rowIs w.heap.size 36 8 (fun j => #[Value.int .i64 0, .int .i64 1, .int .i64 2, .int .i64 5, .int .i64 1, .int .i64 0, .int .i64 0, .int .i64 3].getD j (.bool false)) :=
    ⟨_, blk_new w _, rfl, fun i hi => by
      rcases (by omega : i = 0 ∨ i = 1 ∨ i = 2 ∨ i = 3 ∨ i = 4 ∨ i = 5 ∨ i = 6 ∨ i = 7) with rfl | rfl | rfl | rfl | rfl | rfl | rfl | rfl <;> rfl⟩
  have hN1 : NeedsIn (w.alloc (.cells #[.int .i64 0, .int .i64 1, .int .i64 2, .int .i64 5, .int .i64 1, .int .i64 0, .int .i64 0, .int .i64 3] 36)) (some ⟨w.heap.size, 0, none⟩) 2 need1L :=
    needs_row rfl r0 fun i hi => by
      rcases (by omega : i = 0 ∨ i = 1) with rfl | rfl <;> exact ⟨rfl, rfl, rfl, rfl⟩
  have hq := hR 2 (some ⟨w.heap.size, 0, none⟩) 2 need1L _ hN1
  have hl1 : need1L.length = 2 := rfl
  rw [hl1] at hq
  go_enter Try.func15, Try.ntmps15
  go_wp2_with fail
  refine hq.mono ?_
  clear hq hN1
  rintro e w1 ⟨hb1, a1, c1, F, E, rfl, hO, hT⟩
  simp only [World.size_alloc] at hb1 hO
  have hz1 := hb1.size
  simp only [World.size_alloc] at hz1
  have r1 := World.rowIs.of_block r0 (hb1.block w.heap.size (by simp))
  have hE : E = 0 := by
    rcases hT.2 need1_err with h | ⟨_, _, x, _, hs⟩
    · exact h.1
    · have := need1_round.eased (N := 2) need1_err x
      unfold Strains at hs; omega
  subst hE
  obtain ⟨hF2, hF3, hF4⟩ := round_two (hT.ok rfl).2
  have c7 := r1.cell (i := 7) (by omega)
  have f7 := r1.frozen 7
  have hw1 : w.heap.size < w1.heap.size := by omega
  have HB1 : Hid (Below w.heap.size w w1) := below_in hb1 (by omega)
  have HR1 : Hid (w1.rowIs w.heap.size 36 8 (fun j => #[Value.int .i64 0, .int .i64 1, .int .i64 2, .int .i64 5, .int .i64 1, .int .i64 0, .int .i64 0, .int .i64 3].getD j (.bool false))) := r1
  have HO : Hid (OwnIs w1 (w.heap.size + 1) a1 c1 F) := hO
  have HF : Hid (F.length = 2 ∧ ati F 0 = ati F 1 ∧ 2 ≤ ati F 0) := ⟨hF2, hF3, hF4⟩
  rw [hF2]
  clear hb1 r0 r1 hT hO hF2 hF3 hF4
  go_wp2_with fail
  have hN2 : NeedsIn (w1.setCell ⟨w.heap.size, 7, none⟩ (.int .i64 1)) (some ⟨w.heap.size, 0, none⟩) 2 need2L :=
    needs_row rfl (HR1.out.set 7 _) fun i hi => by
      rcases (by omega : i = 0 ∨ i = 1) with rfl | rfl <;> exact ⟨rfl, rfl, rfl, rfl⟩
  have hq := hR 2 (some ⟨w.heap.size, 0, none⟩) 2 need2L _ hN2
  have hl2 : need2L.length = 2 := rfl
  rw [hl2] at hq
  refine hq.mono ?_
  clear hq hN2 c7 f7
  rintro e w2 ⟨hb2, a2, c2, F2, E2, rfl, _, hT2⟩
  have hE2 : E2 = 5 := by
    rcases hT2.2 need2_err with h | h
    · exact absurd h.2 round_no
    · exact h.1
  subst hE2
  have HB2 : Hid (Below w.heap.size w w2) := (HB1.out.setCell (Nat.le_refl _) _).trans (hb2.mono (by simp [World.setCell]; omega))
  have hO1 : OwnIs (w1.setCell ⟨w.heap.size, 7, none⟩ (.int .i64 1)) (w.heap.size + 1) a1 c1 F := HO.out.setOther (by show w.heap.size < w.heap.size + 1; omega) _
  have hO2 := hO1.below hb2 (Nat.le_refl _)
  obtain ⟨bF, oF, rfl, hbF, d0⟩ := hO2.arg.ints 0 (by rw [HF.out.1]; omega)
  obtain ⟨bF', oF', e, _, d1⟩ := hO2.arg.ints 1 (by rw [HF.out.1]; omega)
  cases e
  rw [← HF.out.2.1, ] at d1
  have h2 := HF.out.2.2
  generalize ati F 0 = y at *
  rw [Nat.add_zero] at d0
  have g1 : (y == y) = true := by simp
  have g2 : decide (2 ≤ y) = true := by simpa using h2
  have g3 : decide (y ≥ 2) = true := by simpa using h2
  clear hb2 hO1 hO2 hT2 HR1 HO
  go_wp2
  go_quiet (fail)
  go_wp2
  go_ret
  exact ⟨rfl, below_drewN HB2.out _⟩

end Go.Proofs.Ytmneajmfoljflaa
