/- An argument opened: a slice of integers. -/
import Derived.Test.YtgmifepfbcgfbaaOpen
namespace Go.Proofs.Ytgmifepfbcgfbaa
open Go.ChangeShapes Go.WideShapes Go.ChangeAt Go.RowKit Go.Joins Go.Deep
set_option linter.unusedVariables false

set_option maxRecDepth 100000 in
theorem open_ints1 {H : Type} {enc : TypeId × Value → H} {W : World} {fuel : Nat} {v : Value} {y : DataW H × List MemPlace} (h : DataW.trod enc Try.prog W 0 (fun _ => true) true fuel 25 [v] = some y) :
    ∃ ao cap l, v = .slice ao (l : List Int).length cap ∧ IntsAt W ao l ∧ l.length ≤ cap ∧ cap ≤ maxLen ∧ (ao = none → l.length = 0 ∧ cap = 0) := by
  rcases open_slice Try.underlying25 h with ⟨hcs, _⟩ | ⟨a, len, cap, m, n, D, Pl, hcs, _, hl, hm, hmm, hy, hx⟩
  · simp only [List.cons.injEq, and_true] at hcs
    subst hcs
    exact ⟨none, 0, [], rfl, fun i hi => absurd hi (Nat.not_lt_zero _), Nat.zero_le _, Nat.zero_le _, fun _ => ⟨rfl, rfl⟩⟩
  · simp only [List.cons.injEq, and_true] at hcs
    subst hcs
    have hc : Try.prog.cellsOf 3 = 1 := by kernel_rfl
    rw [hc] at hx
    have hlm : len ≤ m := by rw [hmm]; split <;> omega
    have each : ∀ i, i < len → ∃ q : Int, W.cell? (a.add i) = some (.int .i64 q) := by
      intro i hi
      obtain ⟨cs', h1, h2⟩ := hx i (by omega)
      obtain ⟨q, e0, _, _⟩ := DataW.trod_int Try.underlying3 h2
      obtain ⟨_, _, hcell⟩ := World.cells?_some h1
      have e1 := hcell 0 (by omega)
      rw [e0, add_add] at e1
      exact ⟨q, by simpa using e1⟩
    obtain ⟨q, hq⟩ := choose_lt each
    refine ⟨some a, cap, (List.range len).map q, by simp, fun i hi => ?_, by simpa using hl, hm, fun e => (by cases e)⟩
    have hi' : i < len := by simpa using hi
    have q0 := hq i hi'
    have q00 := hq 0 (by omega)
    rw [show a.add 0 = a by simp [Addr.add]] at q00
    obtain ⟨b, off, rfl, hb⟩ := addr_plain q00
    rw [add_plain] at q0
    have e : ati ((List.range len).map q) i = q i := by rw [ati_lt _ _ hi]; simp
    rw [e]
    exact ⟨b, off, rfl, hb, q0⟩

set_option maxRecDepth 100000 in
theorem open_ints {H : Type} {enc : TypeId × Value → H} {W : World} {base : Nat} {v : Value} {d : DataW H} {p : List MemPlace} (hv : Value.okWide Try.prog W .any base 25 v)
    (h : DataW.Trod enc Try.prog W 0 (fun _ => true) true 25 v d p) :
    ∃ ao cap l, v = .slice ao (l : List Int).length cap ∧ IntsAt W ao l ∧ l.length ≤ cap ∧ cap ≤ maxLen ∧ (ao = none → l.length = 0 ∧ cap = 0) := by
  obtain ⟨a0, len, cap, rfl⟩ := okWide_slice Try.underlying25 hv
  obtain ⟨fuel, hf⟩ := h
  exact open_ints1 (fuel := fuel) (y := (d, p)) (by simpa [Value.cells] using hf)

end Go.Proofs.Ytgmifepfbcgfbaa
