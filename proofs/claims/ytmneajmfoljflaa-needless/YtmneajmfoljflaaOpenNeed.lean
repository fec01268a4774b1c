/- An argument opened: a slice of needs. -/
import Derived.Test.YtmneajmfoljflaaOpen
import Derived.Test.YtmneajmfoljflaaNeedA
namespace Go.Proofs.Ytmneajmfoljflaa
open Go.ChangeShapes Go.WideShapes Go.ChangeAt Go.RowKit Go.Joins Go.Deep
set_option linter.unusedVariables false

section
variable {H : Type} {enc : TypeId × Value → H} {W : World}

set_option maxRecDepth 100000 in
theorem need_cells {n : Nat} {cs : List Value} {y : DataW H × List MemPlace} (h : DataW.trod enc Try.prog W 0 (fun _ => true) true n 36 cs = some y) :
    ∃ f t a c : Int, cs = [.int .i64 f, .int .i64 t, .int .i64 a, .int .i64 c] := by
  obtain ⟨y0, y1, y2, y3, m, _, hl, h0, h1, h2, h3⟩ := trod_struct4 Try.underlying36 h
  have hc : Try.prog.cellsOf 36 = 4 := by kernel_rfl
  rw [hc] at hl
  have hi : Try.prog.cellsOf 3 = 1 := by kernel_rfl
  match cs, hl with
  | [v0, v1, v2, v3], _ =>
    simp only [hi] at h0 h1 h2 h3
    obtain ⟨a, e0, _, _⟩ := DataW.trod_int Try.underlying3 h0
    obtain ⟨b, e1, _, _⟩ := DataW.trod_int Try.underlying3 h1
    obtain ⟨c, e2, _, _⟩ := DataW.trod_int Try.underlying3 h2
    obtain ⟨d, e3, _, _⟩ := DataW.trod_int Try.underlying3 h3
    simp at e0 e1 e2 e3
    subst e0 e1 e2 e3
    exact ⟨a, b, c, d, rfl⟩

set_option maxRecDepth 100000 in
theorem open_needs1 {fuel : Nat} {v : Value} {y : DataW H × List MemPlace} (h : DataW.trod enc Try.prog W 0 (fun _ => true) true fuel 22 [v] = some y) :
    ∃ ao cap l, v = .slice ao (l : List Need4).length cap ∧ NeedsAt W ao l ∧ l.length ≤ cap ∧ cap ≤ maxLen ∧ (ao = none → l.length = 0 ∧ cap = 0) ∧ ((∀ x ∈ y.1.weights Try.prog 22, x ≤ reachBytes) → cap * 32 ≤ reachBytes) := by
  rcases open_slice Try.underlying22 h with ⟨hcs, _⟩ | ⟨a, len, cap, m, n, D, Pl, hcs, _, hl, hm, hmm, hy, hx⟩
  · simp only [List.cons.injEq, and_true] at hcs
    subst hcs
    exact ⟨none, 0, [], rfl, fun i hi => absurd hi (Nat.not_lt_zero _), Nat.zero_le _, Nat.zero_le _, fun _ => ⟨rfl, rfl⟩, fun _ => by omega⟩
  · simp only [List.cons.injEq, and_true] at hcs
    subst hcs
    have hc : Try.prog.cellsOf 36 = 4 := by kernel_rfl
    rw [hc] at hx
    have hlm : len ≤ m := by rw [hmm]; split <;> omega
    have each : ∀ i, i < len → ∃ q : Need4, W.cell? (a.add (i * 4)) = some (.int .i64 q.1) ∧ W.cell? (a.add (i * 4 + 1)) = some (.int .i64 q.2.1) ∧ W.cell? (a.add (i * 4 + 2)) = some (.int .i64 q.2.2.1) ∧ W.cell? (a.add (i * 4 + 3)) = some (.int .i64 q.2.2.2) := by
      intro i hi
      obtain ⟨cs', h1, h2⟩ := hx i (by omega)
      obtain ⟨f, t, b, c, rfl⟩ := need_cells h2
      obtain ⟨_, _, hcell⟩ := World.cells?_some h1
      have e0 := hcell 0 (by omega)
      have e1 := hcell 1 (by omega)
      have e2 := hcell 2 (by omega)
      have e3 := hcell 3 (by omega)
      rw [add_add] at e0 e1 e2 e3
      exact ⟨(f, t, b, c), by simpa using e0, by simpa using e1, by simpa using e2, by simpa using e3⟩
    obtain ⟨q, hq⟩ := choose_lt each
    have hb32 : Try.prog.bytesOf 36 = 32 := by kernel_rfl
    have hwt : (∀ x ∈ y.1.weights Try.prog 22, x ≤ reachBytes) → cap * 32 ≤ reachBytes := by
      intro hw
      rw [hy] at hw
      simp only [DataW.weights, Try.underlying22, List.mem_cons] at hw
      have := hw _ (Or.inl rfl)
      simp only [List.length_map, List.length_range, hb32] at this
      simp only [if_true] at hmm
      subst hmm
      rw [show len + (m - len) = m by omega] at this
      exact this
    refine ⟨some a, cap, (List.range len).map q, by simp, fun i hi => ?_, by simpa using hl, hm, fun e => (by cases e), hwt⟩
    have hi' : i < len := by simpa using hi
    obtain ⟨q0, q1, q2, q3⟩ := hq i hi'
    have q00 := (hq 0 (by omega)).1
    rw [Nat.zero_mul, show a.add 0 = a by simp [Addr.add]] at q00
    obtain ⟨b, off, rfl, hb⟩ := addr_plain q00
    rw [add_plain] at q0 q1 q2 q3
    have e : at4 ((List.range len).map q) i = q i := by rw [at4_lt _ _ hi]; simp
    rw [e]
    exact ⟨b, off, rfl, hb, q0, by simpa [Nat.add_assoc] using q1, by simpa [Nat.add_assoc] using q2, by simpa [Nat.add_assoc] using q3⟩

set_option maxRecDepth 100000 in
theorem open_needsW {base : Nat} {v : Value} {d : DataW H} {p : List MemPlace} (hv : Value.okWide Try.prog W .any base 22 v)
    (h : DataW.Trod enc Try.prog W 0 (fun _ => true) true 22 v d p) :
    ∃ ao cap l, v = .slice ao (l : List Need4).length cap ∧ NeedsAt W ao l ∧ l.length ≤ cap ∧ cap ≤ maxLen ∧ (ao = none → l.length = 0 ∧ cap = 0) ∧ ((∀ x ∈ d.weights Try.prog 22, x ≤ reachBytes) → cap * 32 ≤ reachBytes) := by
  obtain ⟨a0, len, cap, rfl⟩ := okWide_slice Try.underlying22 hv
  obtain ⟨fuel, hf⟩ := h
  exact open_needs1 (fuel := fuel) (y := (d, p)) (by simpa [Value.cells] using hf)

end

end Go.Proofs.Ytmneajmfoljflaa
