/- Arguments opened: a graph by value; a slice of arcs; a slice of integers. -/
import Derived.Test.YtmneajmfoljflaaRows
import Derived.Test.YtmneajmfoljflaaBase
import Derived.ProofKit
import Derived.OpenShut
import Derived.ChangeOld
import Derived.Below
import Derived.Lib.SmallJoins
import Derived.Deep.Slices
import Derived.SizedLaws
namespace Go.Proofs.Ytmneajmfoljflaa
open Go.ChangeShapes Go.WideShapes Go.ChangeAt Go.RowKit Go.Joins Go.Deep
set_option linter.unusedVariables false

theorem own : ownKnob Try.prog.godebug = none := by kernel_rfl
theorem laidOut : laidOutB Try.prog = true := by kernel_rfl

section
variable {H : Type} {enc : TypeId × Value → H} {W : World}

theorem addr_plain {w : World} {a : Addr} {v : Value} (h : w.cell? a = some v) : ∃ b off, a = ⟨b, off, none⟩ ∧ b < w.heap.size := by
  obtain ⟨b, off, q⟩ := a
  have e : w.heap[b]? ≠ none := by
    intro hn
    simp [World.cell?, hn] at h
  cases q with
  | none => exact ⟨b, off, rfl, by simpa using e⟩
  | some q =>
    exfalso
    simp only [World.cell?] at h
    split at h <;> simp_all

set_option maxRecDepth 100000 in
theorem arc_cells {n : Nat} {cs : List Value} {y : DataW H × List MemPlace} (h : DataW.trod enc Try.prog W 0 (fun _ => true) true n 47 cs = some y) :
    ∃ f t c : Int, cs = [.int .i64 f, .int .i64 t, .int .i64 c] := by
  obtain ⟨y0, y1, y2, m, _, hl, h0, h1, h2⟩ := trod_struct3 Try.underlying47 h
  have hc : Try.prog.cellsOf 47 = 3 := by kernel_rfl
  rw [hc] at hl
  have hi : Try.prog.cellsOf 3 = 1 := by kernel_rfl
  match cs, hl with
  | [v0, v1, v2], _ =>
    simp only [hi] at h0 h1 h2
    obtain ⟨a, e0, _, _⟩ := DataW.trod_int Try.underlying3 h0
    obtain ⟨b, e1, _, _⟩ := DataW.trod_int Try.underlying3 h1
    obtain ⟨c, e2, _, _⟩ := DataW.trod_int Try.underlying3 h2
    simp at e0 e1 e2
    subst e0 e1 e2
    exact ⟨a, b, c, rfl⟩

set_option maxRecDepth 100000 in
theorem open_arcs {fuel : Nat} {v : Value} {y : DataW H × List MemPlace} (h : DataW.trod enc Try.prog W 0 (fun _ => true) true fuel 41 [v] = some y) :
    ∃ ao cap l, v = .slice ao (l : List Arc3).length cap ∧ ArcsAt W ao l ∧ l.length ≤ cap ∧ cap ≤ maxLen ∧ (ao = none → l.length = 0 ∧ cap = 0) ∧ ((∀ x ∈ y.1.weights Try.prog 41, x ≤ reachBytes) → cap * 24 ≤ reachBytes) := by
  rcases open_slice Try.underlying41 h with ⟨hcs, _⟩ | ⟨a, len, cap, m, n, D, Pl, hcs, _, hl, hm, hmm, hy, hx⟩
  · simp only [List.cons.injEq, and_true] at hcs
    subst hcs
    exact ⟨none, 0, [], rfl, fun i hi => absurd hi (Nat.not_lt_zero _), Nat.zero_le _, Nat.zero_le _, fun _ => ⟨rfl, rfl⟩, fun _ => by omega⟩
  · simp only [List.cons.injEq, and_true] at hcs
    subst hcs
    have hc : Try.prog.cellsOf 47 = 3 := by kernel_rfl
    rw [hc] at hx
    have hlm : len ≤ m := by rw [hmm]; split <;> omega
    have each : ∀ i, i < len → ∃ q : Arc3, W.cell? (a.add (i * 3)) = some (.int .i64 q.1) ∧ W.cell? (a.add (i * 3 + 1)) = some (.int .i64 q.2.1) ∧ W.cell? (a.add (i * 3 + 2)) = some (.int .i64 q.2.2) := by
      intro i hi
      obtain ⟨cs', h1, h2⟩ := hx i (by omega)
      obtain ⟨f, t, c, rfl⟩ := arc_cells h2
      obtain ⟨_, _, hcell⟩ := World.cells?_some h1
      have e0 := hcell 0 (by omega)
      have e1 := hcell 1 (by omega)
      have e2 := hcell 2 (by omega)
      rw [add_add] at e0 e1 e2
      exact ⟨(f, t, c), by simpa using e0, by simpa using e1, by simpa using e2⟩
    obtain ⟨q, hq⟩ := choose_lt each
    have hb24 : Try.prog.bytesOf 47 = 24 := by kernel_rfl
    have hwt : (∀ x ∈ y.1.weights Try.prog 41, x ≤ reachBytes) → cap * 24 ≤ reachBytes := by
      intro hw
      rw [hy] at hw
      simp only [DataW.weights, Try.underlying41, List.mem_cons] at hw
      have := hw _ (Or.inl rfl)
      simp only [List.length_map, List.length_range, hb24] at this
      simp only [if_true] at hmm
      subst hmm
      rw [show len + (m - len) = m by omega] at this
      exact this
    refine ⟨some a, cap, (List.range len).map q, by simp, fun i hi => ?_, by simpa using hl, hm, fun e => (by cases e), hwt⟩
    have hi' : i < len := by simpa using hi
    obtain ⟨q0, q1, q2⟩ := hq i hi'
    have q00 := (hq 0 (by omega)).1
    rw [Nat.zero_mul, show a.add 0 = a by simp [Addr.add]] at q00
    obtain ⟨b, off, rfl, hb⟩ := addr_plain q00
    rw [add_plain] at q0 q1 q2
    have e : at3 ((List.range len).map q) i = q i := by rw [at3_lt _ _ hi]; simp
    rw [e]
    exact ⟨b, off, rfl, hb, q0, by simpa [Nat.add_assoc] using q1, by simpa [Nat.add_assoc] using q2⟩

set_option maxRecDepth 100000 in
theorem open_graphW {base : Nat} {v : Value} {d : DataW H} {p : List MemPlace} (hv : Value.okWide Try.prog W .any base 69 v)
    (h : DataW.Trod enc Try.prog W 0 (fun _ => true) true 69 v d p) :
    ∃ n ao cap l, v = .agg #[.int .i64 n, .slice ao (l : List Arc3).length cap] ∧ ArcsAt W ao l ∧ l.length ≤ cap ∧ cap ≤ maxLen ∧ (Lit.int .i64 n).wf = true ∧
      (ao = none → l.length = 0 ∧ cap = 0) ∧ ((∀ x ∈ d.weights Try.prog 69, x ≤ reachBytes) → cap * 24 ≤ reachBytes) := by
  obtain ⟨v0, v1, y0, y1, n, rfl, hd, _, h0, h1⟩ := open_agg2 Try.underlying69 (by kernel_rfl) (by kernel_rfl) hv h
  obtain ⟨a, e0, _, wa⟩ := DataW.trod_int Try.underlying3 h0
  simp at e0
  subst e0
  obtain ⟨ao, cap, l, rfl, hA, hl, hm, hn, hw⟩ := open_arcs h1
  refine ⟨a, ao, cap, l, rfl, hA, hl, hm, wa, hn, fun hx => hw fun x hx' => hx x ?_⟩
  rw [hd]
  simp only [DataW.weights, Try.underlying69]
  simp [DataW.weightsEach, hx']

set_option maxRecDepth 100000 in
theorem open_graph {base : Nat} {v : Value} {d : DataW H} {p : List MemPlace} (hv : Value.okWide Try.prog W .any base 69 v)
    (h : DataW.Trod enc Try.prog W 0 (fun _ => true) true 69 v d p) :
    ∃ n ao cap l, v = .agg #[.int .i64 n, .slice ao (l : List Arc3).length cap] ∧ ArcsAt W ao l ∧ l.length ≤ cap ∧ cap ≤ maxLen ∧ (Lit.int .i64 n).wf = true := by
  obtain ⟨n, ao, cap, l, h1, h2, h3, h4, h5, _⟩ := open_graphW hv h
  exact ⟨n, ao, cap, l, h1, h2, h3, h4, h5⟩

end
end Go.Proofs.Ytmneajmfoljflaa
