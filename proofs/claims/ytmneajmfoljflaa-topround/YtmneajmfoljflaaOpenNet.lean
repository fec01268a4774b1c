/- An argument opened: a net. -/
import Derived.Test.YtmneajmfoljflaaOpen
namespace Go.Proofs.Ytmneajmfoljflaa
open Go.ChangeShapes Go.WideShapes Go.ChangeAt Go.RowKit Go.Joins Go.Deep
set_option linter.unusedVariables false

set_option maxRecDepth 100000 in
theorem open_netW {H : Type} {enc : TypeId × Value → H} {W : World} {base : Nat} {v : Value} {d : DataW H} {p : List MemPlace} (hv : Value.okWide Try.prog W .any base 43 v)
    (h : DataW.Trod enc Try.prog W 0 (fun _ => true) true 43 v d p) :
    ∃ n s t ao cap l, v = .agg #[.int .i64 n, .int .i64 s, .int .i64 t, .slice ao (l : List Arc3).length cap] ∧ ArcsAt W ao l ∧ l.length ≤ cap ∧ cap ≤ maxLen ∧ (ao = none → l.length = 0 ∧ cap = 0) ∧ ((∀ x ∈ d.weights Try.prog 43, x ≤ reachBytes) → cap * 24 ≤ reachBytes) := by
  obtain ⟨v0, v1, v2, v3, y0, y1, y2, y3, n, rfl, hd, _, h0, h1, h2, h3⟩ := open_agg4 Try.underlying43 (by kernel_rfl) (by kernel_rfl) hv h
  obtain ⟨a, e0, _, _⟩ := DataW.trod_int Try.underlying3 h0
  obtain ⟨b, e1, _, _⟩ := DataW.trod_int Try.underlying3 h1
  obtain ⟨c, e2, _, _⟩ := DataW.trod_int Try.underlying3 h2
  simp at e0 e1 e2
  subst e0 e1 e2
  obtain ⟨ao, cap, l, rfl, hA, hl, hm, hn, hw⟩ := open_arcs h3
  refine ⟨a, b, c, ao, cap, l, rfl, hA, hl, hm, hn, fun hx => hw fun x hx' => hx x ?_⟩
  rw [hd]
  simp only [DataW.weights, Try.underlying43]
  simp [DataW.weightsEach, hx']

end Go.Proofs.Ytmneajmfoljflaa
