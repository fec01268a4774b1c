/- An argument opened: a slice of slices of integers. -/
import Derived.Test.YtamckjbddnocpaaOpenInts
import Derived.Test.YtamckjbddnocpaaRowsAt
namespace Go.Proofs.Ytamckjbddnocpaa
open Go.ChangeShapes Go.WideShapes Go.ChangeAt Go.RowKit Go.Joins Go.Deep
set_option linter.unusedVariables false

theorem open_rows {H : Type} {enc : TypeId × Value → H} {W : World} {base : Nat} {v : Value} {d : DataW H} {p : List MemPlace} (hv : Value.okWide Try.prog W .any base 22 v)
    (h : DataW.Trod enc Try.prog W 0 (fun _ => true) true 22 v d p) :
    ∃ ao cap l, v = .slice ao (l : List RowV).length cap ∧ RowsIn W ao cap l := by
  obtain ⟨a0, len, cap, rfl⟩ := okWide_slice Try.underlying22 hv
  obtain ⟨fuel, hf⟩ := h
  have hf' : DataW.trod enc Try.prog W 0 (fun _ => true) true fuel 22 [.slice a0 len cap] = some (d, p) := by simpa [Value.cells] using hf
  rcases open_slice Try.underlying22 hf' with ⟨hcs, _⟩ | ⟨a, len', cap', m, n, D, Pl, hcs, _, hl, hm, hmm, hy, hx⟩
  · simp only [List.cons.injEq, and_true] at hcs
    cases hcs
    exact ⟨none, 0, [], rfl, fun i hi => absurd hi (Nat.not_lt_zero _), Nat.zero_le _, Nat.zero_le _, fun _ => ⟨rfl, rfl⟩⟩
  · simp only [List.cons.injEq, and_true] at hcs
    cases hcs
    have hc : Try.prog.cellsOf 26 = 1 := by kernel_rfl
    rw [hc] at hx
    have hlm : len ≤ m := by rw [hmm]; split <;> omega
    have each : ∀ i, i < len → ∃ q : RowV, W.cell? (a.add i) = some q.val ∧ q.At W := by
      intro i hi
      obtain ⟨cs', h1, h2⟩ := hx i (by omega)
      obtain ⟨_, hcl, hcell⟩ := World.cells?_some h1
      have hone : ∃ v, cs' = [v] := by
        cases cs' with
        | nil => simp at hcl
        | cons v r =>
          cases r with
          | nil => exact ⟨v, rfl⟩
          | cons x r => simp at hcl
      obtain ⟨v, rfl⟩ := hone
      obtain ⟨ao, cp, l, rfl, hI, h3, h4, h5⟩ := open_ints1 h2
      have e1 := hcell 0 (by omega)
      rw [add_add] at e1
      exact ⟨⟨ao, cp, l⟩, by simpa [RowV.val] using e1, hI, h3, h4, h5⟩
    have inh : Inhabited RowV := ⟨⟨none, 0, []⟩⟩
    obtain ⟨q, hq⟩ := choose_lt each
    refine ⟨some a, cap, (List.range len).map q, by simp, fun i hi => ?_, by simpa using hl, hm, fun e => (by cases e)⟩
    have hi' : i < len := by simpa using hi
    have q0 := hq i hi'
    have q00 := (hq 0 (by omega)).1
    rw [show a.add 0 = a by simp [Addr.add]] at q00
    obtain ⟨b, off, rfl, hb⟩ := addr_plain q00
    have e : atr ((List.range len).map q) i = q i := by rw [atr_lt _ _ hi]; simp
    rw [e]
    refine ⟨b, off, rfl, hb, ?_, q0.2⟩
    have := q0.1
    rwa [add_plain] at this

end Go.Proofs.Ytamckjbddnocpaa
