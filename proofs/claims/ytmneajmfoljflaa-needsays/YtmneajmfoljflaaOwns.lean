/- Rows that a call has made itself, and how they outlast stores and calls. -/
import Derived.Test.YtmneajmfoljflaaBase
namespace Go.Proofs.Ytmneajmfoljflaa
open Go.RowKit
set_option linter.unusedVariables false

theorem blk2_set {w : World} {p : Nat} {x y : Value} {t : TypeId} (h : w.heap[p]? = some (.cells #[x, y] t (0, 0))) (a b : Value) :
    ((w.setCell ⟨p, 0, none⟩ a).setCell ⟨p, 1, none⟩ b).heap[p]? = some (.cells #[a, b] t (0, 0)) := by
  simp [World.setCell, Array.getElem?_modify, h]

theorem blk2_set1 {w : World} {p : Nat} {x y : Value} {t : TypeId} (h : w.heap[p]? = some (.cells #[x, y] t (0, 0))) (b : Value) :
    (w.setCell ⟨p, 1, none⟩ b).heap[p]? = some (.cells #[x, b] t (0, 0)) := by
  simp [World.setCell, Array.getElem?_modify, h]

theorem owns_set {w : World} {B : Nat} {t : TypeId} {s : Nat} {v : Value} {n : Nat} {xs : List Value} (h : w.ownsRow B t s v n xs) {p : Addr} (hp : ∀ a, v = .slice (some a) n 0 ∨ True → ∀ g cap, v = .slice (some ⟨g, 0, none⟩) n cap → g ≠ p.block) (u : Value) : (w.setCell p u).ownsRow B t s v n xs := by
  obtain ⟨h1, h2⟩ := h
  refine ⟨h1, ?_⟩
  rcases h2 with h2 | ⟨g, cap, cur, hv, hg, hh, r⟩
  · exact Or.inl h2
  · refine Or.inr ⟨g, cap, cur, hv, hg, ?_, r⟩
    rw [Below.heap_setCell _ _ _ _ (hp ⟨0, 0, none⟩ (Or.inr trivial) g cap hv)]; exact hh

/-- where an owned row lies -/
theorem owns_lt {w : World} {B : Nat} {t : TypeId} {s : Nat} {v : Value} {n : Nat} {xs : List Value} (h : w.ownsRow B t s v n xs) : ∀ g cap, v = .slice (some ⟨g, 0, none⟩) n cap → B ≤ g ∧ g < w.heap.size := by
  intro g cap e
  rcases h.2 with ⟨rfl, _⟩ | ⟨g', cap', cur, rfl, hB, hg, _⟩
  · cases e
  · cases e; exact ⟨hB, (Array.getElem?_eq_some_iff.1 hg).1⟩

theorem owns_ne {w : World} {B : Nat} {t t' : TypeId} {s : Nat} {v : Value} {n : Nat} {xs : List Value} (h : w.ownsRow B t s v n xs) {p : Nat} {c : Array Value} {fr : Nat × Nat} (hp : w.heap[p]? = some (.cells c t' fr)) (ht : t ≠ t') : ∀ g cap, v = .slice (some ⟨g, 0, none⟩) n cap → g ≠ p := by
  intro g cap e e2
  rcases h.2 with ⟨rfl, _⟩ | ⟨g', cap', cur, rfl, hB, hg, _⟩
  · cases e
  · cases e
    rw [e2, hp] at hg
    simp only [Option.some.injEq, Obj.cells.injEq] at hg
    exact ht hg.2.1.symm

theorem owns_below {w w' : World} {B C : Nat} {t : TypeId} {s : Nat} {v : Value} {n : Nat} {xs : List Value} (h : w.ownsRow B t s v n xs) (hb : Below C w w') (hC : w.heap.size ≤ C) : w'.ownsRow B t s v n xs := by
  obtain ⟨h1, h2⟩ := h
  refine ⟨h1, ?_⟩
  rcases h2 with h2 | ⟨g, cap, cur, hv, hg, hh, r⟩
  · exact Or.inl h2
  · exact Or.inr ⟨g, cap, cur, hv, hg, by rw [hb.block g (by have := (Array.getElem?_eq_some_iff.1 hh).1; omega)]; exact hh, r⟩

theorem owns_weaken {w : World} {B C : Nat} {t : TypeId} {s : Nat} {v : Value} {n : Nat} {xs : List Value} (h : w.ownsRow B t s v n xs) (hC : C ≤ B) : w.ownsRow C t s v n xs := by
  obtain ⟨h1, h2⟩ := h
  exact ⟨h1, h2.imp id fun ⟨g, cap, cur, hv, hg, r⟩ => ⟨g, cap, cur, hv, by omega, r⟩⟩

/-- integers as the cells of a row -/
def flati (l : List Int) : List Value := l.map (Value.int .i64)

theorem owns_ints {w : World} {B : Nat} {t : TypeId} {v : Value} {l : List Int} (h : w.ownsRow B t 1 v l.length (flati l)) :
    ∃ ao cap, v = .slice ao l.length cap ∧ IntsAt w ao l ∧ (∀ b off, ao = some ⟨b, off, none⟩ → B ≤ b) ∧ l.length ≤ cap ∧ cap ≤ maxLen := by
  rcases h.2 with ⟨rfl, hn⟩ | ⟨g, cap, cur, rfl, hB, hg, hle, hcap, hcs, htk⟩
  · exact ⟨none, 0, by rw [hn], fun i hi => absurd hi (by omega), (fun b off e => by cases e), by omega, Nat.zero_le _⟩
  · refine ⟨some ⟨g, 0, none⟩, cap, rfl, fun i hi => ?_, fun b off e => by cases e; exact hB, hle, hcap⟩
    refine ⟨g, 0, rfl, (Array.getElem?_eq_some_iff.1 hg).1, ?_⟩
    rw [Nat.zero_add, h.cellAt _ (by omega)]
    simp [flati, hi, ati_lt]

theorem owns_pop {w : World} {B : Nat} {t : TypeId} {v : Value} {n : Nat} {xs : List Value} {x : Value} (h : w.ownsRow B t 1 v (n + 1) (xs ++ [x])) :
    ∃ g cap, v = .slice (some ⟨g, 0, none⟩) (n + 1) cap ∧ w.cell? ⟨g, n, none⟩ = some x ∧ w.ownsRow B t 1 (.slice (some ⟨g, 0, none⟩) n cap) n xs ∧ B ≤ g ∧ g < w.heap.size ∧ n + 1 ≤ cap ∧ cap ≤ maxLen := by
  have hl := h.1
  have hx : xs.length = n := by simpa using hl
  rcases h.2 with ⟨_, h0⟩ | ⟨g, cap, cur, rfl, hB, hg, hle, hcap, hcs, htk⟩
  · omega
  · refine ⟨g, cap, rfl, ?_, ⟨by omega, Or.inr ⟨g, cap, cur, rfl, hB, hg, by omega, hcap, hcs, ?_⟩⟩, hB, (Array.getElem?_eq_some_iff.1 hg).1, hle, hcap⟩
    · have := h.cellAt n (by omega)
      rw [this, List.getElem?_append_right (by omega), hx]; simp
    · rw [Nat.mul_one] at htk
      have := congrArg (List.take n) htk
      rw [List.take_take, show min n (n + 1) = n by omega, List.take_append_of_le_length (by omega), List.take_of_length_le (l := xs) (by omega)] at this
      rwa [Nat.mul_one]

theorem owns_form {w : World} {B : Nat} {t : TypeId} {s : Nat} {v : Value} {n : Nat} {xs : List Value} (h : w.ownsRow B t s v n xs) : ∃ ao cap, v = .slice ao n cap := by
  rcases h.2 with ⟨rfl, hn⟩ | ⟨g, cap, cur, rfl, _⟩
  · exact ⟨none, 0, by rw [hn]⟩
  · exact ⟨_, _, rfl⟩

end Go.Proofs.Ytmneajmfoljflaa
