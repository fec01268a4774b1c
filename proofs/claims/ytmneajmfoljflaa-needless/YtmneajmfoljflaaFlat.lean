/- Arcs as the cells of a row. -/
import Derived.Test.YtmneajmfoljflaaBase
import Derived.WideShapes
namespace Go.Proofs.Ytmneajmfoljflaa
open Go.RowKit
set_option linter.unusedVariables false

/-- arcs as the cells of a row -/
def flat (l : List Arc3) : List Value := l.flatMap fun a => [.int .i64 a.1, .int .i64 a.2.1, .int .i64 a.2.2]

theorem flat_append (l m : List Arc3) : flat (l ++ m) = flat l ++ flat m := by simp [flat]

theorem flat_length (l : List Arc3) : (flat l).length = l.length * 3 := by
  induction l with
  | nil => rfl
  | cons a r ih =>
    have : flat (a :: r) = [.int .i64 a.1, .int .i64 a.2.1, .int .i64 a.2.2] ++ flat r := by simp [flat]
    rw [this, List.length_append, ih]; simp; omega

theorem flat_at (l : List Arc3) (i : Nat) (h : i < l.length) : (flat l)[i * 3]? = some (.int .i64 (at3 l i).1) ∧ (flat l)[i * 3 + 1]? = some (.int .i64 (at3 l i).2.1) ∧ (flat l)[i * 3 + 2]? = some (.int .i64 (at3 l i).2.2) := by
  induction l generalizing i with
  | nil => simp at h
  | cons a r ih =>
    have e : flat (a :: r) = .int .i64 a.1 :: .int .i64 a.2.1 :: .int .i64 a.2.2 :: flat r := by simp [flat]
    rw [e]
    cases i with
    | zero => simp [at3]
    | succ i =>
      have h' : i < r.length := by simpa using h
      have := ih i h'
      rw [show (i + 1) * 3 = i * 3 + 3 by omega]
      have e2 : at3 (a :: r) (i + 1) = at3 r i := by simp [at3]
      rw [e2]
      simpa using this

theorem owns_arcs {w : World} {B : Nat} {t : TypeId} {v : Value} {l : List Arc3} (h : w.ownsRow B t 3 v l.length (flat l)) :
    ∃ ao cap, v = .slice ao l.length cap ∧ ArcsAt w ao l ∧ (∀ b off, ao = some ⟨b, off, none⟩ → B ≤ b) ∧ l.length ≤ cap ∧ cap ≤ maxLen := by
  rcases h.2 with ⟨rfl, hn⟩ | ⟨g, cap, cur, rfl, hB, hg, hle, hcap, hcs, htk⟩
  · exact ⟨none, 0, by rw [hn], fun i hi => absurd hi (by omega), (fun b off e => by cases e), by omega, Nat.zero_le _⟩
  · refine ⟨some ⟨g, 0, none⟩, cap, rfl, fun i hi => ?_, fun b off e => by cases e; exact hB, hle, hcap⟩
    have hlt : g < w.heap.size := by
      obtain ⟨h1, _⟩ := Array.getElem?_eq_some_iff.1 hg
      exact h1
    have q := flat_at l i hi
    refine ⟨g, 0, rfl, hlt, ?_, ?_, ?_⟩
    · rw [Nat.zero_add, h.cellAt _ (by omega)]; exact q.1
    · rw [Nat.zero_add, h.cellAt _ (by omega)]; exact q.2.1
    · rw [Nat.zero_add, h.cellAt _ (by omega)]; exact q.2.2

theorem arcs_new (w : World) (l : List Arc3) (t : TypeId) : ArcsAt (w.alloc (.cells (flat l).toArray t)) (some ⟨w.heap.size, 0, none⟩) l := by
  intro i hi
  have q := flat_at l i hi
  refine ⟨_, _, rfl, by simp, ?_, ?_, ?_⟩
  · rw [newest, Nat.zero_add]; simpa using q.1
  · rw [newest, Nat.zero_add]; simpa using q.2.1
  · rw [newest, Nat.zero_add]; simpa using q.2.2

theorem oneFlat (l : List Arc3) : ∀ v ∈ flat l, v.oneCell' = true := by
  intro v hv
  simp only [flat, List.mem_flatMap] at hv
  obtain ⟨a, _, h⟩ := hv
  simp at h
  rcases h with rfl | rfl | rfl <;> rfl

/-- the cells of some of the arcs, from arc k on -/
theorem arcs_from {w : World} {b off : Nat} {l : List Arc3} (hA : ArcsAt w (some ⟨b, off, none⟩) l) (k : Nat) (m : List Arc3) (hm : ∀ i, i < m.length → k + i < l.length ∧ at3 m i = at3 l (k + i)) (j : Nat) (v : Value) (h : (flat m)[j]? = some v) :
    w.cell? ⟨b, off + k * 3 + j, none⟩ = some v := by
  have hj : j < m.length * 3 := by
    have := (List.getElem?_eq_some_iff.1 h).1
    rwa [flat_length] at this
  have hi : j / 3 < m.length := by omega
  obtain ⟨hk, he⟩ := hm _ hi
  obtain ⟨q0, q1, q2⟩ := flat_at m (j / 3) hi
  obtain ⟨b', off', e, _, c0, c1, c2⟩ := hA _ hk
  cases e
  rw [he] at q0 q1 q2
  have h3 : j % 3 < 3 := Nat.mod_lt _ (by omega)
  have hd := Nat.div_add_mod j 3
  rcases (by omega : j % 3 = 0 ∨ j % 3 = 1 ∨ j % 3 = 2) with e | e | e
  · rw [show j / 3 * 3 = j by omega, h] at q0
    rw [q0, show off + k * 3 + j = off + (k + j / 3) * 3 by omega]; exact c0
  · rw [show j / 3 * 3 + 1 = j by omega, h] at q1
    rw [q1, show off + k * 3 + j = off + (k + j / 3) * 3 + 1 by omega]; exact c1
  · rw [show j / 3 * 3 + 2 = j by omega, h] at q2
    rw [q2, show off + k * 3 + j = off + (k + j / 3) * 3 + 2 by omega]; exact c2

theorem at3_take (l : List Arc3) (k i : Nat) (h : i < (l.take k).length) : 0 + i < l.length ∧ at3 (l.take k) i = at3 l (0 + i) := by
  have h' : i < k ∧ i < l.length := by simp at h; omega
  refine ⟨by omega, ?_⟩
  rw [at3_lt _ _ h, at3_lt _ _ (by omega)]; simp
theorem at3_drop (l : List Arc3) (k i : Nat) (h : i < (l.drop k).length) : k + i < l.length ∧ at3 (l.drop k) i = at3 l (k + i) := by
  have h' : k + i < l.length := by simp at h; omega
  refine ⟨by omega, ?_⟩
  rw [at3_lt _ _ h, at3_lt _ _ (by omega)]; simp

theorem row_arcs {w : World} {g : Nat} {t : TypeId} {l : List Arc3} (h : w.heap[g]? = some (.cells (flat l).toArray t (0, 0))) : ArcsAt w (some ⟨g, 0, none⟩) l := by
  intro i hi
  have hlt : g < w.heap.size := (Array.getElem?_eq_some_iff.1 h).1
  have q := flat_at l i hi
  have c : ∀ j, w.cell? ⟨g, j, none⟩ = (flat l)[j]? := fun j => by simp [World.cell?, h]
  exact ⟨g, 0, rfl, hlt, by rw [c, Nat.zero_add]; exact q.1, by rw [c, Nat.zero_add]; exact q.2.1, by rw [c, Nat.zero_add]; exact q.2.2⟩

end Go.Proofs.Ytmneajmfoljflaa
