/- A list of needs in memory. -/
import Derived.Test.YtmneajmfoljflaaNeedM
namespace Go.Proofs.Ytmneajmfoljflaa
open Go.RowKit
set_option linter.unusedVariables false

/-- the needs lie where the slice leads -/
def NeedsAt (w : World) (ao : Option Addr) (l : List Need4) : Prop :=
  ∀ i, i < l.length → ∃ b off, ao = some ⟨b, off, none⟩ ∧ b < w.heap.size ∧
    w.cell? ⟨b, off + i * 4, none⟩ = some (.int .i64 (at4 l i).1) ∧
    w.cell? ⟨b, off + i * 4 + 1, none⟩ = some (.int .i64 (at4 l i).2.1) ∧
    w.cell? ⟨b, off + i * 4 + 2, none⟩ = some (.int .i64 (at4 l i).2.2.1) ∧
    w.cell? ⟨b, off + i * 4 + 3, none⟩ = some (.int .i64 (at4 l i).2.2.2)
theorem NeedsAt.below {B : Nat} {w w' : World} {ao : Option Addr} {l : List Need4} (h : NeedsAt w ao l) (hb : Below B w w') (hB : w.heap.size ≤ B) : NeedsAt w' ao l := by
  intro i hi
  obtain ⟨b, off, e, hlt, c0, c1, c2, c3⟩ := h i hi
  exact ⟨b, off, e, Nat.lt_of_lt_of_le hlt hb.size, (hb.cell (p := ⟨b, off + i * 4, none⟩) (by show b < B; omega)).trans c0,
    (hb.cell (p := ⟨b, off + i * 4 + 1, none⟩) (by show b < B; omega)).trans c1, (hb.cell (p := ⟨b, off + i * 4 + 2, none⟩) (by show b < B; omega)).trans c2, (hb.cell (p := ⟨b, off + i * 4 + 3, none⟩) (by show b < B; omega)).trans c3⟩
theorem NeedsAt.alloc {w : World} {ao : Option Addr} {l : List Need4} (h : NeedsAt w ao l) (o : Obj) : NeedsAt (w.alloc o) ao l :=
  h.below ((Below.refl w.heap.size w).alloc (Nat.le_refl _) o) (Nat.le_refl _)
/-- an argument that is a list of needs -/
structure NeedsIn (w : World) (ao : Option Addr) (cap : Nat) (l : List Need4) : Prop where
  needs : NeedsAt w ao l
  le : l.length ≤ cap
  max : cap ≤ maxLen
  nil : ao = none → l.length = 0 ∧ cap = 0
theorem NeedsIn.below {B : Nat} {w w' : World} {ao : Option Addr} {cap : Nat} {l : List Need4} (h : NeedsIn w ao cap l) (hb : Below B w w') (hB : w.heap.size ≤ B) : NeedsIn w' ao cap l := ⟨h.needs.below hb hB, h.le, h.max, h.nil⟩
theorem NeedsIn.alloc {w : World} {ao : Option Addr} {cap : Nat} {l : List Need4} (h : NeedsIn w ao cap l) (o : Obj) : NeedsIn (w.alloc o) ao cap l := ⟨h.needs.alloc o, h.le, h.max, h.nil⟩
theorem NeedsIn.len {w : World} {ao : Option Addr} {cap : Nat} {l : List Need4} (h : NeedsIn w ao cap l) : l.length ≤ maxLen := Nat.le_trans h.le h.max

/-- the cells of a list of needs -/
def flat4 (l : List Need4) : List Value := l.flatMap fun a => [.int .i64 a.1, .int .i64 a.2.1, .int .i64 a.2.2.1, .int .i64 a.2.2.2]
theorem flat4_cons (a : Need4) (l : List Need4) : flat4 (a :: l) = [.int .i64 a.1, .int .i64 a.2.1, .int .i64 a.2.2.1, .int .i64 a.2.2.2] ++ flat4 l := rfl
theorem flat4_len (l : List Need4) : (flat4 l).length = l.length * 4 := by
  induction l with
  | nil => rfl
  | cons a l ih => rw [flat4_cons, List.length_append, ih, List.length_cons]; simp; omega
theorem flat4_append (l m : List Need4) : flat4 (l ++ m) = flat4 l ++ flat4 m := by unfold flat4; rw [List.flatMap_append]
theorem flat4_one (l : List Need4) : ∀ v ∈ flat4 l, v.oneCell' = true := by
  intro v hv
  unfold flat4 at hv
  obtain ⟨a, _, h⟩ := List.mem_flatMap.1 hv
  simp only [List.mem_cons, List.not_mem_nil, or_false] at h
  rcases h with rfl | rfl | rfl | rfl <;> rfl
theorem flat4_at : ∀ (l : List Need4) (i : Nat), i < l.length → (flat4 l)[i * 4]? = some (.int .i64 (at4 l i).1) ∧ (flat4 l)[i * 4 + 1]? = some (.int .i64 (at4 l i).2.1) ∧ (flat4 l)[i * 4 + 2]? = some (.int .i64 (at4 l i).2.2.1) ∧ (flat4 l)[i * 4 + 3]? = some (.int .i64 (at4 l i).2.2.2)
  | a :: l, 0, _ => ⟨rfl, rfl, rfl, rfl⟩
  | a :: l, i + 1, h => by
    have ih := flat4_at l i (by simpa using h)
    have e : at4 (a :: l) (i + 1) = at4 l i := by simp [at4]
    rw [e, flat4_cons, show (i + 1) * 4 = i * 4 + 4 by omega]
    refine ⟨?_, ?_, ?_, ?_⟩ <;> rw [List.getElem?_append_right (by first | (simp; done) | (simp; omega))]
    · rw [show i * 4 + 4 - [Value.int .i64 a.1, .int .i64 a.2.1, .int .i64 a.2.2.1, .int .i64 a.2.2.2].length = i * 4 by simp]; exact ih.1
    · rw [show i * 4 + 4 + 1 - [Value.int .i64 a.1, .int .i64 a.2.1, .int .i64 a.2.2.1, .int .i64 a.2.2.2].length = i * 4 + 1 by simp]; exact ih.2.1
    · rw [show i * 4 + 4 + 2 - [Value.int .i64 a.1, .int .i64 a.2.1, .int .i64 a.2.2.1, .int .i64 a.2.2.2].length = i * 4 + 2 by simp]; exact ih.2.2.1
    · rw [show i * 4 + 4 + 3 - [Value.int .i64 a.1, .int .i64 a.2.1, .int .i64 a.2.2.1, .int .i64 a.2.2.2].length = i * 4 + 3 by simp]; exact ih.2.2.2
/-- a row that append has made -/
theorem owns_needs {w : World} {B : Nat} {t : TypeId} {v : Value} {l : List Need4} (h : w.ownsRow B t 4 v l.length (flat4 l)) :
    ∃ ao cap, v = .slice ao l.length cap ∧ NeedsIn w ao cap l ∧ ∀ b off, ao = some ⟨b, off, none⟩ → B ≤ b := by
  rcases h.2 with ⟨rfl, hn⟩ | ⟨g, cap, cur, rfl, hB, hg, hle, hcap, hcs, htk⟩
  · exact ⟨none, 0, by rw [hn], ⟨fun i hi => absurd hi (by omega), by omega, Nat.zero_le _, fun _ => ⟨hn, rfl⟩⟩, fun b off e => by cases e⟩
  · refine ⟨some ⟨g, 0, none⟩, cap, rfl, ⟨fun i hi => ?_, hle, hcap, fun e => by cases e⟩, fun b off e => by cases e; exact hB⟩
    obtain ⟨f0, f1, f2, f3⟩ := flat4_at l i hi
    refine ⟨g, 0, rfl, (Array.getElem?_eq_some_iff.1 hg).1, ?_, ?_, ?_, ?_⟩
    · rw [Nat.zero_add, h.cellAt _ (by omega)]; exact f0
    · rw [Nat.zero_add, h.cellAt _ (by omega)]; exact f1
    · rw [Nat.zero_add, h.cellAt _ (by omega)]; exact f2
    · rw [Nat.zero_add, h.cellAt _ (by omega)]; exact f3
theorem needs_new (w : World) (l : List Need4) (t : TypeId) : NeedsAt (w.alloc (.cells (flat4 l).toArray t)) (some ⟨w.heap.size, 0, none⟩) l := by
  intro i hi
  have hx := blk_new w (.cells (flat4 l).toArray t)
  obtain ⟨f0, f1, f2, f3⟩ := flat4_at l i hi
  have hl := flat4_len l
  have hc : ∀ j v, (flat4 l)[j]? = some v → (w.alloc (.cells (flat4 l).toArray t)).cell? ⟨w.heap.size, j, none⟩ = some v := fun j v hj => by
    have r : (w.alloc (.cells (flat4 l).toArray t)).rowIs w.heap.size t (flat4 l).length (fun j => (flat4 l).getD j (.bool false)) := ⟨_, hx, by simp, fun i hi => by simp [hi]⟩
    have hjl := (List.getElem?_eq_some_iff.1 hj).1
    rw [r.cell (i := j) hjl]
    simp [List.getD_eq_getElem?_getD, hj]
  refine ⟨w.heap.size, 0, rfl, by simp, ?_, ?_, ?_, ?_⟩ <;> rw [Nat.zero_add]
  · exact hc _ _ f0
  · exact hc _ _ f1
  · exact hc _ _ f2
  · exact hc _ _ f3

end Go.Proofs.Ytmneajmfoljflaa
