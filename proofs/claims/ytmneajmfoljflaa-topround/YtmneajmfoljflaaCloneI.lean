/- Contract of slices.Clone over integers; a row of our own. -/
import Derived.Test.YtmneajmfoljflaaMk
import Derived.Test.YtmneajmfoljflaaOwns
namespace Go.Proofs.Ytmneajmfoljflaa
open Go.RowKit
set_option linter.unusedVariables false

theorem oneFlati (l : List Int) : ∀ v ∈ flati l, v.oneCell' = true := by
  intro v hv
  obtain ⟨x, _, rfl⟩ := List.mem_map.1 hv
  rfl
theorem flati_length (l : List Int) : (flati l).length = l.length * 1 := by simp [flati]


/-- the first N cells of a row of our own -/
def OwnI (w : World) (g cap N : Nat) (h : Nat → Int) : Prop := ∃ f, w.rowIs g 3 cap f ∧ N ≤ cap ∧ ∀ j, j < N → f j = .int .i64 (h j)

theorem own_ints {w : World} {B N : Nat} {v : Value} {l : List Int} (hN : 1 ≤ N) (hl : l.length = N) (h : w.ownsRow B 3 1 v l.length (flati l)) : ∃ g cap, v = .slice (some ⟨g, 0, none⟩) N cap ∧ B ≤ g ∧ OwnI w g cap N (ati l) := by
  have hA := owns_ints h
  rcases h.2 with ⟨rfl, hn⟩ | ⟨g, cap, cur, rfl, hB, hg, hle, hcap, hcs, htk⟩
  · omega
  · obtain ⟨ao', cap', e, hA, _⟩ := hA
    obtain ⟨rfl, rfl⟩ : ao' = some ⟨g, 0, none⟩ ∧ cap' = cap := by cases e; exact ⟨rfl, rfl⟩
    have hr : w.rowIs g 3 cap' (fun i => cur.getD i (.bool false)) := ⟨cur, hg, by omega, fun i hi => by simp [Array.getD, hcs, hi]⟩
    refine ⟨g, cap', by rw [hl], hB, _, hr, by omega, fun j hj => ?_⟩
    obtain ⟨b, off, e, _, c⟩ := hA j (by omega)
    cases e
    rw [Nat.zero_add] at c
    exact Option.some.inj ((hr.cell (i := j) (by omega)).symm.trans c)

theorem OwnI.alloc {w : World} {g cap N : Nat} {h : Nat → Int} (H : OwnI w g cap N h) (o : Obj) : OwnI (w.alloc o) g cap N h := by
  obtain ⟨f, h1, h2, h3⟩ := H; exact ⟨f, h1.alloc o, h2, h3⟩
theorem OwnI.drewN {w : World} {g cap N : Nat} {h : Nat → Int} (H : OwnI w g cap N h) (q : Nat) : OwnI (w.drewN q) g cap N h := by
  obtain ⟨f, h1, h2, h3⟩ := H
  refine ⟨f, ?_, h2, h3⟩
  induction q with
  | zero => exact h1
  | succ q ih => exact ih.drew
theorem OwnI.lt {w : World} {g cap N : Nat} {h : Nat → Int} (H : OwnI w g cap N h) : g < w.heap.size := by obtain ⟨f, h1, _⟩ := H; exact h1.lt
theorem OwnI.cell {w : World} {g cap N : Nat} {h : Nat → Int} (H : OwnI w g cap N h) {j : Nat} (hj : j < N) : w.cell? ⟨g, j, none⟩ = some (.int .i64 (h j)) := by
  obtain ⟨f, h1, h2, h3⟩ := H
  rw [h1.cell (i := j) (by omega), h3 j hj]
theorem OwnI.frozen {w : World} {g cap N : Nat} {h : Nat → Int} (H : OwnI w g cap N h) (j : Nat) : w.frozen? ⟨g, j, none⟩ = false := by
  obtain ⟨f, h1, _⟩ := H; exact h1.frozen j
theorem OwnI.set {w : World} {g cap N : Nat} {h : Nat → Int} (H : OwnI w g cap N h) (t : Nat) (x : Int) : OwnI (w.setCell ⟨g, t, none⟩ (.int .i64 x)) g cap N (fun j => if j = t then x else h j) := by
  obtain ⟨f, h1, h2, h3⟩ := H
  refine ⟨_, h1.set t _, h2, fun j hj => ?_⟩
  by_cases e : j = t
  · simp [e]
  · simp [e, h3 j hj]
theorem OwnI.ints {w : World} {g cap N : Nat} {h : Nat → Int} (H : OwnI w g cap N h) : IntsAt w (some ⟨g, 0, none⟩) ((List.range N).map h) := by
  intro i hi
  have hi' : i < N := by simpa using hi
  refine ⟨g, 0, rfl, H.lt, ?_⟩
  rw [Nat.zero_add, H.cell hi']
  simp [ati, hi']
theorem OwnI.congr {w : World} {g cap N : Nat} {h h' : Nat → Int} (H : OwnI w g cap N h) (e : ∀ j, j < N → h j = h' j) : OwnI w g cap N h' := by
  obtain ⟨f, h1, h2, h3⟩ := H; exact ⟨f, h1, h2, fun j hj => by rw [h3 j hj, e j hj]⟩

end Go.Proofs.Ytmneajmfoljflaa
