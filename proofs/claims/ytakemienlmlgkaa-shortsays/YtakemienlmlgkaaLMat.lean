/- Tables of integers in memory whose rows have room of their own. -/
import Derived.Test.YtakemienlmlgkaaMat
import Derived.Test.YtakemienlmlgkaaCloneI
namespace Go.Proofs.Ytakemienlmlgkaa
open Go.RowKit
set_option linter.unusedVariables false

structure LMat (B : Nat) (w : World) (D : Nat) (R C : Nat → Nat) (N c : Nat) (M : Nat → Nat → Int) : Prop where
  outer : w.rowIs D 25 N (fun i => if i < c then .slice (some ⟨R i, 0, none⟩) N (C i) else .slice none 0 0)
  inner : ∀ i, i < c → IntsAt w (some ⟨R i, 0, none⟩) ((List.range N).map (M i))
  apart : ∀ i, i < c → R i ≠ D
  lt : ∀ i, i < c → R i < w.heap.size
  low : B ≤ D ∧ ∀ i, i < c → B ≤ R i
  le : c ≤ N

theorem LMat.below {B C' : Nat} {w w' : World} {D : Nat} {R C : Nat → Nat} {N c : Nat} {M : Nat → Nat → Int} (h : LMat B w D R C N c M) (hb : Below C' w w') (hC : w.heap.size ≤ C') : LMat B w' D R C N c M :=
  ⟨h.outer.of_block (hb.block _ (by have := h.outer.lt; omega)), fun i hi => (h.inner i hi).below hb hC, h.apart, fun i hi => Nat.lt_of_lt_of_le (h.lt i hi) hb.size, h.low, h.le⟩
theorem LMat.alloc {B : Nat} {w : World} {D : Nat} {R C : Nat → Nat} {N c : Nat} {M : Nat → Nat → Int} (h : LMat B w D R C N c M) (o : Obj) : LMat B (w.alloc o) D R C N c M :=
  h.below (below_one w o) (Nat.le_refl _)
theorem LMat.drewN {B : Nat} {w : World} {D : Nat} {R C : Nat → Nat} {N c : Nat} {M : Nat → Nat → Int} (h : LMat B w D R C N c M) (q : Nat) : LMat B (w.drewN q) D R C N c M :=
  h.below (below_drewN (Below.refl _ _) q) (Nat.le_refl _)
theorem LMat.at {B : Nat} {w : World} {D : Nat} {R C : Nat → Nat} {N c : Nat} {M : Nat → Nat → Int} (h : LMat B w D R C N c M) {i : Nat} (hi : i < c) : w.cell? ⟨D, i, none⟩ = some (.slice (some ⟨R i, 0, none⟩) N (C i)) := by
  have := h.outer.cell (i := i) (by have := h.le; omega)
  rwa [if_pos hi] at this
theorem LMat.num {B : Nat} {w : World} {D : Nat} {R C : Nat → Nat} {N c : Nat} {M : Nat → Nat → Int} (h : LMat B w D R C N c M) {i j : Nat} (hi : i < c) (hj : j < N) : w.cell? ⟨R i, j, none⟩ = some (.int .i64 (M i j)) := by
  obtain ⟨b, off, e, _, c⟩ := h.inner i hi j (by simpa using hj)
  cases e
  rw [Nat.zero_add] at c
  rw [c]
  simp [ati, hj]

/-- row i laid anew: the last one, or one more -/
theorem LMat.lay {B : Nat} {w : World} {D : Nat} {R C : Nat → Nat} {N c d : Nat} {M : Nat → Nat → Int} (h : LMat B w D R C N d M) (hcd : c ≤ d) (hdc : d ≤ c + 1) (hc : c < N) {g cap : Nat} {f : Nat → Int} (hg : IntsAt w (some ⟨g, 0, none⟩) ((List.range N).map f)) (hgl : g < w.heap.size) (hgB : B ≤ g) (hgD : g ≠ D) :
    LMat B (w.setCell ⟨D, c, none⟩ (.slice (some ⟨g, 0, none⟩) N cap)) D (fun i => if i = c then g else R i) (fun i => if i = c then cap else C i) N (c + 1) (fun i j => if i = c then f j else M i j) := by
  refine ⟨(h.outer.set c _).congr fun i hi => ?_, fun i hi => ?_, fun i hi => ?_, fun i hi => ?_, ⟨h.low.1, fun i hi => ?_⟩, by omega⟩
  · by_cases e : i = c
    · subst e; simp
    · by_cases l : i < c
      · simp [e, show i < d by omega, show i < c + 1 by omega]
      · simp [e, show ¬ i < c + 1 by omega, show ¬ i < d by omega]
  · by_cases e : i = c
    · subst e; simpa using hg.setOther (by simpa using hgD) _
    · simpa [e] using (h.inner i (by omega)).setOther (by simpa using h.apart i (by omega)) _
  · by_cases e : i = c
    · simpa [e] using hgD
    · simpa [e] using h.apart i (by omega)
  · by_cases e : i = c
    · simpa [e] using hgl
    · simpa [e] using h.lt i (by omega)
  · by_cases e : i = c
    · simpa [e] using hgB
    · simpa [e] using h.low.2 i (by omega)

theorem nils_lmat (B : Nat) (w : World) (N : Nat) (R C : Nat → Nat) (M : Nat → Nat → Int) (hB : B ≤ w.heap.size) : LMat B (w.alloc (.cells (nils N) 25)) w.heap.size R C N 0 M :=
  ⟨(World.rowIs_made w (.slice none 0 0) N 25).congr fun i _ => by simp, fun i hi => absurd hi (Nat.not_lt_zero _), fun i hi => absurd hi (Nat.not_lt_zero _), fun i hi => absurd hi (Nat.not_lt_zero _), ⟨hB, fun i hi => absurd hi (Nat.not_lt_zero _)⟩, Nat.zero_le _⟩

/-- a store into the row that was laid last -/
theorem LMat.setLast {B : Nat} {w : World} {D : Nat} {R C : Nat → Nat} {N c : Nat} {M : Nat → Nat → Int} (h : LMat B w D R C N (c + 1) M) {g cap : Nat} {f : Nat → Int} (hRc : R c = g) (hne : ∀ i, i < c → R i ≠ g) (hO : OwnI w g cap N f) (j : Nat) (x : Int) :
    LMat B (w.setCell ⟨g, j, none⟩ (.int .i64 x)) D R C N (c + 1) (fun a b => if a = c then (if b = j then x else f b) else M a b) := by
  have hap := h.apart c (by omega)
  rw [hRc] at hap
  refine ⟨h.outer.setOther (Ne.symm hap) _, fun i hi => ?_, h.apart, fun i hi => ?_, h.low, h.le⟩
  · by_cases e : i = c
    · subst e
      rw [hRc]
      simpa using (hO.set j x).ints
    · simpa [e] using (h.inner i hi).setOther (by simpa using hne i (by omega)) _
  · have := h.lt i hi
    simpa [World.setCell] using this
theorem LMat.congr {B : Nat} {w : World} {D : Nat} {R C : Nat → Nat} {N c : Nat} {M M' : Nat → Nat → Int} (h : LMat B w D R C N c M) (e : ∀ i j, i < c → j < N → M i j = M' i j) : LMat B w D R C N c M' :=
  ⟨h.outer, fun i hi => by
    have := h.inner i hi
    rwa [show (List.range N).map (M i) = (List.range N).map (M' i) from List.map_congr_left fun j hj => e i j hi (List.mem_range.1 hj)] at this, h.apart, h.lt, h.low, h.le⟩
theorem LMat.weaken {B B' : Nat} {w : World} {D : Nat} {R C : Nat → Nat} {N c : Nat} {M : Nat → Nat → Int} (h : LMat B w D R C N c M) (hB : B' ≤ B) : LMat B' w D R C N c M :=
  ⟨h.outer, h.inner, h.apart, h.lt, ⟨by have := h.low.1; omega, fun i hi => by have := h.low.2 i hi; omega⟩, h.le⟩
theorem OwnI.setOther {w : World} {g cap N : Nat} {h : Nat → Int} (H : OwnI w g cap N h) {p : Addr} (hp : g ≠ p.block) (v : Value) : OwnI (w.setCell p v) g cap N h := by
  obtain ⟨f, h1, h2, h3⟩ := H; exact ⟨f, h1.setOther hp v, h2, h3⟩
theorem row_own {w : World} {g N : Nat} {h : Nat → Int} (H : w.rowIs g 3 N (fun j => .int .i64 (h j))) : OwnI w g N N h := ⟨_, H, Nat.le_refl _, fun _ _ => rfl⟩

end Go.Proofs.Ytakemienlmlgkaa
