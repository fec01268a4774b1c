/- Tables of truths in memory: a row of slices, each leading to a row of its own. -/
import Derived.Test.YtakemienlmlgkaaMat
import Derived.Test.YtakemienlmlgkaaMkB
namespace Go.Proofs.Ytakemienlmlgkaa
open Go.RowKit
set_option linter.unusedVariables false

/-- the first c rows of a table of n columns, N rows in all -/
structure PMatB (w : World) (D : Nat) (R : Nat → Nat) (N n c : Nat) (M : Nat → Nat → Bool) : Prop where
  outer : w.rowIs D 26 N (fun i => if i < c then .slice (some ⟨R i, 0, none⟩) n n else .slice none 0 0)
  inner : ∀ i, i < c → w.rowIs (R i) 4 n (fun j => .bool (M i j))
  apart : ∀ i, i < c → R i ≠ D
  le : c ≤ N

theorem PMatB.alloc {w : World} {D : Nat} {R : Nat → Nat} {N n c : Nat} {M : Nat → Nat → Bool} (h : PMatB w D R N n c M) (o : Obj) : PMatB (w.alloc o) D R N n c M :=
  ⟨h.outer.alloc o, fun i hi => (h.inner i hi).alloc o, h.apart, h.le⟩
theorem PMatB.below {C : Nat} {w w' : World} {D : Nat} {R : Nat → Nat} {N n c : Nat} {M : Nat → Nat → Bool} (h : PMatB w D R N n c M) (hb : Below C w w') (hC : w.heap.size ≤ C) : PMatB w' D R N n c M :=
  ⟨h.outer.of_block (hb.block _ (by have := h.outer.lt; omega)), fun i hi => (h.inner i hi).of_block (hb.block _ (by have := (h.inner i hi).lt; omega)), h.apart, h.le⟩
theorem PMatB.drewN {w : World} {D : Nat} {R : Nat → Nat} {N n c : Nat} {M : Nat → Nat → Bool} (h : PMatB w D R N n c M) (q : Nat) : PMatB (w.drewN q) D R N n c M :=
  h.below (below_drewN (Below.refl _ _) q) (Nat.le_refl _)
theorem PMatB.at {w : World} {D : Nat} {R : Nat → Nat} {N n c : Nat} {M : Nat → Nat → Bool} (h : PMatB w D R N n c M) {i : Nat} (hi : i < c) :
    w.cell? ⟨D, i, none⟩ = some (.slice (some ⟨R i, 0, none⟩) n n) := by
  have := h.outer.cell (i := i) (by have := h.le; omega)
  rwa [if_pos hi] at this
theorem PMatB.num {w : World} {D : Nat} {R : Nat → Nat} {N n c : Nat} {M : Nat → Nat → Bool} (h : PMatB w D R N n c M) {i j : Nat} (hi : i < c) (hj : j < n) :
    w.cell? ⟨R i, j, none⟩ = some (.bool (M i j)) := (h.inner i hi).cell hj
/-- a store elsewhere -/
theorem PMatB.setElse {w : World} {D : Nat} {R : Nat → Nat} {N n c : Nat} {M : Nat → Nat → Bool} (h : PMatB w D R N n c M) {p : Addr} (h1 : D ≠ p.block) (h2 : ∀ i, i < c → R i ≠ p.block) (v : Value) : PMatB (w.setCell p v) D R N n c M :=
  ⟨h.outer.setOther h1 _, fun i hi => (h.inner i hi).setOther (h2 i hi) _, h.apart, h.le⟩
theorem PMat.setElse {B : Nat} {w : World} {D : Nat} {R : Nat → Nat} {N n c : Nat} {M : Nat → Nat → Int} (h : PMat B w D R N n c M) {p : Addr} (h1 : D ≠ p.block) (h2 : ∀ i, i < c → R i ≠ p.block) (v : Value) : PMat B (w.setCell p v) D R N n c M :=
  ⟨h.outer.setOther h1 _, fun i hi => (h.inner i hi).setOther (h2 i hi) _, h.inj, h.apart, h.low, h.le⟩
/-- a row more -/
theorem PMatB.more {w : World} {D : Nat} {R : Nat → Nat} {N n c : Nat} {M : Nat → Nat → Bool} (h : PMatB w D R N n c M) (hc : c < N) {g : Nat} {f : Nat → Bool} (hg : w.rowIs g 4 n (fun j => .bool (f j))) (hgD : g ≠ D) :
    PMatB (w.setCell ⟨D, c, none⟩ (.slice (some ⟨g, 0, none⟩) n n)) D (fun i => if i = c then g else R i) N n (c + 1) (fun i j => if i = c then f j else M i j) := by
  refine ⟨(h.outer.set c _).congr fun i hi => ?_, fun i hi => ?_, fun i hi => ?_, by omega⟩
  · by_cases e : i = c
    · subst e; simp
    · by_cases l : i < c
      · simp [e, l, show i < c + 1 by omega]
      · simp [e, l, show ¬ i < c + 1 by omega]
  · by_cases e : i = c
    · subst e; simpa using hg.setOther (by simpa using hgD) _
    · simpa [e] using (h.inner i (by omega)).setOther (by simpa using h.apart i (by omega)) _
  · by_cases e : i = c
    · simpa [e] using hgD
    · simpa [e] using h.apart i (by omega)

theorem infoBools : (Try.prog.info? 26).map (fun i => (i.zero, i.size, i.bytes)) = some (some (.slice none 0 0), 1, 24) := by kernel_rfl

theorem make_boolss (n : Nat) (hn : n * 24 ≤ 281474976710656) (w : World) :
    (Instr.makeSlice 33 (.int .i64 (n : Int)) (.int .i64 (n : Int))).run Try.prog w = .ok (.slice (some ⟨w.heap.size, 0, none⟩) n n) (w.alloc (.cells (nils n) 26)) :=
  run_make_row' 33 26 (.slice none 0 0) 24 Try.underlying33 infoBools rfl .i64 .i64 n (by omega) (by omega) w

theorem nils_matB (w : World) (N n : Nat) (R : Nat → Nat) (M : Nat → Nat → Bool) : PMatB (w.alloc (.cells (nils N) 26)) w.heap.size R N n 0 M :=
  ⟨(World.rowIs_made w (.slice none 0 0) N 26).congr fun i _ => by simp, fun i hi => absurd hi (Nat.not_lt_zero _), fun i hi => absurd hi (Nat.not_lt_zero _), Nat.zero_le _⟩

end Go.Proofs.Ytakemienlmlgkaa
