/- Tables of integers in memory: a row of slices, each leading to a row of its own. -/
import Derived.Test.YtakemienlmlgkaaMk
namespace Go.Proofs.Ytakemienlmlgkaa
open Go.RowKit
set_option linter.unusedVariables false

/-- the first c rows of a table of n columns, N rows in all -/
structure PMat (B : Nat) (w : World) (D : Nat) (R : Nat → Nat) (N n c : Nat) (M : Nat → Nat → Int) : Prop where
  outer : w.rowIs D 25 N (fun i => if i < c then .slice (some ⟨R i, 0, none⟩) n n else .slice none 0 0)
  inner : ∀ i, i < c → w.rowIs (R i) 3 n (fun j => .int .i64 (M i j))
  inj : ∀ i j, i < c → j < c → R i = R j → i = j
  apart : ∀ i, i < c → R i ≠ D
  low : B ≤ D ∧ ∀ i, i < c → B ≤ R i
  le : c ≤ N

theorem PMat.congr {B : Nat} {w : World} {D : Nat} {R : Nat → Nat} {N n c : Nat} {M M' : Nat → Nat → Int} (h : PMat B w D R N n c M) (e : ∀ i j, i < c → j < n → M i j = M' i j) : PMat B w D R N n c M' :=
  ⟨h.outer, fun i hi => (h.inner i hi).congr fun j hj => by rw [e i j hi hj], h.inj, h.apart, h.low, h.le⟩

theorem PMat.alloc {B : Nat} {w : World} {D : Nat} {R : Nat → Nat} {N n c : Nat} {M : Nat → Nat → Int} (h : PMat B w D R N n c M) (o : Obj) : PMat B (w.alloc o) D R N n c M :=
  ⟨h.outer.alloc o, fun i hi => (h.inner i hi).alloc o, h.inj, h.apart, h.low, h.le⟩

theorem PMat.weaken {B C : Nat} {w : World} {D : Nat} {R : Nat → Nat} {N n c : Nat} {M : Nat → Nat → Int} (h : PMat B w D R N n c M) (hC : C ≤ B) : PMat C w D R N n c M :=
  ⟨h.outer, h.inner, h.inj, h.apart, ⟨by have := h.low.1; omega, fun i hi => by have := h.low.2 i hi; omega⟩, h.le⟩

theorem PMat.drew {B : Nat} {w : World} {D : Nat} {R : Nat → Nat} {N n c : Nat} {M : Nat → Nat → Int} (h : PMat B w D R N n c M) : PMat B w.drew D R N n c M :=
  ⟨h.outer.drew, fun i hi => (h.inner i hi).drew, h.inj, h.apart, h.low, h.le⟩

theorem PMat.drewN {B : Nat} {w : World} {D : Nat} {R : Nat → Nat} {N n c : Nat} {M : Nat → Nat → Int} (h : PMat B w D R N n c M) (q : Nat) : PMat B (w.drewN q) D R N n c M := by
  induction q with
  | zero => exact h
  | succ q ih => exact ih.drew

theorem PMat.below {B C : Nat} {w w' : World} {D : Nat} {R : Nat → Nat} {N n c : Nat} {M : Nat → Nat → Int} (h : PMat B w D R N n c M) (hb : Below C w w') (hC : w.heap.size ≤ C) : PMat B w' D R N n c M :=
  ⟨h.outer.of_block (hb.block _ (by have := h.outer.lt; omega)), fun i hi => (h.inner i hi).of_block (hb.block _ (by have := (h.inner i hi).lt; omega)), h.inj, h.apart, h.low, h.le⟩

/-- a number of the table -/
theorem PMat.at {B : Nat} {w : World} {D : Nat} {R : Nat → Nat} {N n c : Nat} {M : Nat → Nat → Int} (h : PMat B w D R N n c M) {i : Nat} (hi : i < c) :
    w.cell? ⟨D, i, none⟩ = some (.slice (some ⟨R i, 0, none⟩) n n) := by
  have := h.outer.cell (i := i) (by have := h.le; omega)
  rwa [if_pos hi] at this

theorem PMat.num {B : Nat} {w : World} {D : Nat} {R : Nat → Nat} {N n c : Nat} {M : Nat → Nat → Int} (h : PMat B w D R N n c M) {i j : Nat} (hi : i < c) (hj : j < n) :
    w.cell? ⟨R i, j, none⟩ = some (.int .i64 (M i j)) := (h.inner i hi).cell hj

/-- a store into the table -/
theorem PMat.set {B : Nat} {w : World} {D : Nat} {R : Nat → Nat} {N n c : Nat} {M : Nat → Nat → Int} (h : PMat B w D R N n c M) {i : Nat} (hi : i < c) (k : Nat) (v : Int) :
    PMat B (w.setCell ⟨R i, k, none⟩ (.int .i64 v)) D R N n c (fun a b => if a = i ∧ b = k then v else M a b) := by
  refine ⟨h.outer.setOther (fun e => h.apart i hi e.symm) _, fun a ha => ?_, h.inj, h.apart, h.low, h.le⟩
  by_cases e : a = i
  · subst e
    refine ((h.inner a ha).set k _).congr fun j hj => ?_
    by_cases ej : j = k <;> simp [ej]
  · refine ((h.inner a ha).setOther (fun e' => e (h.inj a i ha hi e')) _).congr fun j hj => ?_
    simp [e]

/-- a row more -/
theorem PMat.more {B : Nat} {w : World} {D : Nat} {R : Nat → Nat} {N n c : Nat} {M : Nat → Nat → Int} (h : PMat B w D R N n c M) (hc : c < N) {g : Nat} {f : Nat → Int} (hg : w.rowIs g 3 n (fun j => .int .i64 (f j))) (hgB : B ≤ g) (hgD : g ≠ D) (hgR : ∀ i, i < c → g ≠ R i) :
    PMat B (w.setCell ⟨D, c, none⟩ (.slice (some ⟨g, 0, none⟩) n n)) D (fun i => if i = c then g else R i) N n (c + 1) (fun i j => if i = c then f j else M i j) := by
  refine ⟨(h.outer.set c _).congr fun i hi => ?_, fun i hi => ?_, fun i j hi hj e => ?_, fun i hi => ?_, ⟨h.low.1, fun i hi => ?_⟩, by omega⟩
  · by_cases e : i = c
    · subst e; simp
    · by_cases l : i < c
      · simp [e, l, show i < c + 1 by omega]
      · simp [e, l, show ¬ i < c + 1 by omega]
  · by_cases e : i = c
    · subst e; simpa using hg.setOther (by simpa using hgD) _
    · simpa [e] using (h.inner i (by omega)).setOther (by simpa using h.apart i (by omega)) _
  · by_cases e1 : i = c <;> by_cases e2 : j = c
    · omega
    · simp [e1, e2] at e; exact absurd e (hgR j (by omega))
    · simp [e1, e2] at e; exact absurd e.symm (hgR i (by omega))
    · simp [e1, e2] at e; exact h.inj i j (by omega) (by omega) e
  · by_cases e : i = c
    · simpa [e] using hgD
    · simpa [e] using h.apart i (by omega)
  · by_cases e : i = c
    · simpa [e] using hgB
    · simpa [e] using h.low.2 i (by omega)

theorem infoInts : (Try.prog.info? 25).map (fun i => (i.zero, i.size, i.bytes)) = some (some (.slice none 0 0), 1, 24) := by kernel_rfl

def nils (k : Nat) : Array Value := madeCells #[.slice none 0 0] k

theorem make_intss (n : Nat) (hn : n * 24 ≤ 281474976710656) (w : World) :
    (Instr.makeSlice 32 (.int .i64 (n : Int)) (.int .i64 (n : Int))).run Try.prog w = .ok (.slice (some ⟨w.heap.size, 0, none⟩) n n) (w.alloc (.cells (nils n) 25)) :=
  run_make_row' 32 25 (.slice none 0 0) 24 Try.underlying32 infoInts rfl .i64 .i64 n (by omega) (by omega) w

theorem nils_mat (B : Nat) (w : World) (N n : Nat) (R : Nat → Nat) (M : Nat → Nat → Int) (hB : B ≤ w.heap.size) : PMat B (w.alloc (.cells (nils N) 25)) w.heap.size R N n 0 M :=
  ⟨(World.rowIs_made w (.slice none 0 0) N 25).congr fun i _ => by simp, fun i hi => absurd hi (Nat.not_lt_zero _), fun i j hi => absurd hi (Nat.not_lt_zero _), fun i hi => absurd hi (Nat.not_lt_zero _), ⟨hB, fun i hi => absurd hi (Nat.not_lt_zero _)⟩, Nat.zero_le _⟩

end Go.Proofs.Ytakemienlmlgkaa
