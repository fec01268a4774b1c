/- Words of our own for what lies in memory: a slice of slices of integers. -/
import Derived.Test.YtamckjbddnocpaaBase
namespace Go.Proofs.Ytamckjbddnocpaa
open Go.RowKit
set_option linter.unusedVariables false

/-- a slice of integers: where it leads, its room, what it holds -/
structure RowV where
  ao : Option Addr
  cap : Nat
  l : List Int

def RowV.val (r : RowV) : Value := .slice r.ao r.l.length r.cap

/-- it lies there -/
structure RowV.At (w : World) (r : RowV) : Prop where
  ints : IntsAt w r.ao r.l
  le : r.l.length ≤ r.cap
  max : r.cap ≤ maxLen
  nil : r.ao = none → r.l.length = 0 ∧ r.cap = 0

/-- row k of a list of rows -/
def atr (l : List RowV) (k : Nat) : RowV := l.getD k ⟨none, 0, []⟩
theorem atr_lt (l : List RowV) (k : Nat) (h : k < l.length) : atr l k = l[k] := by simp [atr, h]
theorem atr_mem (l : List RowV) (k : Nat) (h : k < l.length) : atr l k ∈ l := by rw [atr_lt l k h]; exact List.getElem_mem h

/-- the rows lie where the slice leads -/
def RowsAt (w : World) (ao : Option Addr) (l : List RowV) : Prop :=
  ∀ i, i < l.length → ∃ b off, ao = some ⟨b, off, none⟩ ∧ b < w.heap.size ∧ w.cell? ⟨b, off + i, none⟩ = some (atr l i).val ∧ (atr l i).At w

theorem RowV.At.below {B : Nat} {w w' : World} {r : RowV} (h : r.At w) (hb : Below B w w') (hB : w.heap.size ≤ B) : r.At w' := ⟨h.ints.below hb hB, h.le, h.max, h.nil⟩

theorem RowsAt.below {B : Nat} {w w' : World} {ao : Option Addr} {l : List RowV} (h : RowsAt w ao l) (hb : Below B w w') (hB : w.heap.size ≤ B) : RowsAt w' ao l := by
  intro i hi
  obtain ⟨b, off, e, hlt, c, r⟩ := h i hi
  exact ⟨b, off, e, Nat.lt_of_lt_of_le hlt hb.size, (hb.cell (p := ⟨b, off + i, none⟩) (by show b < B; omega)).trans c, r.below hb hB⟩
theorem RowsAt.alloc {w : World} {ao : Option Addr} {l : List RowV} (h : RowsAt w ao l) (o : Obj) : RowsAt (w.alloc o) ao l :=
  h.below ((Below.refl w.heap.size w).alloc (Nat.le_refl _) o) (Nat.le_refl _)
theorem RowsAt.drewN {w : World} {ao : Option Addr} {l : List RowV} (h : RowsAt w ao l) (n : Nat) : RowsAt (w.drewN n) ao l :=
  h.below (below_drewN (Below.refl w.heap.size w) n) (Nat.le_refl _)

/-- an argument that is a table -/
structure RowsIn (w : World) (ao : Option Addr) (cap : Nat) (l : List RowV) : Prop where
  rows : RowsAt w ao l
  le : l.length ≤ cap
  max : cap ≤ maxLen
  nil : ao = none → l.length = 0 ∧ cap = 0

theorem RowsIn.below {B : Nat} {w w' : World} {ao : Option Addr} {cap : Nat} {l : List RowV} (h : RowsIn w ao cap l) (hb : Below B w w') (hB : w.heap.size ≤ B) : RowsIn w' ao cap l := ⟨h.rows.below hb hB, h.le, h.max, h.nil⟩
theorem RowsIn.alloc {w : World} {ao : Option Addr} {cap : Nat} {l : List RowV} (h : RowsIn w ao cap l) (o : Obj) : RowsIn (w.alloc o) ao cap l := ⟨h.rows.alloc o, h.le, h.max, h.nil⟩

end Go.Proofs.Ytamckjbddnocpaa
