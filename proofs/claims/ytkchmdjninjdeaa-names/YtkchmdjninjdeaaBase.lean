/- Words of our own for what lies in memory, over the kit alone: lists of integers and of arcs behind a slice, and how they outlast a call. -/
import Derived.WalkKit
import Derived.WalkSpells
import Derived.WalkLawsBesides
import Derived.Deep.QuietTactic
import Derived.BigQuiet
namespace Go.Proofs.Ytkchmdjninjdeaa
open Go.RowKit
set_option linter.unusedVariables false

abbrev Arc3 := Int × Int × Int

/-- the integers lie where the slice leads -/
def IntsAt (w : World) (ao : Option Addr) (l : List Int) : Prop :=
  ∀ i, i < l.length → ∃ b off, ao = some ⟨b, off, none⟩ ∧ b < w.heap.size ∧ w.cell? ⟨b, off + i, none⟩ = some (.int .i64 (l.getD i 0))

/-- the arcs lie where the slice leads -/
def ArcsAt (w : World) (ao : Option Addr) (l : List Arc3) : Prop :=
  ∀ i, i < l.length → ∃ b off, ao = some ⟨b, off, none⟩ ∧ b < w.heap.size ∧
    w.cell? ⟨b, off + i * 3, none⟩ = some (.int .i64 (l.getD i (0,0,0)).1) ∧
    w.cell? ⟨b, off + i * 3 + 1, none⟩ = some (.int .i64 (l.getD i (0,0,0)).2.1) ∧
    w.cell? ⟨b, off + i * 3 + 2, none⟩ = some (.int .i64 (l.getD i (0,0,0)).2.2)

theorem IntsAt.below {B : Nat} {w w' : World} {ao : Option Addr} {l : List Int} (h : IntsAt w ao l) (hb : Below B w w') (hB : w.heap.size ≤ B) : IntsAt w' ao l := by
  intro i hi
  obtain ⟨b, off, e, hlt, c⟩ := h i hi
  exact ⟨b, off, e, Nat.lt_of_lt_of_le hlt hb.size, (hb.cell (p := ⟨b, off + i, none⟩) (by show b < B; omega)).trans c⟩

theorem ArcsAt.below {B : Nat} {w w' : World} {ao : Option Addr} {l : List Arc3} (h : ArcsAt w ao l) (hb : Below B w w') (hB : w.heap.size ≤ B) : ArcsAt w' ao l := by
  intro i hi
  obtain ⟨b, off, e, hlt, c0, c1, c2⟩ := h i hi
  exact ⟨b, off, e, Nat.lt_of_lt_of_le hlt hb.size, (hb.cell (p := ⟨b, off + i * 3, none⟩) (by show b < B; omega)).trans c0,
    (hb.cell (p := ⟨b, off + i * 3 + 1, none⟩) (by show b < B; omega)).trans c1, (hb.cell (p := ⟨b, off + i * 3 + 2, none⟩) (by show b < B; omega)).trans c2⟩

theorem ArcsAt.alloc {w : World} {ao : Option Addr} {l : List Arc3} (h : ArcsAt w ao l) (o : Obj) : ArcsAt (w.alloc o) ao l :=
  h.below ((Below.refl w.heap.size w).alloc (Nat.le_refl _) o) (Nat.le_refl _)

theorem IntsAt.alloc {w : World} {ao : Option Addr} {l : List Int} (h : IntsAt w ao l) (o : Obj) : IntsAt (w.alloc o) ao l :=
  h.below ((Below.refl w.heap.size w).alloc (Nat.le_refl _) o) (Nat.le_refl _)

theorem IntsAt.drew {w : World} {ao : Option Addr} {l : List Int} (h : IntsAt w ao l) : IntsAt w.drew ao l := h
theorem ArcsAt.drew {w : World} {ao : Option Addr} {l : List Arc3} (h : ArcsAt w ao l) : ArcsAt w.drew ao l := h

theorem below_one (w : World) (o : Obj) : Below w.heap.size w (w.alloc o) := (Below.refl _ _).alloc (Nat.le_refl _) o

/-- a call that lays one block first, then goes on below it -/
theorem below_in {w w' : World} {o : Obj} {B : Nat} (h : Below B (w.alloc o) w') (hB : w.heap.size ≤ B) : Below w.heap.size w w' :=
  (below_one w o).trans (h.mono hB)

theorem bcell {B : Nat} {W w1 : World} (hb : Below B W w1) : (∀ b o, b < B → w1.cell? ⟨b, o, none⟩ = W.cell? ⟨b, o, none⟩) ∧ (∀ b o, b < B → w1.frozen? ⟨b, o, none⟩ = W.frozen? ⟨b, o, none⟩) :=
  ⟨fun b o h => hb.cell (p := ⟨b, o, none⟩) h, fun b o h => hb.frozen (p := ⟨b, o, none⟩) h⟩

/-- a cell below, read later -/
theorem later {B : Nat} {W w1 : World} (hb : Below B W w1) {b o : Nat} {v : Value} (h : W.cell? ⟨b, o, none⟩ = some v) (hlt : b < B) : w1.cell? ⟨b, o, none⟩ = some v :=
  (hb.cell (p := ⟨b, o, none⟩) hlt).trans h

/-- a cell of the block that was laid last -/
theorem newest {w : World} (c : Array Value) (t : TypeId) (i : Nat) : (w.alloc (.cells c t)).cell? ⟨w.heap.size, i, none⟩ = c[i]? :=
  World.cell?_alloc_at c t _ i rfl

theorem ret_int {k : IntKind} {a b : Int} (h : a = b) : Ending.returned (.int k a) = .returned (.int k b) := by rw [h]
theorem ret_bool {a b : Bool} (h : a = b) : Ending.returned (.bool a) = .returned (.bool b) := by rw [h]

theorem take_snoc {α : Type} (l : List α) (d : α) (k : Nat) (h : k < l.length) : l.take (k + 1) = l.take k ++ [l.getD k d] := by
  rw [List.take_succ_eq_append_getElem h]; simp [List.getD, h]

/-- a slice that is written out, by what it comes to -/
theorem wpList_buildSlice {P : Program} (w : World) {ops : Array Oper} {rest : List Oper} {o : Oper} {a : Act} {Q : Exit → Act → World → Prop}
    (hg : o.guard = none) (t : TypeId) (len : Nat) (parts : Array (Nat × Operand)) (hop : o.op = Op.buildSlice t len parts) (v : Value) (w1 : World)
    (hrun : (Instr.buildSlice t len (parts.map fun (i, x) => (i, a.eval x))).run P w = .ok v w1) (hK : wpList P ops Q rest (a.put o.dst v) w1) :
    wpList P ops Q (o :: rest) a w := by
  refine wpList_plain hg fun K hK' => ?_
  unfold Oper.wp
  simp only [execOp, hop]
  simp [hrun, Result.andThen]
  exact hK' _ _ hK

theorem ints_new (w : World) (l : List Int) (t : TypeId) : IntsAt (w.alloc (.cells (l.map (Value.int .i64)).toArray t)) (some ⟨w.heap.size, 0, none⟩) l := by
  intro i hi
  refine ⟨_, _, rfl, by simp, ?_⟩
  rw [newest]
  simp [hi]

end Go.Proofs.Ytkchmdjninjdeaa
