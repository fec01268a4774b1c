/- Words of our own for what lies in memory, over the kit alone: lists of integers and of arcs behind a slice, and how they outlast a call. -/
import Derived.WalkKit
import Derived.WalkSpells
import Derived.WalkLawsBesides
import Derived.Deep.QuietTactic
import Derived.BigQuiet
import Derived.Deep.OwnRows
import Derived.Deep.RegionWith
import Derived.Deep.DeepCutAuto
namespace Go.Proofs.Ytmneajmfoljflaa
open Go.RowKit
set_option linter.unusedVariables false

abbrev Arc3 := Int × Int × Int

/-- an arc turned round -/
def turnA (a : Arc3) : Arc3 := (a.2.1, a.1, a.2.2)

/-- element k of a list of arcs; of integers -/
def at3 (l : List Arc3) (k : Nat) : Arc3 := l.getD k (0,0,0)
def ati (l : List Int) (k : Nat) : Int := l.getD k 0

theorem at3_lt (l : List Arc3) (k : Nat) (h : k < l.length) : at3 l k = l[k] := by simp [at3, h]
theorem ati_lt (l : List Int) (k : Nat) (h : k < l.length) : ati l k = l[k] := by simp [ati, h]
theorem at3_mem (l : List Arc3) (k : Nat) (h : k < l.length) : at3 l k ∈ l := by rw [at3_lt l k h]; exact List.getElem_mem h
theorem ati_mem (l : List Int) (k : Nat) (h : k < l.length) : ati l k ∈ l := by rw [ati_lt l k h]; exact List.getElem_mem h
theorem at3_map (f : Arc3 → Arc3) (l : List Arc3) (k : Nat) (h : k < l.length) : at3 (l.map f) k = f (at3 l k) := by simp [at3, h]

/-- the integers lie where the slice leads -/
def IntsAt (w : World) (ao : Option Addr) (l : List Int) : Prop :=
  ∀ i, i < l.length → ∃ b off, ao = some ⟨b, off, none⟩ ∧ b < w.heap.size ∧ w.cell? ⟨b, off + i, none⟩ = some (.int .i64 (ati l i))

/-- the arcs lie where the slice leads -/
def ArcsAt (w : World) (ao : Option Addr) (l : List Arc3) : Prop :=
  ∀ i, i < l.length → ∃ b off, ao = some ⟨b, off, none⟩ ∧ b < w.heap.size ∧
    w.cell? ⟨b, off + i * 3, none⟩ = some (.int .i64 (at3 l i).1) ∧
    w.cell? ⟨b, off + i * 3 + 1, none⟩ = some (.int .i64 (at3 l i).2.1) ∧
    w.cell? ⟨b, off + i * 3 + 2, none⟩ = some (.int .i64 (at3 l i).2.2)

theorem IntsAt.below {B : Nat} {w w' : World} {ao : Option Addr} {l : List Int} (h : IntsAt w ao l) (hb : Below B w w') (hB : w.heap.size ≤ B) : IntsAt w' ao l := by
  intro i hi
  obtain ⟨b, off, e, hlt, c⟩ := h i hi
  exact ⟨b, off, e, Nat.lt_of_lt_of_le hlt hb.size, (hb.cell (p := ⟨b, off + i, none⟩) (by show b < B; omega)).trans c⟩

theorem ArcsAt.below {B : Nat} {w w' : World} {ao : Option Addr} {l : List Arc3} (h : ArcsAt w ao l) (hb : Below B w w') (hB : w.heap.size ≤ B) : ArcsAt w' ao l := by
  intro i hi
  obtain ⟨b, off, e, hlt, c0, c1, c2⟩ := h i hi
  exact ⟨b, off, e, Nat.lt_of_lt_of_le hlt hb.size, (hb.cell (p := ⟨b, off + i * 3, none⟩) (by show b < B; omega)).trans c0,
    (hb.cell (p := ⟨b, off + i * 3 + 1, none⟩) (by show b < B; omega)).trans c1, (hb.cell (p := ⟨b, off + i * 3 + 2, none⟩) (by show b < B; omega)).trans c2⟩

theorem ArcsAt.alloc {w : World} {ao : Option Addr} {l : List Arc3} (h : ArcsAt w ao l) (o : Obj) : ArcsAt (w.alloc o) ao l :=
  h.below ((Below.refl w.heap.size w).alloc (Nat.le_refl _) o) (Nat.le_refl _)

theorem IntsAt.alloc {w : World} {ao : Option Addr} {l : List Int} (h : IntsAt w ao l) (o : Obj) : IntsAt (w.alloc o) ao l :=
  h.below ((Below.refl w.heap.size w).alloc (Nat.le_refl _) o) (Nat.le_refl _)

theorem IntsAt.drew {w : World} {ao : Option Addr} {l : List Int} (h : IntsAt w ao l) : IntsAt w.drew ao l := h
theorem ArcsAt.drew {w : World} {ao : Option Addr} {l : List Arc3} (h : ArcsAt w ao l) : ArcsAt w.drew ao l := h

theorem IntsAt.drewN {w : World} {ao : Option Addr} {l : List Int} (h : IntsAt w ao l) (n : Nat) : IntsAt (w.drewN n) ao l := by
  induction n with
  | zero => exact h
  | succ n ih => exact ih.drew
theorem ArcsAt.drewN {w : World} {ao : Option Addr} {l : List Arc3} (h : ArcsAt w ao l) (n : Nat) : ArcsAt (w.drewN n) ao l := by
  induction n with
  | zero => exact h
  | succ n ih => exact ih.drew
theorem below_drewN {B : Nat} {a w : World} (h : Below B a w) (n : Nat) : Below B a (w.drewN n) := by
  induction n with
  | zero => exact h
  | succ n ih => exact ih.drew

theorem ArcsAt.setOther {w : World} {b0 o0 : Nat} {l : List Arc3} (h : ArcsAt w (some ⟨b0, o0, none⟩) l) {p : Addr} (hp : b0 ≠ p.block) (v : Value) : ArcsAt (w.setCell p v) (some ⟨b0, o0, none⟩) l := by
  intro i hi
  obtain ⟨b, off, e, hlt, c0, c1, c2⟩ := h i hi
  cases e
  have hb : ∀ o, (w.setCell p v).cell? ⟨b0, o, none⟩ = w.cell? ⟨b0, o, none⟩ := fun o => World.cell?_of_block (w := w) (a := ⟨b0, o, none⟩) (Below.heap_setCell w p v b0 hp)
  exact ⟨b0, o0, rfl, by simpa [World.setCell] using hlt, (hb _).trans c0, (hb _).trans c1, (hb _).trans c2⟩

theorem IntsAt.setOther {w : World} {b0 o0 : Nat} {l : List Int} (h : IntsAt w (some ⟨b0, o0, none⟩) l) {p : Addr} (hp : b0 ≠ p.block) (v : Value) : IntsAt (w.setCell p v) (some ⟨b0, o0, none⟩) l := by
  intro i hi
  obtain ⟨b, off, e, hlt, c0⟩ := h i hi
  cases e
  have hb : ∀ o, (w.setCell p v).cell? ⟨b0, o, none⟩ = w.cell? ⟨b0, o, none⟩ := fun o => World.cell?_of_block (w := w) (a := ⟨b0, o, none⟩) (Below.heap_setCell w p v b0 hp)
  exact ⟨b0, o0, rfl, by simpa [World.setCell] using hlt, (hb _).trans c0⟩

theorem ArcsAt.setElse {w : World} {ao : Option Addr} {l : List Arc3} (h : ArcsAt w ao l) {p : Addr} (hp : ∀ b off, ao = some ⟨b, off, none⟩ → b ≠ p.block) (v : Value) : ArcsAt (w.setCell p v) ao l := by
  intro i hi
  obtain ⟨b, off, rfl, _⟩ := h i hi
  exact (h.setOther (hp b off rfl) v) i hi

theorem IntsAt.setElse {w : World} {ao : Option Addr} {l : List Int} (h : IntsAt w ao l) {p : Addr} (hp : ∀ b off, ao = some ⟨b, off, none⟩ → b ≠ p.block) (v : Value) : IntsAt (w.setCell p v) ao l := by
  intro i hi
  obtain ⟨b, off, rfl, _⟩ := h i hi
  exact (h.setOther (hp b off rfl) v) i hi

theorem below_one (w : World) (o : Obj) : Below w.heap.size w (w.alloc o) := (Below.refl _ _).alloc (Nat.le_refl _) o

/-- a call that lays one block first, then goes on below it -/
theorem below_in {w w' : World} {o : Obj} {B : Nat} (h : Below B (w.alloc o) w') (hB : w.heap.size ≤ B) : Below w.heap.size w w' :=
  (below_one w o).trans (h.mono hB)

theorem bcell {B : Nat} {W w1 : World} (hb : Below B W w1) : (∀ b o, b < B → w1.cell? ⟨b, o, none⟩ = W.cell? ⟨b, o, none⟩) ∧ (∀ b o, b < B → w1.frozen? ⟨b, o, none⟩ = W.frozen? ⟨b, o, none⟩) :=
  ⟨fun b o h => hb.cell (p := ⟨b, o, none⟩) h, fun b o h => hb.frozen (p := ⟨b, o, none⟩) h⟩

/-- a cell below, read later -/
theorem later {B : Nat} {W w1 : World} (hb : Below B W w1) {b o : Nat} {v : Value} (h : W.cell? ⟨b, o, none⟩ = some v) (hlt : b < B) : w1.cell? ⟨b, o, none⟩ = some v :=
  (hb.cell (p := ⟨b, o, none⟩) hlt).trans h

/-- a cell of the block that was laid last -/
theorem newest {w : World} (c : Array Value) (t : TypeId) (i : Nat) : (w.alloc (.cells c t)).cell? ⟨w.heap.size, i, none⟩ = c[i]? :=
  World.cell?_alloc_at c t _ i rfl

/-- a struct of two cells in a block of its own: what the walk asks of it -/
theorem blk2 {w : World} {b : Nat} {x y : Value} {t : TypeId} (h : w.heap[b]? = some (.cells #[x, y] t (0, 0))) :
    w.cell? ⟨b, 0, none⟩ = some x ∧ w.cell? ⟨b, 1, none⟩ = some y ∧ w.frozen? ⟨b, 0, none⟩ = false ∧ w.frozen? ⟨b, 1, none⟩ = false := by
  have r : w.rowIs b t 2 (fun j => if j = 0 then x else y) := ⟨_, h, rfl, fun i hi => by
    match i, hi with
    | 0, _ => rfl
    | 1, _ => rfl⟩
  exact ⟨r.cell (i := 0) (by omega), r.cell (i := 1) (by omega), r.frozen 0, r.frozen 1⟩

theorem blk_new (w : World) (o : Obj) : (w.alloc o).heap[w.heap.size]? = some o := Go.Deep.blk_alloc_new w o
theorem blk_old {w : World} {b : Nat} {o' : Obj} (h : w.heap[b]? = some o') (o : Obj) : (w.alloc o).heap[b]? = some o' := by
  rw [Go.Deep.blk_alloc_lt _ _ _ (Array.getElem?_eq_some_iff.1 h).1]; exact h
theorem blk_below {B : Nat} {w w1 : World} {b : Nat} {o' : Obj} (hb : Below B w w1) (h : w.heap[b]? = some o') (hlt : b < B) : w1.heap[b]? = some o' := (hb.block b hlt).trans h

theorem ret_int {k : IntKind} {a b : Int} (h : a = b) : Ending.returned (.int k a) = .returned (.int k b) := by rw [h]
theorem ret_bool {a b : Bool} (h : a = b) : Ending.returned (.bool a) = .returned (.bool b) := by rw [h]

theorem take_snoc3 (l : List Arc3) (k : Nat) (h : k < l.length) : l.take (k + 1) = l.take k ++ [at3 l k] := by
  rw [List.take_succ_eq_append_getElem h, at3_lt l k h]
theorem take_snoci (l : List Int) (k : Nat) (h : k < l.length) : l.take (k + 1) = l.take k ++ [ati l k] := by
  rw [List.take_succ_eq_append_getElem h, ati_lt l k h]

/-- a slice that is written out, by what it comes to -/
theorem wpList_buildSlice {P : Program} (w : World) {ops : Array Oper} {rest : List Oper} {o : Oper} {a : Act} {Q : Exit → Act → World → Prop}
    (hg : o.guard = none) (t : TypeId) (len : Nat) (parts : Array (Nat × Operand)) (hop : o.op = Op.buildSlice t len parts) (v : Value) (w1 : World)
    (hrun : (Instr.buildSlice t len (parts.map fun (i, x) => (i, a.eval x))).run P w = .ok v w1) (hK : wpList P ops Q rest (a.put o.dst v) w1) :
    wpList P ops Q (o :: rest) a w := by
  refine wpList_plain hg fun K hK' => ?_
  unfold Oper.wp
  simp only [execOp, hop]
  simp [hrun, Result.andThen]
  exact hK' _ _ hK

theorem ints_new (w : World) (l : List Int) (t : TypeId) : IntsAt (w.alloc (.cells (l.map (Value.int .i64)).toArray t)) (some ⟨w.heap.size, 0, none⟩) l := by
  intro i hi
  refine ⟨_, _, rfl, by simp, ?_⟩
  rw [newest]
  simp [hi, ati_lt]

end Go.Proofs.Ytmneajmfoljflaa
