/- A table of steps: laid, read and stored whole. -/
import Derived.Deep.WholeRow
import Derived.Laws.Rows
import Derived.Test.YthlcbhbjngcnkaaMCome
namespace Go.Proofs.Ythlcbhbjngcnkaa
open Go.RowKit
set_option linter.unusedVariables false

theorem infoSteps : (Try.prog.info? 59).map (fun i => (i.zero, i.size)) = some (some (.agg (Array.replicate 48 (.int .i64 0))), 48) := by kernel_rfl

theorem StepsAt.alloc {w : World} {b : Nat} {G : Nat → Int} (h : StepsAt w b G) (o : Obj) : StepsAt (w.alloc o) b G := World.rowIs.alloc h o
theorem StepsAt.only {w w' : World} {b c : Nat} {G : Nat → Int} (h : StepsAt w b G) (hb : b ≠ c) (ho : Only c w w') : StepsAt w' b G := ho.row h hb
theorem StepsAt.grown {w w' : World} {b : Nat} {row : Option Nat} {G : Nat → Int} (h : StepsAt w b G) (hg : w.grownBy w' row) (hne : some b ≠ row) : StepsAt w' b G :=
  World.rowIs.of_block h (hg.block b (World.rowIs.lt h) hne)
theorem StepsAt.set {w : World} {b : Nat} {G : Nat → Int} (h : StepsAt w b G) (i : Nat) (x : Int) : StepsAt (w.setCell ⟨b, i, none⟩ (.int .i64 x)) b (fun j => if j = i then x else G j) :=
  (World.rowIs.set h i _).congr fun j hj => by dsimp only; split <;> rfl

theorem Only.trans {b : Nat} {w w1 w2 : World} (h : Only b w w1) (k : Only b w1 w2) : Only b w w2 :=
  ⟨k.os.trans h.os, k.tape.trans h.tape, k.output.trans h.output, Nat.le_trans h.size k.size, fun i hi hne => (k.block i (Nat.lt_of_lt_of_le hi h.size) hne).trans (h.block i hi hne)⟩
theorem Only.of_below {b : Nat} {w w1 : World} (h : Below w.heap.size w w1) : Only b w w1 := ⟨h.os, h.tape, h.output, h.size, fun i hi _ => h.block i hi⟩
theorem Only.cell {b : Nat} {w w1 : World} (h : Only b w w1) {c o : Nat} {v : Value} (hc : w.cell? ⟨c, o, none⟩ = some v) (hne : c ≠ b) : w1.cell? ⟨c, o, none⟩ = some v :=
  (World.cell?_of_block (w := w) (a := ⟨c, o, none⟩) (h.block c (World.block_lt_of_cell? w _ hc) hne)).trans hc

theorem heap_drewN (w : World) (n : Nat) : (w.drewN n).heap = w.heap := by
  induction n with
  | zero => rfl
  | succ n ih => exact ih

/-- steps as a value -/
def StepsV (c : Array Value) (G : Nat → Int) : Prop := c.size = 48 ∧ ∀ j, j < 48 → c[j]? = some (.int .i64 (G j))
theorem StepsAt.value {w : World} {b : Nat} {G : Nat → Int} (h : StepsAt w b G) : ∃ c, w.heap[b]? = some (.cells c 59 (0, 0)) ∧ StepsV c G := by
  obtain ⟨c, hb, hn, hc⟩ := h
  exact ⟨c, hb, hn, hc⟩
theorem StepsV.one {c : Array Value} {G : Nat → Int} (h : StepsV c G) : c.all (·.oneCell') = true := by
  rw [Array.all_eq_true]
  intro i hi
  have := h.2 i (by have := h.1; omega)
  rw [Array.getElem?_eq_getElem hi] at this
  cases this' : c[i] with
  | int k n => rfl
  | _ => rw [this'] at this; cases this
theorem StepsV.info {c : Array Value} {G : Nat → Int} (h : StepsV c G) : (Try.prog.info? 59).map (·.size) = some c.size := by rw [h.1]; exact (zero_of_info infoSteps).2
theorem StepsV.at_ {w : World} {b : Nat} {c : Array Value} {G : Nat → Int} (h : StepsV c G) (hb : w.heap[b]? = some (.cells c 59 (0, 0))) : StepsAt w b G := ⟨c, hb, h.1, h.2⟩

/-- laid -/
theorem wpList_alloc_steps {ops : Array Oper} {rest : List Oper} {o : Oper} {a : Act} {w : World} {Q : Exit → Act → World → Prop} (hgd : o.guard = none) (ho : o.op = .alloc 59)
    (h : ∀ w', Below w.heap.size w w' → w'.heap.size = w.heap.size + 1 → StepsAt w' w.heap.size (fun _ => 0) → wpList Try.prog ops Q rest (a.put o.dst (.pointer (some ⟨w.heap.size, 0, none⟩))) w') : wpList Try.prog ops Q (o :: rest) a w := by
  refine wpList_plain hgd fun K hK => ?_
  have hz := (zero_of_info (P := Try.prog) infoSteps).1 w
  have hw : StepsAt (w.alloc (.cells (Array.replicate 48 (.int .i64 0)) 59)) w.heap.size (fun _ => 0) :=
    ⟨_, blk_new _ _, by simp, fun i hi => by simp [hi]⟩
  have hk := hK _ _ (h _ (below_one w _) (by simp) hw)
  unfold Oper.wp
  simp only [execOp, ho, Instr.alloc, Sem.run_bind, hz, Result.andThen_ok]
  simpa [newVar, newRow, Value.cells, Result.andThen, Oper.upon_value] using hk

/-- stored whole -/
theorem wpList_store_steps {ops : Array Oper} {rest : List Oper} {o : Oper} {a : Act} {w : World} {Q : Exit → Act → World → Prop} (hgd : o.guard = none) (x y : Operand) (ho : o.op = .store 59 x y)
    (g : Nat) (c : Array Value) (G H : Nat → Int) (hx : a.eval x = .pointer (some ⟨g, 0, none⟩)) (hy : a.eval y = .agg c) (hV : StepsV c G) (hS : StepsAt w g H)
    (h : ∀ w', Only g w w' → StepsAt w' g G → wpList Try.prog ops Q rest (a.put o.dst undef) w') : wpList Try.prog ops Q (o :: rest) a w := by
  obtain ⟨c', hb', hV'⟩ := hS.value
  exact wpList_store_row hgd 59 x y ho g c hx hy 59 c' hb' hV.info (by rw [hV'.1, hV.1]) hV.one (h _ ⟨rfl, rfl, rfl, by simp, fun k _ hne => setRow_other _ _ _ _ hne⟩ (hV.at_ (setRow_heap _ _ c' _ _ _ hb')))
/-- read whole -/
theorem wpList_load_steps {ops : Array Oper} {rest : List Oper} {o : Oper} {a : Act} {w : World} {Q : Exit → Act → World → Prop} (hgd : o.guard = none) (x : Operand) (ho : o.op = .load 59 x)
    (g : Nat) (G : Nat → Int) (hx : a.eval x = .pointer (some ⟨g, 0, none⟩)) (hS : StepsAt w g G)
    (h : ∀ c, StepsV c G → wpList Try.prog ops Q rest (a.put o.dst (.agg c)) w) : wpList Try.prog ops Q (o :: rest) a w := by
  obtain ⟨c, hb, hV⟩ := hS.value
  exact wpList_load_row hgd 59 x ho g hx 59 c (0, 0) _ hb Try.underlying59 rfl hV.info (h c hV)

end Go.Proofs.Ythlcbhbjngcnkaa
