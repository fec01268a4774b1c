/- Package most: a step that is taken or not; a table of steps, laid, read and stored whole. -/
import Derived.Test.YtmneajmfoljflaaOnly
import Derived.Test.YtmneajmfoljflaaNet
import Derived.Test.YtmneajmfoljflaaMostF
import Derived.BigRegion
import Derived.Deep.WholeRow
import Derived.Laws.Rows
namespace Go.Proofs.Ytmneajmfoljflaa
open Go.RowKit
set_option linter.unusedVariables false

/-- steps in memory -/
def StepsAt (w : World) (b : Nat) (G : Nat → Int) : Prop := w.rowIs b 73 48 (fun j => .int .i64 (G j))

theorem StepsAt.put {w : World} {b : Nat} {G : Nat → Int} (h : StepsAt w b G) (v : Nat) (x0 x1 x2 x3 : Int) :
    StepsAt ((((w.setCell ⟨b, v * 4, none⟩ (.int .i64 x0)).setCell ⟨b, v * 4 + 1, none⟩ (.int .i64 x1)).setCell ⟨b, v * 4 + 2, none⟩ (.int .i64 x2)).setCell ⟨b, v * 4 + 3, none⟩ (.int .i64 x3)) b (putS G v x0 x1 x2 x3) := by
  refine ((((World.rowIs.set h (v * 4) _).set (v * 4 + 1) _).set (v * 4 + 2) _).set (v * 4 + 3) _).congr fun j hj => ?_
  unfold putS
  split
  · rfl
  · split
    · rfl
    · split
      · rfl
      · split <;> rfl
theorem StepsAt.drewN {w : World} {b : Nat} {G : Nat → Int} (h : StepsAt w b G) (n : Nat) : StepsAt (w.drewN n) b G := by
  induction n with
  | zero => exact h
  | succ n ih => exact World.rowIs.drew ih

set_option maxHeartbeats 1000000 in
theorem come_no (b v p : Nat) (arc sg room : Int) (G : Nat → Int) (w : World) (hv : v < 12) (hrow : StepsAt w b G) (h : 0 < G (v * 4 + 3) ∨ room = 0) :
    Calls Try.prog 40 #[.pointer (some ⟨b, 0, none⟩), .int .i64 (v : Int), .agg #[.int .i64 (p : Int), .int .i64 arc, .int .i64 sg, .int .i64 room]] w fun e w' => e = .returned (.bool false) ∧ Below w.heap.size w w' := by
  have h0 := World.rowIs.lt hrow
  have c0 := (World.rowIs.alloc hrow (.cells #[.int .i64 (p : Int), .int .i64 arc, .int .i64 sg, .int .i64 room] 71)).cell (i := v * 4 + 3) (by omega)
  generalize G (v * 4 + 3) = x at *
  by_cases h1 : 0 < x
  · have h1' : decide (0 < x) = true := decide_eq_true h1
    go_enter Try.func40, Try.ntmps40
    go_wp2
    go_ret
    exact ⟨rfl, below_one _ _⟩
  · have h1' : decide (0 < x) = false := decide_eq_false h1
    obtain rfl : room = 0 := by rcases h with h | h; exact absurd h h1; exact h
    clear h h1
    go_enter Try.func40, Try.ntmps40
    go_wp2
    go_ret
    exact ⟨rfl, below_one _ _⟩

set_option maxRecDepth 100000 in
set_option maxHeartbeats 4000000 in
theorem come_yes (b v p : Nat) (arc sg room : Int) (G : Nat → Int) (w : World) (hv : v < 12) (hp : p < 12) (hrow : StepsAt w b G) (h1 : ¬ 0 < G (v * 4 + 3)) (h2 : room ≠ 0) :
    Calls Try.prog 40 #[.pointer (some ⟨b, 0, none⟩), .int .i64 (v : Int), .agg #[.int .i64 (p : Int), .int .i64 arc, .int .i64 sg, .int .i64 room]] w fun e w' => e = .returned (.bool true) ∧ Only b w w' ∧
      StepsAt w' b (putS G v p arc sg (min room (G (p * 4 + 3)))) := by
  have h0 := World.rowIs.lt hrow
  have hrow1 := World.rowIs.alloc hrow (.cells #[.int .i64 (p : Int), .int .i64 arc, .int .i64 sg, .int .i64 room] 71)
  have c0 := hrow1.cell (i := v * 4 + 3) (by omega)
  have c1 := hrow1.cell (i := p * 4 + 3) (by omega)
  have HR : Hid (StepsAt w b G) := hrow
  have hne : b ≠ w.heap.size := by omega
  obtain ⟨x, hx⟩ : ∃ x, G (v * 4 + 3) = x := ⟨_, rfl⟩
  obtain ⟨y, hy⟩ : ∃ y, G (p * 4 + 3) = y := ⟨_, rfl⟩
  rw [hx] at c0 h1
  rw [hy] at c1 ⊢
  clear hx hy hrow hrow1
  have h1' : decide (0 < x) = false := decide_eq_false h1
  have h2' : (room == 0) = false := by simpa using h2
  clear h1 h2
  obtain ⟨m, hm⟩ : ∃ m, min room y = m := ⟨_, rfl⟩
  rw [hm]
  go_enter Try.func40, Try.ntmps40
  go_wp2
  go_cut [6] (fun s wx => s = .bool false ∧ wx = ((w.alloc (.cells #[.int .i64 (p : Int), .int .i64 arc, .int .i64 sg, .int .i64 m] 71)).drew))
  case first =>
    rcases Int.lt_trichotomy room y with q | q | q
    · have q2 : ¬ y < room := by omega
      obtain rfl : room = m := by omega
      clear hm
      go_region
      go_wp2
      go_meet
      case rel => exact ⟨rfl, rfl⟩
    · subst q
      obtain rfl : room = m := by rw [Int.min_self] at hm; exact hm
      clear hm
      go_region
      go_wp2
      go_meet
      case rel => exact ⟨rfl, rfl⟩
    · have q2 : ¬ room < y := by omega
      obtain rfl : y = m := by omega
      clear hm
      go_region
      go_wp2
      go_meet
      case rel => exact ⟨rfl, rfl⟩
  case rest =>
    obtain ⟨rfl, hw⟩ := hcut
    have hB : wc.heap[w.heap.size]? = some (.cells #[.int .i64 (p : Int), .int .i64 arc, .int .i64 sg, .int .i64 m] 71 (0, 0)) := by rw [hw]; exact blk_new w _
    have hrw : StepsAt wc b G := by rw [hw]; exact World.rowIs.drew (World.rowIs.alloc HR.out _)
    have HO : Hid (Only b w wc) := by rw [hw]; exact ((Only.refl b w).alloc _).drew
    clear hw c0 c1 hm
    obtain ⟨r0, r1, r2, r3⟩ := blk4 hB
    have c0 := World.rowIs.cell hrw (i := v * 4) (by omega)
    have c1 := World.rowIs.cell hrw (i := v * 4 + 1) (by omega)
    have c2 := World.rowIs.cell hrw (i := v * 4 + 2) (by omega)
    have c3 := World.rowIs.cell hrw (i := v * 4 + 3) (by omega)
    have f0 := World.rowIs.frozen hrw (v * 4)
    have f1 := World.rowIs.frozen hrw (v * 4 + 1)
    have f2 := World.rowIs.frozen hrw (v * 4 + 2)
    have f3 := World.rowIs.frozen hrw (v * 4 + 3)
    have hvi : (v : Int) < 12 := by omega
    have HP : Hid (StepsAt wc b G) := hrw
    clear hrw hB
    go_wp2
    go_region
    go_wp2
    go_ret
    exact ⟨rfl, ((((HO.out.drew.setCell _).setCell _).setCell _).setCell _), StepsAt.put (w := wc.drew) HP.out v p arc sg m⟩

/-! ### A table of steps: laid, read and stored whole -/

theorem infoSteps : (Try.prog.info? 73).map (fun i => (i.zero, i.size)) = some (some (.agg (Array.replicate 48 (.int .i64 0))), 48) := by kernel_rfl

theorem StepsAt.alloc {w : World} {b : Nat} {G : Nat → Int} (h : StepsAt w b G) (o : Obj) : StepsAt (w.alloc o) b G := World.rowIs.alloc h o
theorem StepsAt.only {w w' : World} {b c : Nat} {G : Nat → Int} (h : StepsAt w b G) (hb : b ≠ c) (ho : Only c w w') : StepsAt w' b G := ho.row h hb
theorem StepsAt.grown {w w' : World} {b : Nat} {row : Option Nat} {G : Nat → Int} (h : StepsAt w b G) (hg : w.grownBy w' row) (hne : some b ≠ row) : StepsAt w' b G :=
  World.rowIs.of_block h (hg.block b (World.rowIs.lt h) hne)
theorem StepsAt.set {w : World} {b : Nat} {G : Nat → Int} (h : StepsAt w b G) (i : Nat) (x : Int) : StepsAt (w.setCell ⟨b, i, none⟩ (.int .i64 x)) b (fun j => if j = i then x else G j) :=
  (World.rowIs.set h i _).congr fun j hj => by dsimp only; split <;> rfl

theorem Only.trans {b : Nat} {w w1 w2 : World} (h : Only b w w1) (k : Only b w1 w2) : Only b w w2 :=
  ⟨k.os.trans h.os, k.tape.trans h.tape, k.output.trans h.output, Nat.le_trans h.size k.size, fun i hi hne => (k.block i (Nat.lt_of_lt_of_le hi h.size) hne).trans (h.block i hi hne)⟩
theorem Only.of_below {b : Nat} {w w1 : World} (h : Below w.heap.size w w1) : Only b w w1 := ⟨h.os, h.tape, h.output, h.size, fun i hi _ => h.block i hi⟩
theorem Only.cell {b : Nat} {w w1 : World} (h : Only b w w1) {c o : Nat} {v : Value} (hc : w.cell? ⟨c, o, none⟩ = some v) (hne : c ≠ b) : w1.cell? ⟨c, o, none⟩ = some v :=
  (World.cell?_of_block (w := w) (a := ⟨c, o, none⟩) (h.block c (World.block_lt_of_cell? w _ hc) hne)).trans hc

theorem heap_drewN (w : World) (n : Nat) : (w.drewN n).heap = w.heap := by
  induction n with
  | zero => rfl
  | succ n ih => exact ih

/-- steps as a value -/
def StepsV (c : Array Value) (G : Nat → Int) : Prop := c.size = 48 ∧ ∀ j, j < 48 → c[j]? = some (.int .i64 (G j))
theorem StepsAt.value {w : World} {b : Nat} {G : Nat → Int} (h : StepsAt w b G) : ∃ c, w.heap[b]? = some (.cells c 73 (0, 0)) ∧ StepsV c G := by
  obtain ⟨c, hb, hn, hc⟩ := h
  exact ⟨c, hb, hn, hc⟩
theorem StepsV.one {c : Array Value} {G : Nat → Int} (h : StepsV c G) : c.all (·.oneCell') = true := by
  rw [Array.all_eq_true]
  intro i hi
  have := h.2 i (by have := h.1; omega)
  rw [Array.getElem?_eq_getElem hi] at this
  cases this' : c[i] with
  | int k n => rfl
  | _ => rw [this'] at this; cases this
theorem StepsV.info {c : Array Value} {G : Nat → Int} (h : StepsV c G) : (Try.prog.info? 73).map (·.size) = some c.size := by rw [h.1]; exact (zero_of_info infoSteps).2
theorem StepsV.at_ {w : World} {b : Nat} {c : Array Value} {G : Nat → Int} (h : StepsV c G) (hb : w.heap[b]? = some (.cells c 73 (0, 0))) : StepsAt w b G := ⟨c, hb, h.1, h.2⟩

/-- laid -/
theorem wpList_alloc_steps {ops : Array Oper} {rest : List Oper} {o : Oper} {a : Act} {w : World} {Q : Exit → Act → World → Prop} (hgd : o.guard = none) (ho : o.op = .alloc 73)
    (h : ∀ w', Below w.heap.size w w' → w'.heap.size = w.heap.size + 1 → StepsAt w' w.heap.size (fun _ => 0) → wpList Try.prog ops Q rest (a.put o.dst (.pointer (some ⟨w.heap.size, 0, none⟩))) w') : wpList Try.prog ops Q (o :: rest) a w := by
  refine wpList_plain hgd fun K hK => ?_
  have hz := (zero_of_info (P := Try.prog) infoSteps).1 w
  have hw : StepsAt (w.alloc (.cells (Array.replicate 48 (.int .i64 0)) 73)) w.heap.size (fun _ => 0) :=
    ⟨_, blk_new _ _, by simp, fun i hi => by simp [hi]⟩
  have hk := hK _ _ (h _ (below_one w _) (by simp) hw)
  unfold Oper.wp
  simp only [execOp, ho, Instr.alloc, Sem.run_bind, hz, Result.andThen_ok]
  simpa [newVar, newRow, Value.cells, Result.andThen, Oper.upon_value] using hk

/-- stored whole -/
theorem wpList_store_steps {ops : Array Oper} {rest : List Oper} {o : Oper} {a : Act} {w : World} {Q : Exit → Act → World → Prop} (hgd : o.guard = none) (x y : Operand) (ho : o.op = .store 73 x y)
    (g : Nat) (c : Array Value) (G H : Nat → Int) (hx : a.eval x = .pointer (some ⟨g, 0, none⟩)) (hy : a.eval y = .agg c) (hV : StepsV c G) (hS : StepsAt w g H)
    (h : ∀ w', Only g w w' → StepsAt w' g G → wpList Try.prog ops Q rest (a.put o.dst undef) w') : wpList Try.prog ops Q (o :: rest) a w := by
  obtain ⟨c', hb', hV'⟩ := hS.value
  exact wpList_store_row hgd 73 x y ho g c hx hy 73 c' hb' hV.info (by rw [hV'.1, hV.1]) hV.one (h _ ⟨rfl, rfl, rfl, by simp, fun k _ hne => setRow_other _ _ _ _ hne⟩ (hV.at_ (setRow_heap _ _ c' _ _ _ hb')))
/-- read whole -/
theorem wpList_load_steps {ops : Array Oper} {rest : List Oper} {o : Oper} {a : Act} {w : World} {Q : Exit → Act → World → Prop} (hgd : o.guard = none) (x : Operand) (ho : o.op = .load 73 x)
    (g : Nat) (G : Nat → Int) (hx : a.eval x = .pointer (some ⟨g, 0, none⟩)) (hS : StepsAt w g G)
    (h : ∀ c, StepsV c G → wpList Try.prog ops Q rest (a.put o.dst (.agg c)) w) : wpList Try.prog ops Q (o :: rest) a w := by
  obtain ⟨c, hb, hV⟩ := hS.value
  exact wpList_load_row hgd 73 x ho g hx 73 c (0, 0) _ hb Try.underlying73 rfl hV.info (h c hV)

end Go.Proofs.Ytmneajmfoljflaa
