/- Package level: a round in memory; a step taken or not. -/
import Derived.Test.YtlfhnhfhaifchaaOnly
import Derived.Test.YtlfhnhfhaifchaaNet
import Derived.Test.YtlfhnhfhaifchaaOwnIs
import Derived.Test.YtlfhnhfhaifchaaLvS
import Derived.BigRegion
import Derived.Deep.WholeRow
import Derived.Laws.Rows
namespace Go.Proofs.Ytlfhnhfhaifchaa
open Go.RowKit
set_option linter.unusedVariables false

/-- a round: a net, what goes along each arc, how far each node is -/
def roundV (n s t : Int) (ao : Option Addr) (len cap gf fl cf : Nat) (E : Nat → Int) (j : Nat) : Value :=
  if j = 0 then .int .i64 n else if j = 1 then .int .i64 s else if j = 2 then .int .i64 t else if j = 3 then .slice ao len cap else if j = 4 then .slice (some ⟨gf, 0, none⟩) fl cf else .int .i64 (E (j - 5))
def RoundAt (w : World) (R : Nat) (n s t : Int) (ao : Option Addr) (len cap gf fl cf : Nat) (E : Nat → Int) : Prop := w.rowIs R 45 17 (roundV n s t ao len cap gf fl cf E)

theorem RoundAt.lt {w : World} {R : Nat} {n s t : Int} {ao : Option Addr} {len cap gf fl cf : Nat} {E : Nat → Int} (h : RoundAt w R n s t ao len cap gf fl cf E) : R < w.heap.size := World.rowIs.lt h
theorem RoundAt.cells {w : World} {R : Nat} {n s t : Int} {ao : Option Addr} {len cap gf fl cf : Nat} {E : Nat → Int} (h : RoundAt w R n s t ao len cap gf fl cf E) :
    w.cell? ⟨R, 0, none⟩ = some (.int .i64 n) ∧ w.cell? ⟨R, 1, none⟩ = some (.int .i64 s) ∧ w.cell? ⟨R, 2, none⟩ = some (.int .i64 t) ∧ w.cell? ⟨R, 3, none⟩ = some (.slice ao len cap) ∧ w.cell? ⟨R, 4, none⟩ = some (.slice (some ⟨gf, 0, none⟩) fl cf) :=
  ⟨World.rowIs.cell h (i := 0) (by omega), World.rowIs.cell h (i := 1) (by omega), World.rowIs.cell h (i := 2) (by omega), World.rowIs.cell h (i := 3) (by omega), World.rowIs.cell h (i := 4) (by omega)⟩
theorem roundV_far {n s t : Int} {ao : Option Addr} {len cap gf fl cf : Nat} {E : Nat → Int} (v : Nat) : roundV n s t ao len cap gf fl cf E (5 + v) = .int .i64 (E v) := by
  unfold roundV
  rw [if_neg (by omega), if_neg (by omega), if_neg (by omega), if_neg (by omega), if_neg (by omega), Nat.add_sub_cancel_left]
theorem RoundAt.far {w : World} {R : Nat} {n s t : Int} {ao : Option Addr} {len cap gf fl cf : Nat} {E : Nat → Int} (h : RoundAt w R n s t ao len cap gf fl cf E) {v : Nat} (hv : v < 12) : w.cell? ⟨R, 5 + v, none⟩ = some (.int .i64 (E v)) := by
  rw [World.rowIs.cell h (i := 5 + v) (by omega), roundV_far]
theorem RoundAt.frozen {w : World} {R : Nat} {n s t : Int} {ao : Option Addr} {len cap gf fl cf : Nat} {E : Nat → Int} (h : RoundAt w R n s t ao len cap gf fl cf E) (j : Nat) : w.frozen? ⟨R, j, none⟩ = false := World.rowIs.frozen h j
theorem RoundAt.set {w : World} {R : Nat} {n s t : Int} {ao : Option Addr} {len cap gf fl cf : Nat} {E : Nat → Int} (h : RoundAt w R n s t ao len cap gf fl cf E) (v : Nat) (x : Int) :
    RoundAt (w.setCell ⟨R, 5 + v, none⟩ (.int .i64 x)) R n s t ao len cap gf fl cf (fun u => if u = v then x else E u) := by
  refine (World.rowIs.set h (5 + v) _).congr fun j hj => ?_
  by_cases e : j = 5 + v
  · subst e
    rw [if_pos rfl, roundV_far, if_pos rfl]
  · rw [if_neg e]
    unfold roundV
    by_cases c : j < 5
    · rcases (by omega : j = 0 ∨ j = 1 ∨ j = 2 ∨ j = 3 ∨ j = 4) with rfl | rfl | rfl | rfl | rfl <;> rfl
    · rw [if_neg (by omega), if_neg (by omega), if_neg (by omega), if_neg (by omega), if_neg (by omega), if_neg (by omega), if_neg (by omega), if_neg (by omega), if_neg (by omega), if_neg (by omega)]
      show _ = Value.int .i64 (if j - 5 = v then x else E (j - 5))
      rw [if_neg (by omega)]
theorem RoundAt.congr {w : World} {R : Nat} {n s t : Int} {ao : Option Addr} {len cap gf fl cf : Nat} {E E' : Nat → Int} (h : RoundAt w R n s t ao len cap gf fl cf E) (he : ∀ v, v < 12 → E v = E' v) : RoundAt w R n s t ao len cap gf fl cf E' :=
  World.rowIs.congr h fun j hj => by
    unfold roundV
    by_cases c : j < 5
    · rcases (by omega : j = 0 ∨ j = 1 ∨ j = 2 ∨ j = 3 ∨ j = 4) with rfl | rfl | rfl | rfl | rfl <;> rfl
    · rw [he (j - 5) (by omega)]
theorem RoundAt.drew {w : World} {R : Nat} {n s t : Int} {ao : Option Addr} {len cap gf fl cf : Nat} {E : Nat → Int} (h : RoundAt w R n s t ao len cap gf fl cf E) : RoundAt w.drew R n s t ao len cap gf fl cf E := World.rowIs.drew h
theorem RoundAt.drewN {w : World} {R : Nat} {n s t : Int} {ao : Option Addr} {len cap gf fl cf : Nat} {E : Nat → Int} (h : RoundAt w R n s t ao len cap gf fl cf E) (m : Nat) : RoundAt (w.drewN m) R n s t ao len cap gf fl cf E := by
  induction m with
  | zero => exact h
  | succ m ih => exact World.rowIs.drew ih
theorem RoundAt.alloc {w : World} {R : Nat} {n s t : Int} {ao : Option Addr} {len cap gf fl cf : Nat} {E : Nat → Int} (h : RoundAt w R n s t ao len cap gf fl cf E) (o : Obj) : RoundAt (w.alloc o) R n s t ao len cap gf fl cf E := World.rowIs.alloc h o
theorem RoundAt.only {w w' : World} {b R : Nat} {n s t : Int} {ao : Option Addr} {len cap gf fl cf : Nat} {E : Nat → Int} (h : RoundAt w R n s t ao len cap gf fl cf E) (ho : Only b w w') (hne : R ≠ b) : RoundAt w' R n s t ao len cap gf fl cf E := ho.row h hne
theorem RoundAt.below {w w' : World} {B R : Nat} {n s t : Int} {ao : Option Addr} {len cap gf fl cf : Nat} {E : Nat → Int} (h : RoundAt w R n s t ao len cap gf fl cf E) (hb : Below B w w') (hR : R < B) : RoundAt w' R n s t ao len cap gf fl cf E := World.rowIs.of_block h (hb.block _ hR)

theorem only_cell {b : Nat} {w w1 : World} (h : Only b w w1) {c o : Nat} {v : Value} (hc : w.cell? ⟨c, o, none⟩ = some v) (hne : c ≠ b) : w1.cell? ⟨c, o, none⟩ = some v :=
  (World.cell?_of_block (w := w) (a := ⟨c, o, none⟩) (h.block c (World.block_lt_of_cell? w _ hc) hne)).trans hc
theorem only_trans {b : Nat} {w w1 w2 : World} (h : Only b w w1) (k : Only b w1 w2) : Only b w w2 :=
  ⟨k.os.trans h.os, k.tape.trans h.tape, k.output.trans h.output, Nat.le_trans h.size k.size, fun i hi hne => (k.block i (Nat.lt_of_lt_of_le hi h.size) hne).trans (h.block i hi hne)⟩
theorem only_drewN {b : Nat} {w w1 : World} (h : Only b w w1) (n : Nat) : Only b w (w1.drewN n) := by
  induction n with
  | zero => exact h
  | succ n ih => exact ih.drew

set_option maxHeartbeats 4000000 in
theorem lcome_any (R p q : Nat) (d n s t : Int) (ao : Option Addr) (len cap gf fl cf : Nat) (E : Nat → Int) (w : World) (hp : p < 12) (hq : q < 12) (hd : 0 ≤ d ∧ d ≤ 12) (hR : RoundAt w R n s t ao len cap gf fl cf E) :
    Calls Try.prog 33 #[.pointer (some ⟨R, 0, none⟩), .int .i64 (p : Int), .int .i64 (q : Int), .int .i64 d] w fun e w' => e = .returned (.tuple #[]) ∧ Only R w w' ∧ RoundAt w' R n s t ao len cap gf fl cf (comeD E p q d) := by
  have h0 := hR.lt
  have c0 := hR.far hp
  have c1 := hR.far hq
  have f1 := hR.frozen (5 + q)
  have HR : Hid (RoundAt w R n s t ao len cap gf fl cf E) := hR
  have hpi : (p : Int) < 12 := by omega
  have hqi : (q : Int) < 12 := by omega
  have v1 : IntKind.i64.wrap (d + 1) = d + 1 := by rw [IntKind.wrap_i64]; omega
  by_cases e1 : E p = d
  · have e1' : (E p == d) = true := by simpa using e1
    by_cases e2 : E q = -1
    · have e2' : (E q == -1) = true := by simpa using e2
      have HY : Hid (∀ v, comeD E p q d v = if v = q then d + 1 else E v) := comeD_yes ⟨e1, e2⟩
      clear hR e1 e2
      generalize E p = x at *
      generalize E q = y at *
      go_enter Try.func33, Try.ntmps33
      go_wp2
      go_end0
      exact ⟨rfl, (Only.refl R w).setCell _, (HR.out.set q (d + 1)).congr fun v _ => (HY.out v).symm⟩
    · have e2' : (E q == -1) = false := by simpa using e2
      have HY : Hid (comeD E p q d = E) := comeD_no fun c => e2 c.2
      clear hR e1 e2
      rw [HY.out]
      generalize E p = x at *
      generalize E q = y at *
      go_enter Try.func33, Try.ntmps33
      go_wp2
      go_end0
      exact ⟨rfl, Only.refl R w, HR.out⟩
  · have e1' : (E p == d) = false := by simpa using e1
    have HY : Hid (comeD E p q d = E) := comeD_no fun c => e1 c.1
    clear hR e1
    rw [HY.out]
    generalize E p = x at *
    generalize E q = y at *
    go_enter Try.func33, Try.ntmps33
    go_wp2
    go_end0
    exact ⟨rfl, Only.refl R w, HR.out⟩

end Go.Proofs.Ytlfhnhfhaifchaa
