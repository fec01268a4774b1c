/- Package most: a step that is taken or not. -/
import Derived.Test.YthlcbhbjngcnkaaOnly
import Derived.Test.YthlcbhbjngcnkaaNet
import Derived.Test.YthlcbhbjngcnkaaMostF
import Derived.BigRegion
namespace Go.Proofs.Ythlcbhbjngcnkaa
open Go.RowKit
set_option linter.unusedVariables false

/-- steps in memory -/
def StepsAt (w : World) (b : Nat) (G : Nat → Int) : Prop := w.rowIs b 59 48 (fun j => .int .i64 (G j))

theorem StepsAt.put {w : World} {b : Nat} {G : Nat → Int} (h : StepsAt w b G) (v : Nat) (x0 x1 x2 x3 : Int) :
    StepsAt ((((w.setCell ⟨b, v * 4, none⟩ (.int .i64 x0)).setCell ⟨b, v * 4 + 1, none⟩ (.int .i64 x1)).setCell ⟨b, v * 4 + 2, none⟩ (.int .i64 x2)).setCell ⟨b, v * 4 + 3, none⟩ (.int .i64 x3)) b (putS G v x0 x1 x2 x3) := by
  refine ((((World.rowIs.set h (v * 4) _).set (v * 4 + 1) _).set (v * 4 + 2) _).set (v * 4 + 3) _).congr fun j hj => ?_
  unfold putS
  split
  · rfl
  · split
    · rfl
    · split
      · rfl
      · split <;> rfl
theorem StepsAt.drewN {w : World} {b : Nat} {G : Nat → Int} (h : StepsAt w b G) (n : Nat) : StepsAt (w.drewN n) b G := by
  induction n with
  | zero => exact h
  | succ n ih => exact World.rowIs.drew ih

set_option maxHeartbeats 1000000 in
theorem come_no (b v p : Nat) (arc sg room : Int) (G : Nat → Int) (w : World) (hv : v < 12) (hrow : StepsAt w b G) (h : 0 < G (v * 4 + 3) ∨ room = 0) :
    Calls Try.prog 41 #[.pointer (some ⟨b, 0, none⟩), .int .i64 (v : Int), .agg #[.int .i64 (p : Int), .int .i64 arc, .int .i64 sg, .int .i64 room]] w fun e w' => e = .returned (.bool false) ∧ Below w.heap.size w w' := by
  have h0 := World.rowIs.lt hrow
  have c0 := (World.rowIs.alloc hrow (.cells #[.int .i64 (p : Int), .int .i64 arc, .int .i64 sg, .int .i64 room] 57)).cell (i := v * 4 + 3) (by omega)
  generalize G (v * 4 + 3) = x at *
  by_cases h1 : 0 < x
  · have h1' : decide (0 < x) = true := decide_eq_true h1
    go_enter Try.func41, Try.ntmps41
    go_wp2
    go_ret
    exact ⟨rfl, below_one _ _⟩
  · have h1' : decide (0 < x) = false := decide_eq_false h1
    obtain rfl : room = 0 := by rcases h with h | h; exact absurd h h1; exact h
    clear h h1
    go_enter Try.func41, Try.ntmps41
    go_wp2
    go_ret
    exact ⟨rfl, below_one _ _⟩

set_option maxRecDepth 100000 in
set_option maxHeartbeats 4000000 in
theorem come_yes (b v p : Nat) (arc sg room : Int) (G : Nat → Int) (w : World) (hv : v < 12) (hp : p < 12) (hrow : StepsAt w b G) (h1 : ¬ 0 < G (v * 4 + 3)) (h2 : room ≠ 0) :
    Calls Try.prog 41 #[.pointer (some ⟨b, 0, none⟩), .int .i64 (v : Int), .agg #[.int .i64 (p : Int), .int .i64 arc, .int .i64 sg, .int .i64 room]] w fun e w' => e = .returned (.bool true) ∧ Only b w w' ∧
      StepsAt w' b (putS G v p arc sg (min room (G (p * 4 + 3)))) := by
  have h0 := World.rowIs.lt hrow
  have hrow1 := World.rowIs.alloc hrow (.cells #[.int .i64 (p : Int), .int .i64 arc, .int .i64 sg, .int .i64 room] 57)
  have c0 := hrow1.cell (i := v * 4 + 3) (by omega)
  have c1 := hrow1.cell (i := p * 4 + 3) (by omega)
  have HR : Hid (StepsAt w b G) := hrow
  have hne : b ≠ w.heap.size := by omega
  obtain ⟨x, hx⟩ : ∃ x, G (v * 4 + 3) = x := ⟨_, rfl⟩
  obtain ⟨y, hy⟩ : ∃ y, G (p * 4 + 3) = y := ⟨_, rfl⟩
  rw [hx] at c0 h1
  rw [hy] at c1 ⊢
  clear hx hy hrow hrow1
  have h1' : decide (0 < x) = false := decide_eq_false h1
  have h2' : (room == 0) = false := by simpa using h2
  clear h1 h2
  obtain ⟨m, hm⟩ : ∃ m, min room y = m := ⟨_, rfl⟩
  rw [hm]
  go_enter Try.func41, Try.ntmps41
  go_wp2
  go_cut [6] (fun s wx => s = .bool false ∧ wx = ((w.alloc (.cells #[.int .i64 (p : Int), .int .i64 arc, .int .i64 sg, .int .i64 m] 57)).drew))
  case first =>
    rcases Int.lt_trichotomy room y with q | q | q
    · have q2 : ¬ y < room := by omega
      obtain rfl : room = m := by omega
      clear hm
      go_region
      go_wp2
      go_meet
      case rel => exact ⟨rfl, rfl⟩
    · subst q
      obtain rfl : room = m := by rw [Int.min_self] at hm; exact hm
      clear hm
      go_region
      go_wp2
      go_meet
      case rel => exact ⟨rfl, rfl⟩
    · have q2 : ¬ room < y := by omega
      obtain rfl : y = m := by omega
      clear hm
      go_region
      go_wp2
      go_meet
      case rel => exact ⟨rfl, rfl⟩
  case rest =>
    obtain ⟨rfl, hw⟩ := hcut
    have hB : wc.heap[w.heap.size]? = some (.cells #[.int .i64 (p : Int), .int .i64 arc, .int .i64 sg, .int .i64 m] 57 (0, 0)) := by rw [hw]; exact blk_new w _
    have hrw : StepsAt wc b G := by rw [hw]; exact World.rowIs.drew (World.rowIs.alloc HR.out _)
    have HO : Hid (Only b w wc) := by rw [hw]; exact ((Only.refl b w).alloc _).drew
    clear hw c0 c1 hm
    obtain ⟨r0, r1, r2, r3⟩ := blk4 hB
    have c0 := World.rowIs.cell hrw (i := v * 4) (by omega)
    have c1 := World.rowIs.cell hrw (i := v * 4 + 1) (by omega)
    have c2 := World.rowIs.cell hrw (i := v * 4 + 2) (by omega)
    have c3 := World.rowIs.cell hrw (i := v * 4 + 3) (by omega)
    have f0 := World.rowIs.frozen hrw (v * 4)
    have f1 := World.rowIs.frozen hrw (v * 4 + 1)
    have f2 := World.rowIs.frozen hrw (v * 4 + 2)
    have f3 := World.rowIs.frozen hrw (v * 4 + 3)
    have hvi : (v : Int) < 12 := by omega
    have HP : Hid (StepsAt wc b G) := hrw
    clear hrw hB
    go_wp2
    go_region
    go_wp2
    go_ret
    exact ⟨rfl, ((((HO.out.drew.setCell _).setCell _).setCell _).setCell _), StepsAt.put (w := wc.drew) HP.out v p arc sg m⟩

end Go.Proofs.Ythlcbhbjngcnkaa
