/- What make lays: a row of truths. -/
import Derived.Test.YtakemienlmlgkaaMk
namespace Go.Proofs.Ytakemienlmlgkaa
open Go.RowKit
set_option linter.unusedVariables false

theorem infoBool : (Try.prog.info? 4).map (fun i => (i.zero, i.size, i.bytes)) = some (some (.bool false), 1, 1) := by kernel_rfl

def zerb (k : Nat) : Array Value := madeCells #[.bool false] k

theorem make_bools (n : Nat) (hn : n * 8 ≤ 281474976710656) (w : World) :
    (Instr.makeSlice 26 (.int .i64 (n : Int)) (.int .i64 (n : Int))).run Try.prog w = .ok (.slice (some ⟨w.heap.size, 0, none⟩) n n) (w.alloc (.cells (zerb n) 4)) :=
  run_make_row' 26 4 (.bool false) 1 Try.underlying26 infoBool rfl .i64 .i64 n (by omega) (by omega) w

theorem zerb_row (w : World) (n : Nat) (t : TypeId) : (w.alloc (.cells (zerb n) t)).rowIs w.heap.size t n (fun _ => .bool false) := World.rowIs_made w (.bool false) n t

theorem zerb_at (w : World) (k j : Nat) (h : j < k) : (zerb k)[j]? = some (.bool false) := by
  have := (zerb_row w k 0).cell (i := j) h
  rwa [newest] at this

theorem zerb_one (w : World) (N s : Nat) (t : TypeId) : (w.alloc (.cells ((zerb N).setIfInBounds s (.bool true)) t)).rowIs w.heap.size t N (fun v => .bool (decide (v = s))) := by
  have hs : (zerb N).size = N := by simp [zerb, size_madeCells]
  have q := World.rowIs_alloc w ((zerb N).setIfInBounds s (.bool true)) t (fun v => .bool (decide (v = s))) (fun i hi => by
    have hi' : i < N := by simpa [hs] using hi
    rw [Array.getElem?_setIfInBounds]
    by_cases e : s = i
    · subst e; simp [hs, hi']
    · rw [if_neg e, zerb_at w N i hi']; simp [show ¬ i = s from fun h => e h.symm])
  simpa [hs] using q

end Go.Proofs.Ytakemienlmlgkaa
