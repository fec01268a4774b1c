/- What make lays: rows of integers and of arcs. -/
import Derived.Test.YtmneajmfoljflaaRows
import Derived.Test.YtmneajmfoljflaaBase
namespace Go.Proofs.Ytmneajmfoljflaa
open Go.RowKit
set_option linter.unusedVariables false

/-- cell j of arcs that lie in a row -/
def acell (l : List Arc3) (j : Nat) : Int :=
  if j % 3 = 0 then (at3 l (j / 3)).1 else if j % 3 = 1 then (at3 l (j / 3)).2.1 else (at3 l (j / 3)).2.2

/-- the first k arcs of L lie in the row, zeros behind -/
def upto (L : List Arc3) (k j : Nat) : Value := .int .i64 (if j < k * 3 then acell L j else 0)

theorem upto_step {w : World} {b : Nat} {t : TypeId} {n k : Nat} {L : List Arc3} (h : w.rowIs b t (n * 3) (upto L k)) (hk : k < n) (f g c : Int) (ha : at3 L k = (f, g, c)) :
    (((w.setCell ⟨b, k * 3, none⟩ (.int .i64 f)).setCell ⟨b, k * 3 + 1, none⟩ (.int .i64 g)).setCell ⟨b, k * 3 + 2, none⟩ (.int .i64 c)).rowIs b t (n * 3) (upto L (k + 1)) := by
  refine (((h.set _ _).set _ _).set _ _).congr fun j hj => ?_
  by_cases e2 : j = k * 3 + 2
  · subst e2
    have : (k * 3 + 2) / 3 = k := by omega
    simp [upto, acell, this, ha, show k * 3 + 2 < (k + 1) * 3 by omega, show (k * 3 + 2) % 3 = 2 by omega]
  by_cases e1 : j = k * 3 + 1
  · subst e1
    have : (k * 3 + 1) / 3 = k := by omega
    simp [upto, acell, this, ha, show k * 3 + 1 < (k + 1) * 3 by omega, show (k * 3 + 1) % 3 = 1 by omega]
  by_cases e0 : j = k * 3
  · subst e0
    have : (k * 3) / 3 = k := by omega
    simp [upto, acell, this, ha, show k * 3 < (k + 1) * 3 by omega]
  · have : (j < (k + 1) * 3) = (j < k * 3) := by simp; omega
    simp [e0, e1, e2, upto, this]

theorem upto_arcs {w : World} {b : Nat} {t : TypeId} {L : List Arc3} (h : w.rowIs b t (L.length * 3) (upto L L.length)) : ArcsAt w (some ⟨b, 0, none⟩) L := by
  intro i hi
  have q0 : (i * 3) / 3 = i := by omega
  have q1 : (i * 3 + 1) / 3 = i := by omega
  have q2 : (i * 3 + 2) / 3 = i := by omega
  refine ⟨b, 0, rfl, h.lt, ?_, ?_, ?_⟩
  · rw [Nat.zero_add, h.cell (by omega)]
    simp [upto, acell, q0, show i * 3 < L.length * 3 by omega]
  · rw [Nat.zero_add, h.cell (by omega)]
    simp [upto, acell, q1, show i * 3 + 1 < L.length * 3 by omega, show (i * 3 + 1) % 3 = 1 by omega]
  · rw [Nat.zero_add, h.cell (by omega)]
    simp [upto, acell, q2, show i * 3 + 2 < L.length * 3 by omega, show (i * 3 + 2) % 3 = 2 by omega]

/-- what make lays: zeros -/
def zer (k : Nat) : Array Value := madeCells #[.int .i64 0, .int .i64 0, .int .i64 0] k

theorem zer_at (k j : Nat) (h : j < k) : (zer k)[j]? = some (.int .i64 0) := by
  have : (#[Value.int .i64 0, .int .i64 0, .int .i64 0] : Array Value)[j % 3]! = .int .i64 0 := by
    have h3 : j % 3 < 3 := Nat.mod_lt _ (by omega)
    match e : j % 3, h3 with
    | 0, _ => rfl
    | 1, _ => rfl
    | 2, _ => rfl
  simp only [zer, madeCells, Array.getElem?_map]
  rw [Array.getElem?_range, if_pos h]
  simpa using this

theorem zer_row (w : World) (n : Nat) (t : TypeId) (L : List Arc3) : (w.alloc (.cells (zer (n * 3)) t)).rowIs w.heap.size t (n * 3) (upto L 0) := by
  have h := World.rowIs_alloc w (zer (n * 3)) t (upto L 0) (fun i hi => by
    have hi' : i < n * 3 := by simpa [zer, size_madeCells] using hi
    rw [zer_at _ _ hi']; simp [upto])
  simpa [zer, size_madeCells] using h

theorem infoArc : (Try.prog.info? 47).map (fun i => (i.zero, i.size, i.bytes)) = some (some (.agg #[.int .i64 0, .int .i64 0, .int .i64 0]), 3, 24) := by kernel_rfl

theorem make_arcs (n : Nat) (hn : n * 24 ≤ 281474976710656) (w : World) :
    (Instr.makeSlice 41 (.int .i64 (n : Int)) (.int .i64 (n : Int))).run Try.prog w = .ok (.slice (some ⟨w.heap.size, 0, none⟩) n n) (w.alloc (.cells (zer (n * 3)) 47)) := by
  obtain ⟨i, hi, hzz⟩ := Option.map_eq_some_iff.1 infoArc
  simp only [Prod.mk.injEq] at hzz
  obtain ⟨hz, hs, hb⟩ := hzz
  have hr := run_make (P := Try.prog) w 41 47 i _ Try.underlying41 hi hz .i64 .i64 n n (by omega) (Int.le_refl _) (by rw [hb]; omega) (by omega)
  rw [hs] at hr
  simp only [Int.toNat_natCast] at hr
  exact hr

theorem row_ints {w : World} {b : Nat} {t : TypeId} {N : Nat} {f : Nat → Int} (h : w.rowIs b t N (fun j => .int .i64 (f j))) : IntsAt w (some ⟨b, 0, none⟩) ((List.range N).map f) := by
  intro i hi
  have hi' : i < N := by simpa using hi
  refine ⟨b, 0, rfl, h.lt, ?_⟩
  rw [Nat.zero_add, h.cell hi', ati_lt _ _ hi]
  simp

theorem infoInt : (Try.prog.info? 3).map (fun i => (i.zero, i.size, i.bytes)) = some (some (.int .i64 0), 1, 8) := by kernel_rfl

def zeri (k : Nat) : Array Value := madeCells #[.int .i64 0] k

theorem make_ints (n : Nat) (hn : n * 8 ≤ 281474976710656) (w : World) :
    (Instr.makeSlice 23 (.int .i64 (n : Int)) (.int .i64 (n : Int))).run Try.prog w = .ok (.slice (some ⟨w.heap.size, 0, none⟩) n n) (w.alloc (.cells (zeri n) 3)) :=
  run_make_row' 23 3 (.int .i64 0) 8 Try.underlying23 infoInt rfl .i64 .i64 n (by omega) (by omega) w

theorem zeri_row (w : World) (n : Nat) (t : TypeId) : (w.alloc (.cells (zeri n) t)).rowIs w.heap.size t n (fun _ => .int .i64 0) := World.rowIs_made w (.int .i64 0) n t

end Go.Proofs.Ytmneajmfoljflaa
