/- Contracts of package graph: Turn. -/
import Derived.Test.YtkchmdjninjdeaaGraph
import Derived.Deep.OwnRows
namespace Go.Proofs.Ytkchmdjninjdeaa
open Go.RowKit
set_option linter.unusedVariables false

/-- cell j of arcs that lie in a row -/
def acell (l : List Arc3) (j : Nat) : Int :=
  if j % 3 = 0 then (at3 l (j / 3)).1 else if j % 3 = 1 then (at3 l (j / 3)).2.1 else (at3 l (j / 3)).2.2

/-- the first k arcs of L lie in the row, zeros behind -/
def upto (L : List Arc3) (k j : Nat) : Value := .int .i64 (if j < k * 3 then acell L j else 0)

theorem upto_step {w : World} {b : Nat} {t : TypeId} {n k : Nat} {L : List Arc3} (h : w.rowIs b t (n * 3) (upto L k)) (hk : k < n) (f g c : Int) (ha : at3 L k = (f, g, c)) :
    (((w.setCell ⟨b, k * 3, none⟩ (.int .i64 f)).setCell ⟨b, k * 3 + 1, none⟩ (.int .i64 g)).setCell ⟨b, k * 3 + 2, none⟩ (.int .i64 c)).rowIs b t (n * 3) (upto L (k + 1)) := by
  refine (((h.set _ _).set _ _).set _ _).congr fun j hj => ?_
  by_cases e2 : j = k * 3 + 2
  · subst e2
    have : (k * 3 + 2) / 3 = k := by omega
    simp [upto, acell, this, ha, show k * 3 + 2 < (k + 1) * 3 by omega, show (k * 3 + 2) % 3 = 2 by omega]
  by_cases e1 : j = k * 3 + 1
  · subst e1
    have : (k * 3 + 1) / 3 = k := by omega
    simp [upto, acell, this, ha, show k * 3 + 1 < (k + 1) * 3 by omega, show (k * 3 + 1) % 3 = 1 by omega]
  by_cases e0 : j = k * 3
  · subst e0
    have : (k * 3) / 3 = k := by omega
    simp [upto, acell, this, ha, show k * 3 < (k + 1) * 3 by omega]
  · have : (j < (k + 1) * 3) = (j < k * 3) := by simp; omega
    simp [e0, e1, e2, upto, this]

theorem upto_arcs {w : World} {b : Nat} {t : TypeId} {L : List Arc3} (h : w.rowIs b t (L.length * 3) (upto L L.length)) : ArcsAt w (some ⟨b, 0, none⟩) L := by
  intro i hi
  have q0 : (i * 3) / 3 = i := by omega
  have q1 : (i * 3 + 1) / 3 = i := by omega
  have q2 : (i * 3 + 2) / 3 = i := by omega
  refine ⟨b, 0, rfl, h.lt, ?_, ?_, ?_⟩
  · rw [Nat.zero_add, h.cell (by omega)]
    simp [upto, acell, q0, show i * 3 < L.length * 3 by omega]
  · rw [Nat.zero_add, h.cell (by omega)]
    simp [upto, acell, q1, show i * 3 + 1 < L.length * 3 by omega, show (i * 3 + 1) % 3 = 1 by omega]
  · rw [Nat.zero_add, h.cell (by omega)]
    simp [upto, acell, q2, show i * 3 + 2 < L.length * 3 by omega, show (i * 3 + 2) % 3 = 2 by omega]

/-- what make lays: zeros -/
def zer (k : Nat) : Array Value := madeCells #[.int .i64 0, .int .i64 0, .int .i64 0] k

theorem zer_at (k j : Nat) (h : j < k) : (zer k)[j]? = some (.int .i64 0) := by
  have : (#[Value.int .i64 0, .int .i64 0, .int .i64 0] : Array Value)[j % 3]! = .int .i64 0 := by
    have h3 : j % 3 < 3 := Nat.mod_lt _ (by omega)
    match e : j % 3, h3 with
    | 0, _ => rfl
    | 1, _ => rfl
    | 2, _ => rfl
  simp only [zer, madeCells, Array.getElem?_map]
  rw [Array.getElem?_range, if_pos h]
  simpa using this

theorem zer_row (w : World) (n : Nat) (t : TypeId) (L : List Arc3) : (w.alloc (.cells (zer (n * 3)) t)).rowIs w.heap.size t (n * 3) (upto L 0) := by
  have h := World.rowIs_alloc w (zer (n * 3)) t (upto L 0) (fun i hi => by
    have hi' : i < n * 3 := by simpa [zer, size_madeCells] using hi
    rw [zer_at _ _ hi']; simp [upto])
  simpa [zer, size_madeCells] using h

theorem infoArc : (Try.prog.info? 37).map (fun i => (i.zero, i.size, i.bytes)) = some (some (.agg #[.int .i64 0, .int .i64 0, .int .i64 0]), 3, 24) := by kernel_rfl

theorem make_arcs (n : Nat) (hn : n * 24 ≤ 281474976710656) (w : World) :
    (Instr.makeSlice 25 (.int .i64 (n : Int)) (.int .i64 (n : Int))).run Try.prog w = .ok (.slice (some ⟨w.heap.size, 0, none⟩) n n) (w.alloc (.cells (zer (n * 3)) 37)) := by
  obtain ⟨i, hi, hzz⟩ := Option.map_eq_some_iff.1 infoArc
  simp only [Prod.mk.injEq] at hzz
  obtain ⟨hz, hs, hb⟩ := hzz
  have hr := run_make (P := Try.prog) w 25 37 i _ Try.underlying25 hi hz .i64 .i64 n n (by omega) (Int.le_refl _) (by rw [hb]; omega) (by omega)
  rw [hs] at hr
  simp only [Int.toNat_natCast] at hr
  exact hr

def turnA (a : Arc3) : Arc3 := (a.2.1, a.1, a.2.2)

theorem err_len {n least : Int} {l : List Arc3} (h : graphErr n least l = 0) : l.length ≤ 60 := by
  unfold graphErr at h
  split at h
  · cases h
  · split at h
    · cases h
    · omega

set_option maxHeartbeats 800000 in
theorem Turn_ok (n : Int) (ao : Option Addr) (cap : Nat) (l : List Arc3) (w : World) (hA : ArcsAt w ao l) (he0 : graphErr n (-10000) l = 0) :
    Calls Try.prog 10 #[.agg #[.int .i64 n, .slice ao l.length cap]] w fun e w' => Below w.heap.size w w' ∧
      ∃ b, w.heap.size ≤ b ∧ e = .returned (.tuple #[.agg #[.int .i64 n, .slice (some ⟨b, 0, none⟩) l.length l.length], .int .i64 0]) ∧ ArcsAt w' (some ⟨b, 0, none⟩) (l.map turnA) ∧ ∃ f, w'.rowIs b 37 (l.length * 3) f := by
  have hlen := err_len he0
  have hm : l.length ≤ maxLen := by unfold maxLen; omega
  have hmk := make_arcs l.length (by omega)
  have HE : Hid (graphErr n (-10000) l = 0) := he0
  clear he0
  have hne : ((0 : Int) != 0) = false := rfl
  go_enter Try.func10, Try.ntmps10
  go_wp2_with (go_at_call 15; refine (CheckLong_any _ _ _ _ _ hm ((hA.alloc _).alloc _)).mono ?_; rintro e w1 ⟨rfl, hb1⟩; rw [HE.out]; have hz := hb1.size; simp only [World.size_alloc] at hz hb1; have hz0 : w.heap.size < w1.heap.size := (by omega); have hz1 : w.heap.size + 1 < w1.heap.size := (by omega); obtain ⟨hc, hf⟩ := bcell hb1)
  have hA1 := (hA.alloc (.cells #[.int .i64 n, .slice ao l.length cap] 27)).alloc (.cells #[.int .i64 0, .slice none 0 0] 27)
  have hA1 := hA1.below hb1 (by simp)
  clear hc hf
  go_loopw [21] (fun i wr => ∃ k : Nat, k ≤ l.length ∧ i = .int .i64 k ∧ wr.rowIs w1.heap.size 37 (l.length * 3) (upto (l.map turnA) k) ∧ Below w1.heap.size w1 wr) (fun i _ => l.length - (intOf i).toNat)
  case atStart => exact ⟨0, Nat.zero_le _, rfl, zer_row _ _ _ _, below_one _ _⟩
  case round =>
    obtain ⟨k, hk, rfl, hrow, hB⟩ := hrel
    have hzr := hrow.lt
    by_cases hlt : k < l.length
    · obtain ⟨b, off, rfl, hb, c0, c1, c2⟩ := hA1 k hlt
      have c0 := later hB c0 hb
      have c1 := later hB c1 hb
      have c2 := later hB c2 hb
      have hbz : b < wr.heap.size := by omega
      generalize ha : at3 l k = a at *
      obtain ⟨f, t, c⟩ := a
      have HA : Hid (at3 (l.map turnA) k = (t, f, c)) := by rw [Hid, at3_map _ _ _ hlt, ha]; rfl
      clear ha
      simp only at c0 c1 c2
      have r0 := hrow.cell (i := k * 3) (by omega)
      have r1 := hrow.cell (i := k * 3 + 1) (by omega)
      have r2 := hrow.cell (i := k * 3 + 2) (by omega)
      have f0 := hrow.frozen (k * 3)
      have f1 := hrow.frozen (k * 3 + 1)
      have f2 := hrow.frozen (k * 3 + 2)
      go_wp2
      go_roundw
      case rel =>
        exact ⟨k + 1, by omega, by go_num, (upto_step hrow hlt t f c HA).alloc _, (((hB.setCell (by simp) _).setCell (by simp) _).setCell (by simp) _).alloc (by simp; omega) _⟩
      case measure => simp [intOf]; omega
    · have hkl : k = l.length := by omega
      subst hkl
      have hrow' : wr.rowIs w1.heap.size 37 ((l.map turnA).length * 3) (upto (l.map turnA) (l.map turnA).length) := by rw [List.length_map]; exact hrow
      have hR := upto_arcs hrow'
      have g0 : wr.cell? ⟨w.heap.size, 0, none⟩ = some (.int .i64 n) := later hB (later hb1 ((World.cell?_alloc_past _ _ _ (by simp)).trans (newest #[.int .i64 n, .slice ao l.length cap] 27 0)) (by omega)) (by omega)
      have hr1 : wr.rowIs (w.heap.size + 1) 27 2 (fun j => if j = 0 then .int .i64 0 else .slice none 0 0) := by
        have q := World.rowIs_alloc (w.alloc (.cells #[.int .i64 n, .slice ao l.length cap] 27)) #[.int .i64 0, .slice none 0 0] 27 (fun j => if j = 0 then .int .i64 0 else .slice none 0 0) (fun i hi => by
          match i, hi with
          | 0, _ => rfl
          | 1, _ => rfl)
        rw [World.size_alloc] at q
        exact (q.of_block (hb1.block _ (by omega))).of_block (hB.block _ (by omega))
      have r0 := hr1.cell (i := 0) (by omega)
      have r1 := hr1.cell (i := 1) (by omega)
      have f0 := hr1.frozen 0
      have f1 := hr1.frozen 1
      have HRow : Hid (wr.rowIs w1.heap.size 37 (l.length * 3) (upto (l.map turnA) l.length)) := hrow
      clear hrow hrow' hr1
      go_wp2
      refine bodyPost_ret (v := .tuple #[.agg #[.int .i64 n, .slice (some ⟨w1.heap.size, 0, none⟩) l.length l.length], .int .i64 0]) (by simp [results, Try.results10, go_sem, r0, r1]) rfl ⟨?_, w1.heap.size, by omega, rfl, ?_, _, (HRow.out.setOther (by simp; omega) _).setOther (by simp; omega) _⟩
      · exact ((((below_one w _).alloc (by simp) _).trans ((hb1.mono (by omega)).trans (hB.mono (by omega)))).setCell (by simp) _).setCell (by simp) _
      · exact (hR.setOther (by simp; omega) _).setOther (by simp; omega) _

set_option maxHeartbeats 400000 in
theorem Turn_err (n : Int) (ao : Option Addr) (cap : Nat) (l : List Arc3) (w : World) (hm : l.length ≤ maxLen) (hA : ArcsAt w ao l) (he0 : graphErr n (-10000) l ≠ 0) :
    Calls Try.prog 10 #[.agg #[.int .i64 n, .slice ao l.length cap]] w fun e w' => Below w.heap.size w w' ∧
      e = .returned (.tuple #[.agg #[.int .i64 0, .slice none 0 0], .int .i64 (graphErr n (-10000) l)]) := by
  have hne : (graphErr n (-10000) l != 0) = true := by simpa using he0
  clear he0
  go_enter Try.func10, Try.ntmps10
  go_wp2_with (go_at_call 15; refine (CheckLong_any _ _ _ _ _ hm ((hA.alloc _).alloc _)).mono ?_; rintro e w1 ⟨rfl, hb1⟩; have hz := hb1.size; simp only [World.size_alloc] at hz hb1; have hz0 : w.heap.size < w1.heap.size := (by omega); have hz1 : w.heap.size + 1 < w1.heap.size := (by omega); obtain ⟨hc, hf⟩ := bcell hb1)
  refine bodyPost_ret (v := .tuple #[.agg #[.int .i64 0, .slice none 0 0], .int .i64 (graphErr n (-10000) l)]) (by simp [results, Try.results10, go_sem, hc]) rfl ⟨?_, rfl⟩
  exact ((((below_one w _).alloc (by simp) _).trans (hb1.mono (by omega))).setCell (by simp) _).setCell (by simp) _

end Go.Proofs.Ytkchmdjninjdeaa
