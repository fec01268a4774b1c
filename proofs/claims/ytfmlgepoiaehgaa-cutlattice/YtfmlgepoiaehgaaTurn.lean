/- Contracts of package graph: Turn. -/
import Derived.Test.YtfmlgepoiaehgaaGErr
import Derived.Test.YtfmlgepoiaehgaaMk
namespace Go.Proofs.Ytfmlgepoiaehgaa
open Go.RowKit
set_option linter.unusedVariables false

set_option maxHeartbeats 800000 in
theorem Turn_ok (n : Int) (ao : Option Addr) (cap : Nat) (l : List Arc3) (w : World) (hA : ArcsAt w ao l) (he0 : graphErr n (-10000) l = 0) :
    Calls Try.prog 25 #[.agg #[.int .i64 n, .slice ao l.length cap]] w fun e w' => Below w.heap.size w w' ∧
      ∃ b, w.heap.size ≤ b ∧ e = .returned (.tuple #[.agg #[.int .i64 n, .slice (some ⟨b, 0, none⟩) l.length l.length], .int .i64 0]) ∧ ArcsAt w' (some ⟨b, 0, none⟩) (l.map turnA) ∧ ∃ f, w'.rowIs b 47 (l.length * 3) f := by
  have hlen := err_len he0
  have hm : l.length ≤ maxLen := by unfold maxLen; omega
  have hmk := make_arcs l.length (by omega)
  have HE : Hid (graphErr n (-10000) l = 0) := he0
  clear he0
  have hne : ((0 : Int) != 0) = false := rfl
  go_enter Try.func25, Try.ntmps25
  go_wp2_with (go_at_call 34; refine (CheckLong_any _ _ _ _ _ hm ((hA.alloc _).alloc _)).mono ?_; rintro e w1 ⟨rfl, hb1⟩; rw [HE.out]; have hz := hb1.size; simp only [World.size_alloc] at hz hb1; have hz0 : w.heap.size < w1.heap.size := (by omega); have hz1 : w.heap.size + 1 < w1.heap.size := (by omega); obtain ⟨hc, hf⟩ := bcell hb1)
  have hA1 := (hA.alloc (.cells #[.int .i64 n, .slice ao l.length cap] 52)).alloc (.cells #[.int .i64 0, .slice none 0 0] 52)
  have hA1 := hA1.below hb1 (by simp)
  clear hc hf
  go_loopw [21] (fun i wr => ∃ k : Nat, k ≤ l.length ∧ i = .int .i64 k ∧ wr.rowIs w1.heap.size 47 (l.length * 3) (upto (l.map turnA) k) ∧ Below w1.heap.size w1 wr) (fun i _ => l.length - (intOf i).toNat)
  case atStart => exact ⟨0, Nat.zero_le _, rfl, zer_row _ _ _ _, below_one _ _⟩
  case round =>
    obtain ⟨k, hk, rfl, hrow, hB⟩ := hrel
    have hzr := hrow.lt
    by_cases hlt : k < l.length
    · obtain ⟨b, off, rfl, hb, c0, c1, c2⟩ := hA1 k hlt
      have c0 := later hB c0 hb
      have c1 := later hB c1 hb
      have c2 := later hB c2 hb
      have hbz : b < wr.heap.size := by omega
      generalize ha : at3 l k = a at *
      obtain ⟨f, t, c⟩ := a
      have HA : Hid (at3 (l.map turnA) k = (t, f, c)) := by rw [Hid, at3_map _ _ _ hlt, ha]; rfl
      clear ha
      simp only at c0 c1 c2
      have r0 := hrow.cell (i := k * 3) (by omega)
      have r1 := hrow.cell (i := k * 3 + 1) (by omega)
      have r2 := hrow.cell (i := k * 3 + 2) (by omega)
      have f0 := hrow.frozen (k * 3)
      have f1 := hrow.frozen (k * 3 + 1)
      have f2 := hrow.frozen (k * 3 + 2)
      go_wp2
      go_roundw
      case rel =>
        exact ⟨k + 1, by omega, by go_num, (upto_step hrow hlt t f c HA).alloc _, (((hB.setCell (by simp) _).setCell (by simp) _).setCell (by simp) _).alloc (by simp; omega) _⟩
      case measure => simp [intOf]; omega
    · have hkl : k = l.length := by omega
      subst hkl
      have hrow' : wr.rowIs w1.heap.size 47 ((l.map turnA).length * 3) (upto (l.map turnA) (l.map turnA).length) := by rw [List.length_map]; exact hrow
      have hR := upto_arcs hrow'
      have g0 : wr.cell? ⟨w.heap.size, 0, none⟩ = some (.int .i64 n) := later hB (later hb1 ((World.cell?_alloc_past _ _ _ (by simp)).trans (newest #[.int .i64 n, .slice ao l.length cap] 52 0)) (by omega)) (by omega)
      have hr1 : wr.rowIs (w.heap.size + 1) 52 2 (fun j => if j = 0 then .int .i64 0 else .slice none 0 0) := by
        have q := World.rowIs_alloc (w.alloc (.cells #[.int .i64 n, .slice ao l.length cap] 52)) #[.int .i64 0, .slice none 0 0] 52 (fun j => if j = 0 then .int .i64 0 else .slice none 0 0) (fun i hi => by
          match i, hi with
          | 0, _ => rfl
          | 1, _ => rfl)
        rw [World.size_alloc] at q
        exact (q.of_block (hb1.block _ (by omega))).of_block (hB.block _ (by omega))
      have r0 := hr1.cell (i := 0) (by omega)
      have r1 := hr1.cell (i := 1) (by omega)
      have f0 := hr1.frozen 0
      have f1 := hr1.frozen 1
      have HRow : Hid (wr.rowIs w1.heap.size 47 (l.length * 3) (upto (l.map turnA) l.length)) := hrow
      clear hrow hrow' hr1
      go_wp2
      refine bodyPost_ret (v := .tuple #[.agg #[.int .i64 n, .slice (some ⟨w1.heap.size, 0, none⟩) l.length l.length], .int .i64 0]) (by simp [results, Try.results25, go_sem, r0, r1]) rfl ⟨?_, w1.heap.size, by omega, rfl, ?_, _, (HRow.out.setOther (by simp; omega) _).setOther (by simp; omega) _⟩
      · exact ((((below_one w _).alloc (by simp) _).trans ((hb1.mono (by omega)).trans (hB.mono (by omega)))).setCell (by simp) _).setCell (by simp) _
      · exact (hR.setOther (by simp; omega) _).setOther (by simp; omega) _

set_option maxHeartbeats 400000 in
theorem Turn_err (n : Int) (ao : Option Addr) (cap : Nat) (l : List Arc3) (w : World) (hm : l.length ≤ maxLen) (hA : ArcsAt w ao l) (he0 : graphErr n (-10000) l ≠ 0) :
    Calls Try.prog 25 #[.agg #[.int .i64 n, .slice ao l.length cap]] w fun e w' => Below w.heap.size w w' ∧
      e = .returned (.tuple #[.agg #[.int .i64 0, .slice none 0 0], .int .i64 (graphErr n (-10000) l)]) := by
  have hne : (graphErr n (-10000) l != 0) = true := by simpa using he0
  clear he0
  go_enter Try.func25, Try.ntmps25
  go_wp2_with (go_at_call 34; refine (CheckLong_any _ _ _ _ _ hm ((hA.alloc _).alloc _)).mono ?_; rintro e w1 ⟨rfl, hb1⟩; have hz := hb1.size; simp only [World.size_alloc] at hz hb1; have hz0 : w.heap.size < w1.heap.size := (by omega); have hz1 : w.heap.size + 1 < w1.heap.size := (by omega); obtain ⟨hc, hf⟩ := bcell hb1)
  refine bodyPost_ret (v := .tuple #[.agg #[.int .i64 0, .slice none 0 0], .int .i64 (graphErr n (-10000) l)]) (by simp [results, Try.results25, go_sem, hc]) rfl ⟨?_, rfl⟩
  exact ((((below_one w _).alloc (by simp) _).trans (hb1.mono (by omega))).setCell (by simp) _).setCell (by simp) _

end Go.Proofs.Ytfmlgepoiaehgaa
