/- Contract of the laws' own helper turned: a net turned round. -/
import Derived.Test.YtfmlgepoiaehgaaFlowC
import Derived.Test.YtfmlgepoiaehgaaTurnG
namespace Go.Proofs.Ytfmlgepoiaehgaa
open Go.RowKit
set_option linter.unusedVariables false

theorem err_long {n : Int} {l : List Arc3} (h : graphErr n 0 l = 0) : graphErr n (-10000) l = 0 := by
  obtain ⟨h1, h2, h3⟩ := err_ok h
  exact err_mk ⟨h1, h2, fun a ha => by have := h3 a ha; exact ⟨this.1, this.2.1, by omega, this.2.2.2⟩⟩

set_option maxHeartbeats 800000 in
theorem turned_any (n s t : Int) (ao : Option Addr) (cap : Nat) (l : List Arc3) (w : World) (hG : GraphIn w ao cap l) :
    Calls Try.prog 19 #[.agg #[.int .i64 n, .int .i64 s, .int .i64 t, .slice ao l.length cap]] w fun e w' => Below w.heap.size w w' ∧
      ∃ ao' cap' l', e = .returned (.agg #[.int .i64 n, .int .i64 t, .int .i64 s, .slice ao' (l' : List Arc3).length cap']) ∧ GraphIn w' ao' cap' l' ∧ (graphErr n (-10000) l = 0 → l' = l.map turnA) := by
  have hG0 := (hG.alloc (.cells #[.int .i64 n, .int .i64 s, .int .i64 t, .slice ao l.length cap] 24)).alloc (.cells #[.int .i64 0, .int .i64 0, .int .i64 0, .slice none 0 0] 24)
  have x0 := blk_old (blk_new w (.cells #[.int .i64 n, .int .i64 s, .int .i64 t, .slice ao l.length cap] 24)) (.cells #[.int .i64 0, .int .i64 0, .int .i64 0, .slice none 0 0] 24)
  have y0 := blk_new (w.alloc (.cells #[.int .i64 n, .int .i64 s, .int .i64 t, .slice ao l.length cap] 24)) (.cells #[.int .i64 0, .int .i64 0, .int .i64 0, .slice none 0 0] 24)
  rw [World.size_alloc] at y0
  go_enter Try.func19, Try.ntmps19
  go_wp2_with fail
  refine (TurnG_any n ao cap l _ hG0).mono ?_
  rintro e w1 ⟨hb1, n', ao', cap', l', err, rfl, hG', hfr, hT⟩
  simp only [World.size_alloc] at hb1 hfr
  have hz := hb1.size
  simp only [World.size_alloc] at hz
  have x1 := blk_below hb1 x0 (by omega)
  have y1 := blk_below hb1 y0 (by omega)
  obtain ⟨r0, r1, r2, r3⟩ := blk4 x1
  obtain ⟨s0, s1, s2, s3⟩ := blk4 y1
  have HFz : Hid (∀ j, w1.frozen? ⟨w.heap.size + 1, j, none⟩ = false) := fun j => by
    have r : w1.rowIs (w.heap.size + 1) 24 4 (fun j => if j = 0 then .int .i64 0 else if j = 1 then .int .i64 0 else if j = 2 then .int .i64 0 else .slice none 0 0) := ⟨_, y1, rfl, fun i hi => by
      match i, hi with
      | 0, _ => rfl
      | 1, _ => rfl
      | 2, _ => rfl
      | 3, _ => rfl⟩
    exact r.frozen j
  have z0 := HFz.out 0
  have z1 := HFz.out 1
  have z2 := HFz.out 2
  have z3 := HFz.out 3
  have HG : Hid (GraphIn w1 ao' cap' l') := hG'
  have HFr : Hid (∀ b off, ao' = some ⟨b, off, none⟩ → b ≠ w.heap.size + 1) := fun b off e => by have := hfr b off e; omega
  have HT : Hid (graphErr n (-10000) l = 0 → n' = n ∧ l' = l.map turnA) := hT
  have hw1 : w.heap.size + 1 < w1.heap.size := by omega
  have hw0 : w.heap.size < w1.heap.size := by omega
  have HB : Hid (Below w.heap.size w w1) := ((below_one w _).alloc (by simp) _).trans (hb1.mono (by omega))
  clear hb1 x0 y0 x1 y1 hG0 hG' hfr hT
  go_wp2
  refine bodyPost_ret (v := .agg #[.int .i64 n, .int .i64 t, .int .i64 s, .slice ao' l'.length cap']) (by simp [results, Try.results19, go_sem, s0, s1, s2, s3, hw1]) rfl ⟨?_, ao', cap', l', rfl, ⟨?_, HG.out.le, HG.out.max, HG.out.nil⟩, fun h => (HT.out h).2⟩
  · exact ((((HB.out.setCell (by simp) _).setCell (by simp) _).setCell (by simp) _).setCell (by simp) _).alloc (by simp; omega) _
  · exact ((((HG.out.arcs.setElse HFr.out _).setElse HFr.out _).setElse HFr.out _).setElse HFr.out _).alloc _

end Go.Proofs.Ytfmlgepoiaehgaa
