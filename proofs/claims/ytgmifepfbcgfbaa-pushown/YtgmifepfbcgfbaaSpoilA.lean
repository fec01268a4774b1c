/- spoil over integers and over arcs that are the call's own: what lies elsewhere stays. -/
import Derived.Test.YtgmifepfbcgfbaaPuQ
import Derived.Test.YtgmifepfbcgfbaaSpoilI
namespace Go.Proofs.Ytgmifepfbcgfbaa
open Go.RowKit
set_option linter.unusedVariables false

/-- of what lay in w only the row at ao has turned -/
structure SparedB (ao : Option Addr) (w w' : World) : Prop where
  os : w'.os = w.os
  tape : w'.tape = w.tape
  output : w'.output = w.output
  size : w.heap.size ≤ w'.heap.size
  block : ∀ k, k < w.heap.size → (∀ b off, ao = some ⟨b, off, none⟩ → k ≠ b) → w'.heap[k]? = w.heap[k]?
theorem SparedB.below {ao : Option Addr} {B : Nat} {w w' : World} (h : SparedB ao w w') (hb : ∀ b off, ao = some ⟨b, off, none⟩ → B ≤ b) (hB : B ≤ w.heap.size) : Below B w w' :=
  ⟨h.os, h.tape, h.output, h.size, fun k hk => h.block k (by omega) (fun b off e => by have := hb b off e; omega)⟩
theorem SparedB.blk {ao : Option Addr} {w w' : World} (h : SparedB ao w w') {k : Nat} {o : Obj} (hk : w.heap[k]? = some o) (hne : ∀ b off, ao = some ⟨b, off, none⟩ → k ≠ b) : w'.heap[k]? = some o :=
  (h.block k (Array.getElem?_eq_some_iff.1 hk).1 hne).trans hk
theorem OwnIs.spared {w w' : World} {B : Nat} {ao a2 : Option Addr} {cap : Nat} {l : List Int} (h : OwnIs w B ao cap l) (hs : SparedB a2 w w') (hne : ∀ g o g' o', a2 = some ⟨g, o, none⟩ → ao = some ⟨g', o', none⟩ → g ≠ g') : OwnIs w' B ao cap l := by
  rcases h with h | ⟨g, e, hB, hcap, f, hO, h2, h3⟩
  · exact Or.inl h
  · exact Or.inr ⟨g, e, hB, hcap, f, hO.of_block (hs.block g hO.lt fun b off e2 c => hne b off g 0 e2 e c.symm), h2, h3⟩
theorem OwnA.spared {w w' : World} {B C : Nat} {ao a2 : Option Addr} {cap c2 : Nat} {l : List Arc3} {f2 : List Int} (h : OwnA w B ao cap l) (hs : SparedB a2 w w') (h2 : OwnIs w C a2 c2 f2) : OwnA w' B ao cap l := by
  rcases h with h | ⟨g, f, e, hB, hle, hcap, hr, hf⟩
  · exact Or.inl h
  · refine Or.inr ⟨g, f, e, hB, hle, hcap, hr.of_block (hs.block g hr.lt fun b off e2 c => ?_), hf⟩
    subst c
    rcases h2 with ⟨h2, _⟩ | ⟨g', e3, _, _, f3, hO, _⟩
    · rw [h2] at e2; cases e2
    · rw [e3] at e2
      cases e2
      obtain ⟨c1, k1, _⟩ := hr
      obtain ⟨c3, k3, _⟩ := hO
      rw [k1] at k3
      simp only [Option.some.injEq, Obj.cells.injEq] at k3
      exact absurd k3.2.1 (by decide)

theorem spoilI_own (B cap : Nat) (ao : Option Addr) (l : List Int) (x : Int) (w : World) (h : OwnIs w B ao cap l) :
    Calls Try.prog 17 #[.slice ao l.length cap, .int .i64 x] w fun e w' => e = .returned (.tuple #[]) ∧ SparedB ao w w' := by
  rcases h with ⟨rfl, rfl, rfl⟩ | ⟨g, rfl, hB, hcap, f, hO, h2, h3⟩
  · exact (spoilI_any w.heap.size w.heap.size 0 none 0 x w (Nat.le_refl _) (Or.inl ⟨rfl, rfl⟩)).mono fun e w' ⟨he, hs⟩ => ⟨he, hs.os, hs.tape, hs.output, hs.size, fun k hk _ => hs.block k hk (Or.inl hk)⟩
  · have hlt := hO.lt
    obtain ⟨cur, hg, hsz, _⟩ := hO
    exact (spoilI_any g (g + 1) l.length (some ⟨g, 0, none⟩) cap x w h2 (Or.inr ⟨g, 0, cur, rfl, Nat.le_refl _, by omega, hg, by omega, hcap⟩)).mono fun e w' ⟨he, hs⟩ => ⟨he, hs.os, hs.tape, hs.output, hs.size, fun k hk hne => hs.block k hk (by
      have := hne g 0 rfl; omega)⟩

set_option maxHeartbeats 1600000 in
theorem spoilA_row (b n m : Nat) (x y z : Int) (f : Nat → Value) (w : World) (hn : n ≤ m) (hm : m ≤ maxLen) (hr : w.rowIs b 35 (m * 3) f) :
    Calls Try.prog 18 #[.slice (some ⟨b, 0, none⟩) n m, .agg #[.int .i64 x, .int .i64 y, .int .i64 z]] w fun e w' => e = .returned (.tuple #[]) ∧ Only b w w' := by
  have hlt := hr.lt
  unfold maxLen at hm
  go_enter Try.func18, Try.ntmps18
  go_wp2
  go_loopw [11] (fun i wr => ∃ k : Nat, k ≤ m ∧ i = .int .i64 k ∧ (∃ g, wr.rowIs b 35 (m * 3) g) ∧ wr.heap[w.heap.size]? = some (.cells #[.int .i64 x, .int .i64 y, .int .i64 z] 35 (0, 0)) ∧ Only b (w.alloc (.cells #[.int .i64 x, .int .i64 y, .int .i64 z] 35)) wr) (fun i _ => m - (intOf i).toNat)
  case atStart => exact ⟨0, Nat.zero_le _, rfl, ⟨f, hr.alloc _⟩, blk_new _ _, rfl, rfl, rfl, Nat.le_refl _, fun _ _ _ => rfl⟩
  case round =>
    obtain ⟨k, hk, rfl, ⟨g, hg⟩, hbx, hO⟩ := hrel
    have q : wr.rowIs w.heap.size 35 3 (fun j => if j = 0 then .int .i64 x else if j = 1 then .int .i64 y else .int .i64 z) := ⟨_, hbx, rfl, fun i hi => by
      match i, hi with
      | 0, _ => rfl
      | 1, _ => rfl
      | 2, _ => rfl⟩
    have a0 : wr.cell? ⟨w.heap.size, 0, none⟩ = some (.int .i64 x) := q.cell (i := 0) (by omega)
    have a1 : wr.cell? ⟨w.heap.size, 1, none⟩ = some (.int .i64 y) := q.cell (i := 1) (by omega)
    have a2 : wr.cell? ⟨w.heap.size, 2, none⟩ = some (.int .i64 z) := q.cell (i := 2) (by omega)
    clear q
    by_cases hk2 : k < m
    · have r0 := hg.cell (i := k * 3) (by omega)
      have r1 := hg.cell (i := k * 3 + 1) (by omega)
      have r2 := hg.cell (i := k * 3 + 2) (by omega)
      have f0 := hg.frozen (k * 3)
      have f1 := hg.frozen (k * 3 + 1)
      have f2 := hg.frozen (k * 3 + 2)
      go_wp2
      go_roundw
      case rel => 
        refine ⟨k + 1, by omega, by go_num, ⟨_, ((hg.set _ _).set _ _).set _ _⟩, ?_, ?_⟩
        · rw [Below.heap_setCell _ _ _ _ (by simp; omega), Below.heap_setCell _ _ _ _ (by simp; omega), Below.heap_setCell _ _ _ _ (by simp; omega)]; exact hbx
        · refine ⟨hO.os, hO.tape, hO.output, by simpa [World.setCell] using hO.size, fun j hj hjb => ?_⟩
          rw [Below.heap_setCell _ _ _ _ (by simp; omega), Below.heap_setCell _ _ _ _ (by simp; omega), Below.heap_setCell _ _ _ _ (by simp; omega)]
          exact hO.block j hj hjb
      case measure => simp [intOf]; omega
    · go_wp2
      go_end0
      refine ⟨rfl, hO.os, hO.tape, hO.output, ?_, fun j hj hjb => ?_⟩
      · have := hO.size; simp at this; omega
      · rw [hO.block j (by simp; omega) hjb, Go.Deep.blk_alloc_lt _ _ _ hj]
set_option maxHeartbeats 400000 in
theorem spoilA_nil (x y z : Int) (w : World) :
    Calls Try.prog 18 #[.slice none 0 0, .agg #[.int .i64 x, .int .i64 y, .int .i64 z]] w fun e w' => e = .returned (.tuple #[]) ∧ Below w.heap.size w w' := by
  go_enter Try.func18, Try.ntmps18
  go_wp2
  go_loopw [11] (fun i wr => i = .int .i64 0 ∧ wr = w.alloc (.cells #[.int .i64 x, .int .i64 y, .int .i64 z] 35)) (fun i _ => 0)
  case atStart => exact ⟨rfl, rfl⟩
  case round =>
    obtain ⟨rfl, rfl⟩ := hrel
    go_wp2
    go_end0
    exact ⟨rfl, below_one _ _⟩
theorem spoilA_own (B cap : Nat) (ao : Option Addr) (l : List Arc3) (x y z : Int) (w : World) (h : OwnA w B ao cap l) :
    Calls Try.prog 18 #[.slice ao l.length cap, .agg #[.int .i64 x, .int .i64 y, .int .i64 z]] w fun e w' => e = .returned (.tuple #[]) ∧ SparedB ao w w' := by
  rcases h with ⟨rfl, rfl, rfl⟩ | ⟨g, f, rfl, hB, hle, hcap, hr, hf⟩
  · exact (spoilA_nil x y z w).mono fun e w' ⟨he, hb⟩ => ⟨he, hb.os, hb.tape, hb.output, hb.size, fun k hk _ => hb.block k hk⟩
  · exact (spoilA_row g l.length cap x y z f w hle hcap hr).mono fun e w' ⟨he, h⟩ => ⟨he, h.os, h.tape, h.output, h.size, fun k hk hne => h.block k hk (hne g 0 rfl)⟩

end Go.Proofs.Ytgmifepfbcgfbaa
