/- Contract of slices.Clone over integers; a row of our own. -/
import Derived.Test.YtgmifepfbcgfbaaMk
import Derived.Test.YtgmifepfbcgfbaaOwns
namespace Go.Proofs.Ytgmifepfbcgfbaa
open Go.RowKit
set_option linter.unusedVariables false

theorem oneFlati (l : List Int) : ∀ v ∈ flati l, v.oneCell' = true := by
  intro v hv
  obtain ⟨x, _, rfl⟩ := List.mem_map.1 hv
  rfl
theorem flati_length (l : List Int) : (flati l).length = l.length * 1 := by simp [flati]

set_option maxHeartbeats 400000 in
theorem cloneI_own (a : Addr) (cap : Nat) (l : List Int) (w : World) (hA : IntsAt w (some a) l) (h60 : l.length ≤ 60) :
    Calls Try.prog 40 #[.slice (some a) l.length cap] w fun e w' => Below w.heap.size w w' ∧
      ∃ v, e = .returned v ∧ w'.ownsRow w.heap.size 3 1 v l.length (flati l) := by
  have hq := @Lib.run_eql_slice_nil Try.prog
  obtain ⟨i0, hi, hz0, hz1, hz2⟩ := info_parts infoInt
  go_enter Try.func40, Try.ntmps40
  have hown : (w.alloc (.cells #[] 3)).ownsRow w.heap.size 3 1 (.slice (some ⟨w.heap.size, 0, none⟩) 0 0) 0 [] :=
    ⟨rfl, Or.inr ⟨w.heap.size, 0, #[], rfl, Nat.le_refl _, blk_new _ _, Nat.le_refl _, Nat.zero_le _, rfl, rfl⟩⟩
  have hnews : ∀ j u, (flati l)[j]? = some u → (w.alloc (.cells #[] 3)).cell? (a.add j) = some u := by
    intro j u hj
    have hl : j < l.length := by
      have := (List.getElem?_eq_some_iff.1 hj).1
      simpa [flati] using this
    obtain ⟨b, off, e, _, c⟩ := (hA.alloc (.cells #[] 3)) j hl
    cases e
    rw [Go.WideShapes.add_plain]
    have : (flati l)[j]? = some (.int .i64 (ati l j)) := by simp [flati, hl, ati_lt]
    rw [hj] at this
    cases this
    simpa using c
  have HO : Hid ((w.alloc (.cells #[] 3)).ownsRow w.heap.size 3 1 (.slice (some ⟨w.heap.size, 0, none⟩) 0 0) 0 []) := hown
  have HN : Hid (∀ j u, (flati l)[j]? = some u → (w.alloc (.cells #[] 3)).cell? (a.add j) = some u) := hnews
  have HM : Hid (0 + l.length ≤ maxLen) := by unfold Hid maxLen; omega
  clear hown hnews
  go_wp2_with (at_builtin; refine wpList_append_own _ rfl (.tmp 5) (.tmp 6) 25 rfl w.heap.size 3 i0 _ 1 8 Try.underlying25 hi hz0 hz1 hz2 rfl (by decide) _ _ _ rfl HO.out a l.length cap (flati l) rfl (flati_length l) HN.out (oneFlati l) HM.out (by omega) (by simp) ?_; intro v' w1 hown' hgrow _)
  have hB' : Below w.heap.size w w1 := (below_one w _).grown hgrow (by simp) (by
    intro g hg
    simp only [Value.ownBlock] at hg
    cases hg
    exact Nat.le_refl _)
  simp only [Nat.zero_add, List.nil_append] at hown'
  clear hgrow
  go_wp2
  go_ret
  exact ⟨hB', _, rfl, hown'⟩

/-- the first N cells of a row of our own -/
def OwnI (w : World) (g cap N : Nat) (h : Nat → Int) : Prop := ∃ f, w.rowIs g 3 cap f ∧ N ≤ cap ∧ ∀ j, j < N → f j = .int .i64 (h j)

theorem own_ints {w : World} {B N : Nat} {v : Value} {l : List Int} (hN : 1 ≤ N) (hl : l.length = N) (h : w.ownsRow B 3 1 v l.length (flati l)) : ∃ g cap, v = .slice (some ⟨g, 0, none⟩) N cap ∧ B ≤ g ∧ OwnI w g cap N (ati l) := by
  have hA := owns_ints h
  rcases h.2 with ⟨rfl, hn⟩ | ⟨g, cap, cur, rfl, hB, hg, hle, hcap, hcs, htk⟩
  · omega
  · obtain ⟨ao', cap', e, hA, _⟩ := hA
    obtain ⟨rfl, rfl⟩ : ao' = some ⟨g, 0, none⟩ ∧ cap' = cap := by cases e; exact ⟨rfl, rfl⟩
    have hr : w.rowIs g 3 cap' (fun i => cur.getD i (.bool false)) := ⟨cur, hg, by omega, fun i hi => by simp [Array.getD, hcs, hi]⟩
    refine ⟨g, cap', by rw [hl], hB, _, hr, by omega, fun j hj => ?_⟩
    obtain ⟨b, off, e, _, c⟩ := hA j (by omega)
    cases e
    rw [Nat.zero_add] at c
    exact Option.some.inj ((hr.cell (i := j) (by omega)).symm.trans c)

theorem OwnI.alloc {w : World} {g cap N : Nat} {h : Nat → Int} (H : OwnI w g cap N h) (o : Obj) : OwnI (w.alloc o) g cap N h := by
  obtain ⟨f, h1, h2, h3⟩ := H; exact ⟨f, h1.alloc o, h2, h3⟩
theorem OwnI.drewN {w : World} {g cap N : Nat} {h : Nat → Int} (H : OwnI w g cap N h) (q : Nat) : OwnI (w.drewN q) g cap N h := by
  obtain ⟨f, h1, h2, h3⟩ := H
  refine ⟨f, ?_, h2, h3⟩
  induction q with
  | zero => exact h1
  | succ q ih => exact ih.drew
theorem OwnI.lt {w : World} {g cap N : Nat} {h : Nat → Int} (H : OwnI w g cap N h) : g < w.heap.size := by obtain ⟨f, h1, _⟩ := H; exact h1.lt
theorem OwnI.cell {w : World} {g cap N : Nat} {h : Nat → Int} (H : OwnI w g cap N h) {j : Nat} (hj : j < N) : w.cell? ⟨g, j, none⟩ = some (.int .i64 (h j)) := by
  obtain ⟨f, h1, h2, h3⟩ := H
  rw [h1.cell (i := j) (by omega), h3 j hj]
theorem OwnI.frozen {w : World} {g cap N : Nat} {h : Nat → Int} (H : OwnI w g cap N h) (j : Nat) : w.frozen? ⟨g, j, none⟩ = false := by
  obtain ⟨f, h1, _⟩ := H; exact h1.frozen j
theorem OwnI.set {w : World} {g cap N : Nat} {h : Nat → Int} (H : OwnI w g cap N h) (t : Nat) (x : Int) : OwnI (w.setCell ⟨g, t, none⟩ (.int .i64 x)) g cap N (fun j => if j = t then x else h j) := by
  obtain ⟨f, h1, h2, h3⟩ := H
  refine ⟨_, h1.set t _, h2, fun j hj => ?_⟩
  by_cases e : j = t
  · simp [e]
  · simp [e, h3 j hj]
theorem OwnI.ints {w : World} {g cap N : Nat} {h : Nat → Int} (H : OwnI w g cap N h) : IntsAt w (some ⟨g, 0, none⟩) ((List.range N).map h) := by
  intro i hi
  have hi' : i < N := by simpa using hi
  refine ⟨g, 0, rfl, H.lt, ?_⟩
  rw [Nat.zero_add, H.cell hi']
  simp [ati, hi']
theorem OwnI.congr {w : World} {g cap N : Nat} {h h' : Nat → Int} (H : OwnI w g cap N h) (e : ∀ j, j < N → h j = h' j) : OwnI w g cap N h' := by
  obtain ⟨f, h1, h2, h3⟩ := H; exact ⟨f, h1, h2, fun j hj => by rw [h3 j hj, e j hj]⟩

end Go.Proofs.Ytgmifepfbcgfbaa
