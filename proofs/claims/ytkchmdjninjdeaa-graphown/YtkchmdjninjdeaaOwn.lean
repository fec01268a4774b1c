/- Contracts for the laws on memory: slices.Clone, spoil, slices.ContainsFunc over arcs. -/
import Derived.Test.YtkchmdjninjdeaaWithout
import Derived.Test.YtkchmdjninjdeaaSl
namespace Go.Proofs.Ytkchmdjninjdeaa
open Go.RowKit
set_option linter.unusedVariables false

/-- of what lay in w only block b has turned -/
structure Only (b : Nat) (w w' : World) : Prop where
  os : w'.os = w.os
  tape : w'.tape = w.tape
  output : w'.output = w.output
  size : w.heap.size ≤ w'.heap.size
  block : ∀ k, k < w.heap.size → k ≠ b → w'.heap[k]? = w.heap[k]?

theorem Only.below {b B : Nat} {w w' : World} (h : Only b w w') (hb : B ≤ b) (hB : B ≤ w.heap.size) : Below B w w' :=
  ⟨h.os, h.tape, h.output, h.size, fun k hk => h.block k (by omega) (by omega)⟩

theorem Only.blk {b : Nat} {w w' : World} (h : Only b w w') {k : Nat} {o : Obj} (hk : w.heap[k]? = some o) (hne : k ≠ b) : w'.heap[k]? = some o :=
  (h.block k (Array.getElem?_eq_some_iff.1 hk).1 hne).trans hk

theorem Only.arcs {b : Nat} {w w' : World} (h : Only b w w') {ao : Option Addr} {l : List Arc3} (hA : ArcsAt w ao l) (hne : ∀ c off, ao = some ⟨c, off, none⟩ → c ≠ b) : ArcsAt w' ao l := by
  intro i hi
  obtain ⟨c, off, rfl, hlt, c0, c1, c2⟩ := hA i hi
  have hb : ∀ o, w'.cell? ⟨c, o, none⟩ = w.cell? ⟨c, o, none⟩ := fun o => World.cell?_of_block (w := w) (a := ⟨c, o, none⟩) (h.block c hlt (hne c off rfl))
  exact ⟨c, off, rfl, Nat.lt_of_lt_of_le hlt h.size, (hb _).trans c0, (hb _).trans c1, (hb _).trans c2⟩

theorem Only.row {b : Nat} {w w' : World} (h : Only b w w') {c : Nat} {t : TypeId} {n : Nat} {f : Nat → Value} (hr : w.rowIs c t n f) (hne : c ≠ b) : w'.rowIs c t n f :=
  hr.of_block (h.block c hr.lt hne)

set_option maxHeartbeats 800000 in
theorem spoil_row (b m : Nat) (x y z : Int) (f : Nat → Value) (w : World) (hm : m ≤ 60) (hr : w.rowIs b 37 (m * 3) f) :
    Calls Try.prog 18 #[.slice (some ⟨b, 0, none⟩) m m, .agg #[.int .i64 x, .int .i64 y, .int .i64 z]] w fun e w' => e = .returned (.tuple #[]) ∧ Only b w w' := by
  have hlt := hr.lt
  go_enter Try.func18, Try.ntmps18
  go_wp2
  go_loopw [11] (fun i wr => ∃ k : Nat, k ≤ m ∧ i = .int .i64 k ∧ (∃ g, wr.rowIs b 37 (m * 3) g) ∧ wr.heap[w.heap.size]? = some (.cells #[.int .i64 x, .int .i64 y, .int .i64 z] 37 (0, 0)) ∧ Only b (w.alloc (.cells #[.int .i64 x, .int .i64 y, .int .i64 z] 37)) wr) (fun i _ => m - (intOf i).toNat)
  case atStart => exact ⟨0, Nat.zero_le _, rfl, ⟨f, hr.alloc _⟩, blk_new _ _, rfl, rfl, rfl, Nat.le_refl _, fun _ _ _ => rfl⟩
  case round =>
    obtain ⟨k, hk, rfl, ⟨g, hg⟩, hbx, hO⟩ := hrel
    have q : wr.rowIs w.heap.size 37 3 (fun j => if j = 0 then .int .i64 x else if j = 1 then .int .i64 y else .int .i64 z) := ⟨_, hbx, rfl, fun i hi => by
      match i, hi with
      | 0, _ => rfl
      | 1, _ => rfl
      | 2, _ => rfl⟩
    have a0 : wr.cell? ⟨w.heap.size, 0, none⟩ = some (.int .i64 x) := q.cell (i := 0) (by omega)
    have a1 : wr.cell? ⟨w.heap.size, 1, none⟩ = some (.int .i64 y) := q.cell (i := 1) (by omega)
    have a2 : wr.cell? ⟨w.heap.size, 2, none⟩ = some (.int .i64 z) := q.cell (i := 2) (by omega)
    clear q
    by_cases hk2 : k < m
    · have r0 := hg.cell (i := k * 3) (by omega)
      have r1 := hg.cell (i := k * 3 + 1) (by omega)
      have r2 := hg.cell (i := k * 3 + 2) (by omega)
      have f0 := hg.frozen (k * 3)
      have f1 := hg.frozen (k * 3 + 1)
      have f2 := hg.frozen (k * 3 + 2)
      go_wp2
      go_roundw
      case rel => 
        refine ⟨k + 1, by omega, by go_num, ⟨_, ((hg.set _ _).set _ _).set _ _⟩, ?_, ?_⟩
        · rw [Below.heap_setCell _ _ _ _ (by simp; omega), Below.heap_setCell _ _ _ _ (by simp; omega), Below.heap_setCell _ _ _ _ (by simp; omega)]; exact hbx
        · refine ⟨hO.os, hO.tape, hO.output, by simpa [World.setCell] using hO.size, fun j hj hjb => ?_⟩
          rw [Below.heap_setCell _ _ _ _ (by simp; omega), Below.heap_setCell _ _ _ _ (by simp; omega), Below.heap_setCell _ _ _ _ (by simp; omega)]
          exact hO.block j hj hjb
      case measure => simp [intOf]; omega
    · go_wp2
      go_end0
      refine ⟨rfl, hO.os, hO.tape, hO.output, ?_, fun j hj hjb => ?_⟩
      · have := hO.size; simp at this; omega
      · rw [hO.block j (by simp; omega) hjb, Go.Deep.blk_alloc_lt _ _ _ hj]

set_option maxHeartbeats 400000 in
theorem spoil_nil (x y z : Int) (w : World) :
    Calls Try.prog 18 #[.slice none 0 0, .agg #[.int .i64 x, .int .i64 y, .int .i64 z]] w fun e w' => e = .returned (.tuple #[]) ∧ Below w.heap.size w w' := by
  go_enter Try.func18, Try.ntmps18
  go_wp2
  go_loopw [11] (fun i wr => i = .int .i64 0 ∧ wr = w.alloc (.cells #[.int .i64 x, .int .i64 y, .int .i64 z] 37)) (fun i _ => 0)
  case atStart => exact ⟨rfl, rfl⟩
  case round =>
    obtain ⟨rfl, rfl⟩ := hrel
    go_wp2
    go_end0
    exact ⟨rfl, below_one _ _⟩

set_option maxHeartbeats 400000 in
theorem clone_nil (w : World) :
    Calls Try.prog 17 #[.slice none 0 0] w fun e w' => e = .returned (.slice none 0 0) ∧ Below w.heap.size w w' := by
  have hq := @Lib.run_eql_slice_nil Try.prog
  go_enter Try.func17, Try.ntmps17
  go_wp2
  go_ret
  exact ⟨rfl, Below.refl _ _⟩

set_option maxHeartbeats 400000 in
theorem clone_some (a : Addr) (cap : Nat) (l : List Arc3) (w : World) (hA : ArcsAt w (some a) l) (hreach : l.length * 24 ≤ 140737488351232) :
    Calls Try.prog 17 #[.slice (some a) l.length cap] w fun e w' => Below w.heap.size w w' ∧
      ∃ ao' cap', e = .returned (.slice ao' l.length cap') ∧ ArcsAt w' ao' l ∧ (∀ b off, ao' = some ⟨b, off, none⟩ → w.heap.size ≤ b) := by
  have hq := @Lib.run_eql_slice_nil Try.prog
  obtain ⟨i0, hi, hz0, hz1, hz2⟩ := info_parts infoArc
  go_enter Try.func17, Try.ntmps17
  have hown : (w.alloc (.cells #[] 37)).ownsRow w.heap.size 37 3 (.slice (some ⟨w.heap.size, 0, none⟩) 0 0) 0 [] :=
    ⟨rfl, Or.inr ⟨w.heap.size, 0, #[], rfl, Nat.le_refl _, blk_new _ _, Nat.le_refl _, Nat.zero_le _, rfl, rfl⟩⟩
  have hnews : ∀ j u, (flat l)[j]? = some u → (w.alloc (.cells #[] 37)).cell? (a.add j) = some u := by
    intro j u hj
    have hl : 0 < l.length := by
      have := (List.getElem?_eq_some_iff.1 hj).1
      rw [flat_length] at this; omega
    obtain ⟨b, off, e, _⟩ := hA 0 hl
    cases e
    have := arcs_from (hA.alloc (.cells #[] 37)) 0 l (fun i hi => ⟨by omega, by rw [Nat.zero_add]⟩) j u hj
    rw [Go.WideShapes.add_plain]
    simpa using this
  have HO : Hid ((w.alloc (.cells #[] 37)).ownsRow w.heap.size 37 3 (.slice (some ⟨w.heap.size, 0, none⟩) 0 0) 0 []) := hown
  have HN : Hid (∀ j u, (flat l)[j]? = some u → (w.alloc (.cells #[] 37)).cell? (a.add j) = some u) := hnews
  have HM : Hid (0 + l.length ≤ maxLen) := by unfold Hid maxLen; omega
  clear hown hnews
  go_wp2_with (at_builtin; refine wpList_append_own _ rfl (.tmp 5) (.tmp 6) 25 rfl w.heap.size 37 i0 _ 3 24 Try.underlying25 hi hz0 hz1 hz2 rfl (by decide) _ _ _ rfl HO.out a l.length cap (flat l) rfl (flat_length l) HN.out (oneFlat l) HM.out (by omega) (by simp) ?_; intro v' w1 hown' hgrow _)
  have hB' : Below w.heap.size w w1 := (below_one w _).grown hgrow (by simp) (by
    intro g hg
    simp only [Value.ownBlock] at hg
    cases hg
    exact Nat.le_refl _)
  simp only [Nat.zero_add, List.nil_append] at hown'
  obtain ⟨ao', cap', rfl, hA', hfr, _, _⟩ := owns_arcs hown'
  have HF : Hid (∀ b off, ao' = some ⟨b, off, none⟩ → w.heap.size ≤ b) := hfr
  clear hfr hgrow hown'
  go_wp2
  go_ret
  exact ⟨hB', ao', cap', rfl, hA', HF.out⟩

/-- a function value that finds nothing among these -/
def Finds (g : Nat) (p : Int → Prop) : Prop := ∀ (f t c : Int) (w : World), p f → Calls Try.prog g #[.agg #[.int .i64 f, .int .i64 t, .int .i64 c]] w fun e w' => e = .returned (.bool false) ∧ Below w.heap.size w w'

set_option maxHeartbeats 400000 in
theorem closure1 : Finds 20 (fun f => 0 ≤ f) := by
  intro f t c w hf
  go_enter Try.func20, Try.ntmps20
  go_wp2
  go_ret
  exact ⟨by simp; omega, below_one _ _⟩

set_option maxHeartbeats 400000 in
theorem closure2 : Finds 21 (fun f => 0 ≤ f) := by
  intro f t c w hf
  go_enter Try.func21, Try.ntmps21
  go_wp2
  go_ret
  exact ⟨by simp; omega, below_one _ _⟩

set_option maxHeartbeats 400000 in
theorem indexFunc1 (ao : Option Addr) (cap : Nat) (l : List Arc3) (w : World) (hm : l.length ≤ maxLen) (hA : ArcsAt w ao l) (hp : ∀ a ∈ l, 0 ≤ a.1) :
    Calls Try.prog 23 #[.slice ao l.length cap, .func (.func 20) #[] #[]] w fun e w' => e = .returned (.int .i64 (-1)) ∧ Below w.heap.size w w' := by
  unfold maxLen at hm
  have HP : Hid (∀ a ∈ l, 0 ≤ a.1) := hp
  clear hp
  go_enter Try.func23, Try.ntmps23
  go_wp2
  go_loopw [8] (fun i wr => ∃ k : Nat, k ≤ l.length ∧ i = .int .i64 k ∧ Below w.heap.size w wr) (fun i _ => l.length - (intOf i).toNat)
  case atStart => exact ⟨0, Nat.zero_le _, rfl, Below.refl _ _⟩
  case round =>
    obtain ⟨k, hk, rfl, hB⟩ := hrel
    have hz := hB.size
    by_cases hlt : k < l.length
    · have hp := HP.out _ (at3_mem l k hlt)
      obtain ⟨b, off, rfl, hb, c0, c1, c2⟩ := hA k hlt
      have c0 := later hB c0 hb
      have c1 := later hB c1 hb
      have c2 := later hB c2 hb
      generalize at3 l k = a at *
      obtain ⟨f, t, c⟩ := a
      simp only at c0 c1 c2 hp
      go_wp2_with (go_at_call 20; refine (closure1 _ _ _ _ hp).mono ?_; rintro e w1 ⟨rfl, hb1⟩)
      go_roundw
      case rel => exact ⟨k + 1, by omega, by go_num, hB.trans (hb1.mono hz)⟩
      case measure => simp [intOf]; omega
    · go_wp2
      go_ret
      exact ⟨rfl, hB⟩

set_option maxHeartbeats 400000 in
theorem containsFunc1 (ao : Option Addr) (cap : Nat) (l : List Arc3) (w : World) (hm : l.length ≤ maxLen) (hA : ArcsAt w ao l) (hp : ∀ a ∈ l, 0 ≤ a.1) :
    Calls Try.prog 19 #[.slice ao l.length cap, .func (.func 20) #[] #[]] w fun e w' => e = .returned (.bool false) ∧ Below w.heap.size w w' := by
  go_enter Try.func19, Try.ntmps19
  go_wp2_with fail
  refine (indexFunc1 ao cap l w hm hA hp).mono ?_
  rintro e w1 ⟨rfl, hb1⟩
  go_wp2
  go_ret
  exact ⟨rfl, hb1⟩

set_option maxHeartbeats 400000 in
theorem indexFunc2 (ao : Option Addr) (cap : Nat) (l : List Arc3) (w : World) (hm : l.length ≤ maxLen) (hA : ArcsAt w ao l) (hp : ∀ a ∈ l, 0 ≤ a.1) :
    Calls Try.prog 23 #[.slice ao l.length cap, .func (.func 21) #[] #[]] w fun e w' => e = .returned (.int .i64 (-1)) ∧ Below w.heap.size w w' := by
  unfold maxLen at hm
  have HP : Hid (∀ a ∈ l, 0 ≤ a.1) := hp
  clear hp
  go_enter Try.func23, Try.ntmps23
  go_wp2
  go_loopw [8] (fun i wr => ∃ k : Nat, k ≤ l.length ∧ i = .int .i64 k ∧ Below w.heap.size w wr) (fun i _ => l.length - (intOf i).toNat)
  case atStart => exact ⟨0, Nat.zero_le _, rfl, Below.refl _ _⟩
  case round =>
    obtain ⟨k, hk, rfl, hB⟩ := hrel
    have hz := hB.size
    by_cases hlt : k < l.length
    · have hp := HP.out _ (at3_mem l k hlt)
      obtain ⟨b, off, rfl, hb, c0, c1, c2⟩ := hA k hlt
      have c0 := later hB c0 hb
      have c1 := later hB c1 hb
      have c2 := later hB c2 hb
      generalize at3 l k = a at *
      obtain ⟨f, t, c⟩ := a
      simp only at c0 c1 c2 hp
      go_wp2_with (go_at_call 21; refine (closure2 _ _ _ _ hp).mono ?_; rintro e w1 ⟨rfl, hb1⟩)
      go_roundw
      case rel => exact ⟨k + 1, by omega, by go_num, hB.trans (hb1.mono hz)⟩
      case measure => simp [intOf]; omega
    · go_wp2
      go_ret
      exact ⟨rfl, hB⟩

set_option maxHeartbeats 400000 in
theorem containsFunc2 (ao : Option Addr) (cap : Nat) (l : List Arc3) (w : World) (hm : l.length ≤ maxLen) (hA : ArcsAt w ao l) (hp : ∀ a ∈ l, 0 ≤ a.1) :
    Calls Try.prog 19 #[.slice ao l.length cap, .func (.func 21) #[] #[]] w fun e w' => e = .returned (.bool false) ∧ Below w.heap.size w w' := by
  go_enter Try.func19, Try.ntmps19
  go_wp2_with fail
  refine (indexFunc2 ao cap l w hm hA hp).mono ?_
  rintro e w1 ⟨rfl, hb1⟩
  go_wp2
  go_ret
  exact ⟨rfl, hb1⟩

theorem clone_any (ao : Option Addr) (cap : Nat) (l : List Arc3) (w : World) (hA : ArcsAt w ao l) (hn : ao = none → l.length = 0 ∧ cap = 0) (hreach : l.length * 24 ≤ 140737488351232) :
    Calls Try.prog 17 #[.slice ao l.length cap] w fun e w' => Below w.heap.size w w' ∧
      ∃ ao' cap', e = .returned (.slice ao' l.length cap') ∧ ArcsAt w' ao' l ∧ (∀ b off, ao' = some ⟨b, off, none⟩ → w.heap.size ≤ b) := by
  cases ao with
  | none =>
    obtain ⟨h1, h2⟩ := hn rfl
    subst h2
    rw [h1]
    refine (clone_nil w).mono fun e w' ⟨he, hb⟩ => ⟨hb, none, 0, he, fun i hi => absurd hi (by omega), fun b off e => by cases e⟩
  | some a => exact clone_some a cap l w hA hreach

/-- arcs that a call has made: a row of its own, or nothing -/
structure FreshRow (B : Nat) (w : World) (ao : Option Addr) (m : Nat) (L : List Arc3) : Prop where
  len : L.length = m
  small : m ≤ 60
  arcs : ArcsAt w ao L
  pos : ∀ a ∈ L, 0 ≤ a.1
  row : (ao = none ∧ m = 0) ∨ ∃ b f, B ≤ b ∧ ao = some ⟨b, 0, none⟩ ∧ w.rowIs b 37 (m * 3) f

theorem FreshRow.below {B C : Nat} {w w' : World} {ao : Option Addr} {m : Nat} {L : List Arc3} (h : FreshRow B w ao m L) (hb : Below C w w') (hC : w.heap.size ≤ C) : FreshRow B w' ao m L :=
  ⟨h.len, h.small, h.arcs.below hb hC, h.pos, h.row.imp id fun ⟨b, f, h1, h2, h3⟩ => ⟨b, f, h1, h2, h3.of_block (hb.block b (by have := h3.lt; omega))⟩⟩

theorem FreshRow.alloc {B : Nat} {w : World} {ao : Option Addr} {m : Nat} {L : List Arc3} (h : FreshRow B w ao m L) (o : Obj) : FreshRow B (w.alloc o) ao m L :=
  h.below (below_one w o) (Nat.le_refl _)

theorem FreshRow.bounds {B : Nat} {w : World} {ao : Option Addr} {m : Nat} {L : List Arc3} (h : FreshRow B w ao m L) : ∀ b off, ao = some ⟨b, off, none⟩ → B ≤ b ∧ b < w.heap.size := by
  intro b off e
  rcases h.row with ⟨rfl, _⟩ | ⟨b', f, h1, rfl, h3⟩
  · cases e
  · cases e; exact ⟨h1, h3.lt⟩

/-- of what lay in w only the row at ao has turned -/
structure Spared (ao : Option Addr) (w w' : World) : Prop where
  os : w'.os = w.os
  tape : w'.tape = w.tape
  output : w'.output = w.output
  size : w.heap.size ≤ w'.heap.size
  block : ∀ k, k < w.heap.size → (∀ b off, ao = some ⟨b, off, none⟩ → k ≠ b) → w'.heap[k]? = w.heap[k]?

theorem Spared.below {ao : Option Addr} {B : Nat} {w w' : World} (h : Spared ao w w') (hb : ∀ b off, ao = some ⟨b, off, none⟩ → B ≤ b) (hB : B ≤ w.heap.size) : Below B w w' :=
  ⟨h.os, h.tape, h.output, h.size, fun k hk => h.block k (by omega) (fun b off e => by have := hb b off e; omega)⟩

theorem Spared.blk {ao : Option Addr} {w w' : World} (h : Spared ao w w') {k : Nat} {o : Obj} (hk : w.heap[k]? = some o) (hne : ∀ b off, ao = some ⟨b, off, none⟩ → k ≠ b) : w'.heap[k]? = some o :=
  (h.block k (Array.getElem?_eq_some_iff.1 hk).1 hne).trans hk

theorem Spared.arcs {ao : Option Addr} {w w' : World} (h : Spared ao w w') {ao2 : Option Addr} {l : List Arc3} (hA : ArcsAt w ao2 l) (hne : 0 < l.length → ∀ c o2 b off, ao2 = some ⟨c, o2, none⟩ → ao = some ⟨b, off, none⟩ → c ≠ b) : ArcsAt w' ao2 l := by
  intro i hi
  obtain ⟨c, off, rfl, hlt, c0, c1, c2⟩ := hA i hi
  have hb : ∀ o, w'.cell? ⟨c, o, none⟩ = w.cell? ⟨c, o, none⟩ := fun o => World.cell?_of_block (w := w) (a := ⟨c, o, none⟩) (h.block c hlt (fun b off' e => hne (by omega) c off b off' rfl e))
  exact ⟨c, off, rfl, Nat.lt_of_lt_of_le hlt h.size, (hb _).trans c0, (hb _).trans c1, (hb _).trans c2⟩

theorem Spared.fresh {ao : Option Addr} {w w' : World} (h : Spared ao w w') {B : Nat} {ao2 : Option Addr} {m : Nat} {L : List Arc3} (hF : FreshRow B w ao2 m L) (hne : ∀ b off, ao = some ⟨b, off, none⟩ → b < B) : FreshRow B w' ao2 m L := by
  refine ⟨hF.len, hF.small, h.arcs hF.arcs ?_, hF.pos, hF.row.imp id fun ⟨b, f, h1, h2, h3⟩ => ⟨b, f, h1, h2, h3.of_block (h.block b h3.lt fun c off e => by have := hne c off e; omega)⟩⟩
  intro hl c o2 b off e1 e2
  rcases hF.row with ⟨_, h0⟩ | ⟨b', f, h1, h2, _⟩
  · have := hF.len; omega
  · rw [h2] at e1
    cases e1
    have := hne b off e2
    omega

theorem spoil_any (B : Nat) (ao : Option Addr) (m : Nat) (L : List Arc3) (x y z : Int) (w : World) (hF : FreshRow B w ao m L) :
    Calls Try.prog 18 #[.slice ao m m, .agg #[.int .i64 x, .int .i64 y, .int .i64 z]] w fun e w' => e = .returned (.tuple #[]) ∧ Spared ao w w' := by
  rcases hF.row with ⟨rfl, rfl⟩ | ⟨b, f, hB, rfl, hr⟩
  · exact (spoil_nil x y z w).mono fun e w' ⟨he, hb⟩ => ⟨he, hb.os, hb.tape, hb.output, hb.size, fun k hk _ => hb.block k hk⟩
  · exact (spoil_row b m x y z f w hF.small hr).mono fun e w' ⟨he, h⟩ => ⟨he, h.os, h.tape, h.output, h.size, fun k hk hne => h.block k hk (hne b 0 rfl)⟩

theorem Turn_own (n : Int) (ao : Option Addr) (cap : Nat) (l : List Arc3) (w : World) (hm : l.length ≤ maxLen) (hA : ArcsAt w ao l) :
    Calls Try.prog 10 #[.agg #[.int .i64 n, .slice ao l.length cap]] w fun e w' => Below w.heap.size w w' ∧
      ∃ n' aoh m L, e = .returned (.tuple #[.agg #[.int .i64 n', .slice aoh m m], .int .i64 (graphErr n (-10000) l)]) ∧ FreshRow w.heap.size w' aoh m L := by
  by_cases hE : graphErr n (-10000) l = 0
  · rw [hE]
    refine (Turn_ok n ao cap l w hA hE).mono fun e w' ⟨hb, b, hbl, he, hT, f, hr⟩ => ⟨hb, n, some ⟨b, 0, none⟩, l.length, l.map turnA, he, by simp, err_len hE, hT, ?_, Or.inr ⟨b, f, hbl, rfl, hr⟩⟩
    intro a ha
    obtain ⟨x, hx, rfl⟩ := List.mem_map.1 ha
    exact ((err_ok hE).2.2 x hx).2.1.1
  · exact (Turn_err n ao cap l w hm hA hE).mono fun e w' ⟨hb, he⟩ => ⟨hb, 0, none, 0, [], he, rfl, by omega, fun i hi => absurd hi (Nat.not_lt_zero _), fun a ha => (by cases ha), Or.inl ⟨rfl, rfl⟩⟩

/-- what Without tells -/
def woErr (n : Int) (l : List Arc3) (k : Int) : Int := if graphErr n (-10000) l = 0 then (if 0 ≤ k ∧ k < l.length then 0 else 5) else graphErr n (-10000) l

theorem Without_own (n k : Int) (ao : Option Addr) (cap : Nat) (l : List Arc3) (w : World) (hcap : l.length ≤ cap) (hcm : cap ≤ maxLen) (hA : ArcsAt w ao l) :
    Calls Try.prog 13 #[.agg #[.int .i64 n, .slice ao l.length cap], .int .i64 k] w fun e w' => Below w.heap.size w w' ∧
      ∃ n' aoh m L, e = .returned (.tuple #[.agg #[.int .i64 n', .slice aoh m m], .int .i64 (woErr n l k)]) ∧ FreshRow w.heap.size w' aoh m L := by
  have hm := Nat.le_trans hcap hcm
  by_cases hE : graphErr n (-10000) l = 0
  · by_cases hk : 0 ≤ k ∧ k < l.length
    · obtain ⟨k, rfl⟩ := Int.eq_ofNat_of_zero_le hk.1
      rw [show woErr n l k = 0 by rw [woErr, if_pos hE, if_pos hk]]
      have hk' : k < l.length := by omega
      refine (Without_ok n ao cap l k w hA hE hk' hcap hcm).mono fun e w' ⟨hb, b, hbl, he, hT, f, hr⟩ => ⟨hb, n, some ⟨b, 0, none⟩, l.length - 1, cut1 l k, he, cut1_length l k hk', by have := err_len hE; omega, hT, ?_, Or.inr ⟨b, f, hbl, rfl, hr⟩⟩
      intro a ha
      have ha' : a ∈ l := by
        rcases List.mem_append.1 ha with h | h
        · exact List.mem_of_mem_take h
        · exact List.mem_of_mem_drop h
      exact ((err_ok hE).2.2 a ha').1.1
    · rw [show woErr n l k = 5 by rw [woErr, if_pos hE, if_neg hk]]
      exact (Without_none n k ao cap l w hA hE (by omega)).mono fun e w' ⟨hb, he⟩ => ⟨hb, 0, none, 0, [], he, rfl, by omega, fun i hi => absurd hi (Nat.not_lt_zero _), fun a ha => (by cases ha), Or.inl ⟨rfl, rfl⟩⟩
  · rw [show woErr n l k = graphErr n (-10000) l by rw [woErr, if_neg hE]]
    exact (Without_err n k ao cap l w hm hA hE).mono fun e w' ⟨hb, he⟩ => ⟨hb, 0, none, 0, [], he, rfl, by omega, fun i hi => absurd hi (Nat.not_lt_zero _), fun a ha => (by cases ha), Or.inl ⟨rfl, rfl⟩⟩

end Go.Proofs.Ytkchmdjninjdeaa
