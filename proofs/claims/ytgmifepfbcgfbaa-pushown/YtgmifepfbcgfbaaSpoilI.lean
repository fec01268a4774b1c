/- spoil over integers: a row of the call's own, from somewhere on, spare memory and all. -/
import Derived.Test.YtgmifepfbcgfbaaOnly
import Derived.Test.YtgmifepfbcgfbaaCloneI
namespace Go.Proofs.Ytgmifepfbcgfbaa
open Go.RowKit
set_option linter.unusedVariables false

/-- a piece of a block of integers that lies between B and C -/
def SpRow (w : World) (B C : Nat) (pa : Option Addr) (pc : Nat) : Prop :=
  (pa = none ∧ pc = 0) ∨ ∃ g off cur, pa = some ⟨g, off, none⟩ ∧ B ≤ g ∧ g < C ∧ w.heap[g]? = some (.cells cur 3 (0, 0)) ∧ off + pc ≤ cur.size ∧ pc ≤ maxLen
/-- what spoil leaves: blocks elsewhere as they were; a block of integers is one of as many still -/
structure Spoilt (B C : Nat) (w w' : World) : Prop where
  os : w'.os = w.os
  tape : w'.tape = w.tape
  output : w'.output = w.output
  size : w.heap.size ≤ w'.heap.size
  block : ∀ k, k < w.heap.size → (k < B ∨ C ≤ k) → w'.heap[k]? = w.heap[k]?
  ints : ∀ (g : Nat) (cur : Array Value), w.heap[g]? = some (.cells cur 3 (0, 0)) → ∃ cur' : Array Value, w'.heap[g]? = some (.cells cur' 3 (0, 0)) ∧ cur'.size = cur.size
theorem Spoilt.refl (B C : Nat) (w : World) : Spoilt B C w w := ⟨rfl, rfl, rfl, Nat.le_refl _, fun _ _ _ => rfl, fun g cur h => ⟨cur, h, rfl⟩⟩
theorem Spoilt.trans {B C : Nat} {w w1 w2 : World} (h : Spoilt B C w w1) (k : Spoilt B C w1 w2) : Spoilt B C w w2 :=
  ⟨k.os.trans h.os, k.tape.trans h.tape, k.output.trans h.output, Nat.le_trans h.size k.size, fun i hi hne => (k.block i (Nat.lt_of_lt_of_le hi h.size) hne).trans (h.block i hi hne), fun g cur e => by
    obtain ⟨c1, e1, s1⟩ := h.ints g cur e
    obtain ⟨c2, e2, s2⟩ := k.ints g c1 e1
    exact ⟨c2, e2, by omega⟩⟩
theorem Spoilt.alloc {B C : Nat} {w w1 : World} (h : Spoilt B C w w1) (o : Obj) : Spoilt B C w (w1.alloc o) :=
  h.trans ⟨rfl, rfl, rfl, by simp, fun k hk _ => Go.Deep.blk_alloc_lt _ _ _ hk, fun g cur e => ⟨cur, blk_old e o, rfl⟩⟩
theorem Spoilt.below {B C : Nat} {w w1 : World} (h : Spoilt B C w w1) (hB : B ≤ w.heap.size) : Below B w w1 := ⟨h.os, h.tape, h.output, h.size, fun k hk => h.block k (by omega) (Or.inl hk)⟩
theorem SpRow.spoilt {w w' : World} {B C D E : Nat} {pa : Option Addr} {pc : Nat} (h : SpRow w B C pa pc) (hs : Spoilt D E w w') : SpRow w' B C pa pc := by
  rcases h with h | ⟨g, off, cur, e, hB, hC, hg, hc, hm⟩
  · exact Or.inl h
  · obtain ⟨c1, e1, s1⟩ := hs.ints g cur hg
    exact Or.inr ⟨g, off, c1, e, hB, hC, e1, by omega, hm⟩
theorem SpRow.alloc {w : World} {B C : Nat} {pa : Option Addr} {pc : Nat} (h : SpRow w B C pa pc) (o : Obj) : SpRow (w.alloc o) B C pa pc := h.spoilt ((Spoilt.refl 0 0 w).alloc o)
theorem SpRow.below {w w' : World} {B C D : Nat} {pa : Option Addr} {pc : Nat} (h : SpRow w B C pa pc) (hb : Below D w w') (hD : w.heap.size ≤ D) : SpRow w' B C pa pc := by
  rcases h with h | ⟨g, off, cur, e, hB, hC, hg, hc, hm⟩
  · exact Or.inl h
  · exact Or.inr ⟨g, off, cur, e, hB, hC, blk_below hb hg (by have := (Array.getElem?_eq_some_iff.1 hg).1; omega), hc, hm⟩
theorem Spoilt.set {B C : Nat} {w w1 : World} (h : Spoilt B C w w1) {g : Nat} (hB : B ≤ g) (hC : g < C) {cur : Array Value} (hg : w1.heap[g]? = some (.cells cur 3 (0, 0))) (o : Nat) (v : Value) : Spoilt B C w (w1.setCell ⟨g, o, none⟩ v) := by
  have hs : (w1.setCell ⟨g, o, none⟩ v).heap[g]? = some (.cells (cur.setIfInBounds o v) 3 (0, 0)) := by simp [World.setCell, Array.getElem?_modify, hg]
  refine h.trans ⟨rfl, rfl, rfl, by simp [World.setCell], fun k hk hne => Below.heap_setCell _ _ _ _ (by show k ≠ g; omega), fun g' cur' e => ?_⟩
  by_cases c : g' = g
  · subst c
    rw [hg] at e
    simp only [Option.some.injEq, Obj.cells.injEq] at e
    exact ⟨_, hs, by rw [Array.size_setIfInBounds, e.1]⟩
  · exact ⟨cur', (Below.heap_setCell _ _ _ _ c).trans e, rfl⟩

set_option maxHeartbeats 800000 in
theorem spoilI_any (B C n : Nat) (pa : Option Addr) (pc : Nat) (x : Int) (w : World) (hn : n ≤ pc) (h : SpRow w B C pa pc) :
    Calls Try.prog 17 #[.slice pa n pc, .int .i64 x] w fun e w' => e = .returned (.tuple #[]) ∧ Spoilt B C w w' := by
  rcases h with ⟨rfl, rfl⟩ | ⟨g, off, cur, rfl, hB, hC, hg, hc, hm⟩
  · obtain rfl : n = 0 := by omega
    go_enter Try.func17, Try.ntmps17
    go_wp2
    go_loopw [11] (fun i wr => i = .int .i64 0 ∧ wr = w) (fun i _ => 0)
    case atStart => exact ⟨rfl, rfl⟩
    case round =>
      obtain ⟨rfl, rfl⟩ := hrel
      go_wp2
      go_end0
      exact ⟨rfl, Spoilt.refl _ _ _⟩
  · unfold maxLen at hm
    go_enter Try.func17, Try.ntmps17
    go_wp2
    go_loopw [11] (fun i wr => ∃ k : Nat, k ≤ pc ∧ i = .int .i64 k ∧ Hid (Spoilt B C w wr)) (fun i _ => pc - (intOf i).toNat)
    case atStart => exact ⟨0, Nat.zero_le _, rfl, Spoilt.refl _ _ _⟩
    case round =>
      obtain ⟨k, hk, rfl, hS⟩ := hrel
      by_cases hk2 : k < pc
      · obtain ⟨c1, e1, s1⟩ := hS.out.ints g cur hg
        have r0 : wr.cell? ⟨g, off + k, none⟩ = some (c1.getD (off + k) (.bool false)) := by
          have : off + k < c1.size := by omega
          simp [World.cell?, e1, this]
        have f0 : wr.frozen? ⟨g, off + k, none⟩ = false := by simp [World.frozen?, e1]
        have HS : Hid (Spoilt B C w (wr.setCell ⟨g, off + k, none⟩ (.int .i64 x))) := hS.out.set hB hC e1 _ _
        clear e1 hg hc s1
        go_wp2
        go_roundw
        case rel => exact ⟨k + 1, by omega, by go_num, HS⟩
        case measure => simp [intOf]; omega
      · go_wp2
        go_end0
        exact ⟨rfl, hS.out⟩

end Go.Proofs.Ytgmifepfbcgfbaa
