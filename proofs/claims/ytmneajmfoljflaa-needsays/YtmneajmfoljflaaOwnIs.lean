/- Integers that one may write to; slices.Clone of integers, whatever is handed in. -/
import Derived.Test.YtmneajmfoljflaaCloneI
import Derived.Test.YtmneajmfoljflaaJoinedA
namespace Go.Proofs.Ytmneajmfoljflaa
open Go.RowKit
set_option linter.unusedVariables false

/-- integers in a row of our own -/
def OwnIs (w : World) (B : Nat) (ao : Option Addr) (cap : Nat) (l : List Int) : Prop :=
  (ao = none ∧ cap = 0 ∧ l = []) ∨ ∃ g, ao = some ⟨g, 0, none⟩ ∧ B ≤ g ∧ cap ≤ maxLen ∧ OwnI w g cap l.length (ati l)

theorem OwnI.le {w : World} {g cap N : Nat} {h : Nat → Int} (H : OwnI w g cap N h) : N ≤ cap := by obtain ⟨f, h1, h2, _⟩ := H; exact h2
theorem own_is {w : World} {B : Nat} {v : Value} {l : List Int} (h : w.ownsRow B 3 1 v l.length (flati l)) : ∃ ao cap, v = .slice ao l.length cap ∧ OwnIs w B ao cap l := by
  by_cases h0 : l.length = 0
  · have hl : l = [] := List.eq_nil_of_length_eq_zero h0
    rcases h.2 with ⟨rfl, hn⟩ | ⟨g, cap, cur, rfl, hB, hg, hle, hcap, hcs, htk⟩
    · exact ⟨none, 0, by rw [hn], Or.inl ⟨rfl, rfl, hl⟩⟩
    · refine ⟨_, _, rfl, Or.inr ⟨g, rfl, hB, hcap, fun i => cur.getD i (.bool false), ⟨cur, hg, by omega, fun i hi => by simp [Array.getD, hcs, hi]⟩, by omega, fun j hj => absurd hj (by omega)⟩⟩
  · have hm := owns_ints h
    obtain ⟨g, cap, rfl, hB, hO⟩ := own_ints (N := l.length) (by omega) rfl h
    obtain ⟨ao', cap', e, _, _, _, hc⟩ := hm
    cases e
    exact ⟨_, _, rfl, Or.inr ⟨g, rfl, hB, hc, hO⟩⟩
theorem OwnIs.arg {w : World} {B : Nat} {ao : Option Addr} {cap : Nat} {l : List Int} (h : OwnIs w B ao cap l) : IntsIn w ao cap l := by
  rcases h with ⟨rfl, rfl, rfl⟩ | ⟨g, rfl, hB, hcap, hO⟩
  · exact ⟨fun i hi => absurd hi (Nat.not_lt_zero _), Nat.le_refl _, Nat.zero_le _, fun _ => ⟨rfl, rfl⟩⟩
  · refine ⟨fun i hi => ⟨g, 0, rfl, hO.lt, ?_⟩, hO.le, hcap, fun e => by cases e⟩
    rw [Nat.zero_add, hO.cell hi]
theorem OwnIs.alloc {w : World} {B : Nat} {ao : Option Addr} {cap : Nat} {l : List Int} (h : OwnIs w B ao cap l) (o : Obj) : OwnIs (w.alloc o) B ao cap l := by
  rcases h with h | ⟨g, e, hB, hcap, hO⟩
  · exact Or.inl h
  · exact Or.inr ⟨g, e, hB, hcap, hO.alloc o⟩
theorem OwnIs.drewN {w : World} {B : Nat} {ao : Option Addr} {cap : Nat} {l : List Int} (h : OwnIs w B ao cap l) (q : Nat) : OwnIs (w.drewN q) B ao cap l := by
  rcases h with h | ⟨g, e, hB, hcap, hO⟩
  · exact Or.inl h
  · exact Or.inr ⟨g, e, hB, hcap, hO.drewN q⟩
theorem OwnIs.setOther {w : World} {B : Nat} {ao : Option Addr} {cap : Nat} {l : List Int} (h : OwnIs w B ao cap l) {p : Addr} (hp : p.block < B) (v : Value) : OwnIs (w.setCell p v) B ao cap l := by
  rcases h with h | ⟨g, e, hB, hcap, f, hO, h2, h3⟩
  · exact Or.inl h
  · exact Or.inr ⟨g, e, hB, hcap, f, hO.setOther (by omega) v, h2, h3⟩
theorem OwnIs.below {w w' : World} {B C : Nat} {ao : Option Addr} {cap : Nat} {l : List Int} (h : OwnIs w B ao cap l) (hb : Below C w w') (hC : w.heap.size ≤ C) : OwnIs w' B ao cap l := by
  rcases h with h | ⟨g, e, hB, hcap, f, hO, h2, h3⟩
  · exact Or.inl h
  · exact Or.inr ⟨g, e, hB, hcap, f, hO.of_block (hb.block _ (by have := hO.lt; omega)), h2, h3⟩
/-- one number: where it lies -/
theorem OwnIs.at {w : World} {B : Nat} {ao : Option Addr} {cap : Nat} {l : List Int} (h : OwnIs w B ao cap l) {i : Nat} (hi : i < l.length) : ∃ g, ao = some ⟨g, 0, none⟩ ∧ B ≤ g ∧ g < w.heap.size ∧ l.length ≤ cap ∧
    w.cell? ⟨g, i, none⟩ = some (.int .i64 (ati l i)) ∧ w.frozen? ⟨g, i, none⟩ = false := by
  rcases h with ⟨rfl, rfl, rfl⟩ | ⟨g, rfl, hB, hcap, hO⟩
  · exact absurd hi (Nat.not_lt_zero _)
  · exact ⟨g, rfl, hB, hO.lt, hO.le, hO.cell hi, hO.frozen i⟩
/-- a number changed -/
theorem OwnIs.set {w : World} {B : Nat} {g cap : Nat} {l m : List Int} (h : OwnIs w B (some ⟨g, 0, none⟩) cap l) {i : Nat} {c : Int} (hlen : m.length = l.length) (hm : ∀ j, j < l.length → ati m j = if j = i then c else ati l j) :
    OwnIs (w.setCell ⟨g, i, none⟩ (.int .i64 c)) B (some ⟨g, 0, none⟩) cap m := by
  rcases h with ⟨e, _, _⟩ | ⟨g', e, hB, hcap, hO⟩
  · cases e
  · cases e
    refine Or.inr ⟨g, rfl, hB, hcap, ?_⟩
    rw [hlen]
    exact (hO.set i c).congr fun j hj => (hm j hj).symm


end Go.Proofs.Ytmneajmfoljflaa
