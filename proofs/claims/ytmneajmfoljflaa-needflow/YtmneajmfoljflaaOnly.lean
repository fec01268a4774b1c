/- A call that turns one block of what lay there. -/
import Derived.Test.YtmneajmfoljflaaBase
namespace Go.Proofs.Ytmneajmfoljflaa
open Go.RowKit
set_option linter.unusedVariables false

/-- of what lay in w only block b has turned -/
structure Only (b : Nat) (w w' : World) : Prop where
  os : w'.os = w.os
  tape : w'.tape = w.tape
  output : w'.output = w.output
  size : w.heap.size ≤ w'.heap.size
  block : ∀ k, k < w.heap.size → k ≠ b → w'.heap[k]? = w.heap[k]?

theorem Only.below {b B : Nat} {w w' : World} (h : Only b w w') (hb : B ≤ b) (hB : B ≤ w.heap.size) : Below B w w' :=
  ⟨h.os, h.tape, h.output, h.size, fun k hk => h.block k (by omega) (by omega)⟩

theorem Only.blk {b : Nat} {w w' : World} (h : Only b w w') {k : Nat} {o : Obj} (hk : w.heap[k]? = some o) (hne : k ≠ b) : w'.heap[k]? = some o :=
  (h.block k (Array.getElem?_eq_some_iff.1 hk).1 hne).trans hk

theorem Only.arcs {b : Nat} {w w' : World} (h : Only b w w') {ao : Option Addr} {l : List Arc3} (hA : ArcsAt w ao l) (hne : ∀ c off, ao = some ⟨c, off, none⟩ → c ≠ b) : ArcsAt w' ao l := by
  intro i hi
  obtain ⟨c, off, rfl, hlt, c0, c1, c2⟩ := hA i hi
  have hb : ∀ o, w'.cell? ⟨c, o, none⟩ = w.cell? ⟨c, o, none⟩ := fun o => World.cell?_of_block (w := w) (a := ⟨c, o, none⟩) (h.block c hlt (hne c off rfl))
  exact ⟨c, off, rfl, Nat.lt_of_lt_of_le hlt h.size, (hb _).trans c0, (hb _).trans c1, (hb _).trans c2⟩

theorem Only.row {b : Nat} {w w' : World} (h : Only b w w') {c : Nat} {t : TypeId} {n : Nat} {f : Nat → Value} (hr : w.rowIs c t n f) (hne : c ≠ b) : w'.rowIs c t n f :=
  hr.of_block (h.block c hr.lt hne)

theorem Only.ints {b : Nat} {w w' : World} (h : Only b w w') {ao : Option Addr} {l : List Int} (hA : IntsAt w ao l) (hne : ∀ c off, ao = some ⟨c, off, none⟩ → c ≠ b) : IntsAt w' ao l := by
  intro i hi
  obtain ⟨c, off, rfl, hlt, c0⟩ := hA i hi
  exact ⟨c, off, rfl, Nat.lt_of_lt_of_le hlt h.size, (World.cell?_of_block (w := w) (a := ⟨c, off + i, none⟩) (h.block c hlt (hne c off rfl))).trans c0⟩
theorem Only.refl (b : Nat) (w : World) : Only b w w := ⟨rfl, rfl, rfl, Nat.le_refl _, fun _ _ _ => rfl⟩
theorem Only.setCell {b o : Nat} {w w' : World} (h : Only b w w') (v : Value) : Only b w (w'.setCell ⟨b, o, none⟩ v) :=
  ⟨h.os, h.tape, h.output, by simpa using h.size, fun k hk hne => (Go.Deep.blk_setCell_other _ _ _ _ hne).trans (h.block k hk hne)⟩
theorem Only.alloc {b : Nat} {w w' : World} (h : Only b w w') (o : Obj) : Only b w (w'.alloc o) :=
  ⟨h.os, h.tape, h.output, by have := h.size; simp; omega, fun k hk hne => by
    have hk' : k < w'.heap.size := Nat.lt_of_lt_of_le hk h.size
    rw [Go.Deep.blk_alloc_lt _ _ _ hk']
    exact h.block k hk hne⟩
theorem Only.drew {b : Nat} {w w' : World} (h : Only b w w') : Only b w w'.drew := ⟨h.os, h.tape, h.output, h.size, h.block⟩
theorem Only.grown {b : Nat} {w w' : World} (h : Only b w w') : w.grownBy w' (some b) := ⟨h.os, h.tape, h.output, h.size, fun k hk hne => h.block k hk fun e => hne (by rw [e])⟩

end Go.Proofs.Ytmneajmfoljflaa
