/- What a copied net lies in: words for the statement 'api.Net{.., Arcs: slices.Clone(n.Arcs)}'. -/
import Derived.Test.YtgmifepfbcgfbaaNet
import Derived.Test.YtgmifepfbcgfbaaOwnA
import Derived.Test.YtgmifepfbcgfbaaClone
import Derived.Test.YtgmifepfbcgfbaaAppJoin
namespace Go.Proofs.Ytgmifepfbcgfbaa
open Go.RowKit
set_option linter.unusedVariables false

theorem pre_al {W x : World} {o : Obj} (h : Below (W.alloc o).drew.heap.size (W.alloc o).drew x) : x.heap[W.heap.size]? = some o :=
  blk_below h (blk_new W o) (by simp)
theorem blk4_set {w : World} {p : Nat} {x y z u : Value} {t : TypeId} (h : w.heap[p]? = some (.cells #[x, y, z, u] t (0, 0))) (a b c d : Value) :
    ((((w.setCell ⟨p, 0, none⟩ a).setCell ⟨p, 1, none⟩ b).setCell ⟨p, 2, none⟩ c).setCell ⟨p, 3, none⟩ d).heap[p]? = some (.cells #[a, b, c, d] t (0, 0)) := by
  simp [World.setCell, Array.getElem?_modify, h]

theorem below_set4 {W x : World} (h : Below W.heap.size W x) (a b c d : Value) : Below W.heap.size W ((((x.setCell ⟨W.heap.size, 0, none⟩ a).setCell ⟨W.heap.size, 1, none⟩ b).setCell ⟨W.heap.size, 2, none⟩ c).setCell ⟨W.heap.size, 3, none⟩ d) :=
  (((h.setCell (Nat.le_refl _) _).setCell (Nat.le_refl _) _).setCell (Nat.le_refl _) _).setCell (Nat.le_refl _) _

/-- a copied net: where it lies, and its arcs, which are our own -/
structure NetCopy (W wx : World) (p : Nat) (n s t : Int) (ao : Option Addr) (cap : Nat) (l : List Arc3) : Prop where
  new : W.heap.size ≤ p
  blk : wx.heap[p]? = some (.cells #[.int .i64 n, .int .i64 s, .int .i64 t, .slice ao l.length cap] 24 (0, 0))
  own : OwnA wx W.heap.size ao cap l
  apart : ∀ g, ao = some ⟨g, 0, none⟩ → g ≠ p
  below : Below W.heap.size W wx

/-- the struct laid behind the arcs -/
theorem netCopy_late {W w3 : World} {n s t : Int} {ao : Option Addr} {cap B : Nat} {l : List Arc3} (hb : Below W.heap.size W w3) (hB : W.heap.size ≤ B) (hown : w3.ownsRow B 35 3 (.slice ao l.length cap) l.length (flat l)) :
    NetCopy W (w3.alloc (.cells #[.int .i64 n, .int .i64 s, .int .i64 t, .slice ao l.length cap] 24)) w3.heap.size n s t ao cap l := by
  obtain ⟨ao', cap', e, hO⟩ := own_arcs (owns_weaken hown hB)
  cases e
  refine ⟨hb.size, blk_new _ _, hO.alloc _, fun g e => ?_, hb.alloc hb.size _⟩
  have := owns_lt hown g cap (by rw [e])
  omega
/-- the struct laid ahead of them -/
theorem netCopy_early {W w3 : World} {n s t : Int} {ao : Option Addr} {cap : Nat} {l : List Arc3} {x y z u : Value} (hb : Below W.heap.size W w3) (hblk : w3.heap[W.heap.size]? = some (.cells #[x, y, z, u] 24 (0, 0))) (hown : w3.ownsRow (W.heap.size + 1) 35 3 (.slice ao l.length cap) l.length (flat l)) :
    NetCopy W ((((w3.setCell ⟨W.heap.size, 0, none⟩ (.int .i64 n)).setCell ⟨W.heap.size, 1, none⟩ (.int .i64 s)).setCell ⟨W.heap.size, 2, none⟩ (.int .i64 t)).setCell ⟨W.heap.size, 3, none⟩ (.slice ao l.length cap)) W.heap.size n s t ao cap l := by
  have hlt := owns_lt hown
  have hne : ∀ a : Addr, (Value.slice ao l.length cap) = .slice (some a) l.length 0 ∨ True → ∀ g c, (Value.slice ao l.length cap) = .slice (some ⟨g, 0, none⟩) l.length c → g ≠ W.heap.size := fun _ _ g c e => by
    have := (hlt g c e).1; omega
  have h4 := owns_set (owns_set (owns_set (owns_set hown (p := ⟨W.heap.size, 0, none⟩) hne (.int .i64 n)) (p := ⟨W.heap.size, 1, none⟩) hne (.int .i64 s)) (p := ⟨W.heap.size, 2, none⟩) hne (.int .i64 t)) (p := ⟨W.heap.size, 3, none⟩) hne (.slice ao l.length cap)
  obtain ⟨ao', cap', e, hO⟩ := own_arcs (owns_weaken h4 (Nat.le_succ _))
  cases e
  refine ⟨Nat.le_refl _, blk4_set hblk _ _ _ _, hO, fun g e => ?_, (((hb.setCell (Nat.le_refl _) _).setCell (Nat.le_refl _) _).setCell (Nat.le_refl _) _).setCell (Nat.le_refl _) _⟩
  have := (hlt g cap (by rw [e])).1
  omega

/-- one arc changed -/
theorem at3_set {l : List Arc3} {k j : Nat} {a : Arc3} (hj : j < l.length) : at3 (l.set k a) j = if j = k then a else at3 l j := by
  rw [at3_lt _ _ (by rw [List.length_set]; exact hj), at3_lt _ _ hj, List.getElem_set]
  by_cases e : k = j
  · subst e; simp
  · rw [if_neg e, if_neg (fun h => e h.symm)]
theorem net_set {n s t : Int} {l : List Arc3} {k : Nat} {c : Int} (hk : k < l.length) (h : netErr n s t l = 0) (hc : 0 ≤ c ∧ c ≤ 10000) : netErr n s t (l.set k ((at3 l k).1, (at3 l k).2.1, c)) = 0 := by
  obtain ⟨h1, h2, h3, h4⟩ := net_ok h
  obtain ⟨a1, a2, a3⟩ := err_ok h1
  refine net_mk ⟨err_mk ⟨a1, by rw [List.length_set]; exact a2, fun a ha => ?_⟩, h2, h3, h4⟩
  obtain ⟨j, hj, rfl⟩ := List.mem_iff_getElem.1 ha
  rw [List.length_set] at hj
  rw [← at3_lt _ _ (by rw [List.length_set]; exact hj), at3_set hj]
  by_cases e : j = k
  · rw [if_pos e]
    have := a3 _ (at3_mem l k hk)
    exact ⟨this.1, this.2.1, hc.1, hc.2⟩
  · rw [if_neg e]
    exact a3 _ (at3_mem l j hj)
theorem OwnA.setOther {w : World} {B g : Nat} {cap : Nat} {l : List Arc3} (h : OwnA w B (some ⟨g, 0, none⟩) cap l) {p : Addr} (hp : g ≠ p.block) (v : Value) : OwnA (w.setCell p v) B (some ⟨g, 0, none⟩) cap l := by
  rcases h with ⟨h, _⟩ | ⟨g', f, e', hB, hle, hcap, hr, hf⟩
  · cases h
  · cases e'; exact Or.inr ⟨g, f, rfl, hB, hle, hcap, hr.setOther hp v, hf⟩
theorem OwnA.below {w w' : World} {B C : Nat} {ao : Option Addr} {cap : Nat} {l : List Arc3} (h : OwnA w B ao cap l) (hb : Below C w w') (hC : w.heap.size ≤ C) : OwnA w' B ao cap l := by
  rcases h with h | ⟨g, f, e, hB, hle, hcap, hr, hf⟩
  · exact Or.inl h
  · exact Or.inr ⟨g, f, e, hB, hle, hcap, hr.of_block (hb.block _ (by have := hr.lt; omega)), hf⟩
theorem OwnA.lt {w : World} {B : Nat} {ao : Option Addr} {cap : Nat} {l : List Arc3} (h : OwnA w B ao cap l) {g : Nat} (e : ao = some ⟨g, 0, none⟩) : g < w.heap.size := by
  rcases h with ⟨h, _⟩ | ⟨g', f, e', hB, hle, hcap, hr, hf⟩
  · rw [h] at e; cases e
  · rw [e] at e'; cases e'; exact hr.lt

end Go.Proofs.Ytgmifepfbcgfbaa
