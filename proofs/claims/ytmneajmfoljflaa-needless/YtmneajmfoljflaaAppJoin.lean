/- An append of the call's own row in a region that draws its order. -/
import Derived.Test.YtmneajmfoljflaaOwns
import Derived.BigRegion
import Derived.Deep.RegionHeld3
namespace Go.Proofs.Ytmneajmfoljflaa
open Go.RowKit
set_option linter.unusedVariables false

theorem step_append_own {P : Program} {ops : Array Oper} {o : Oper} {a : Act} {w : World} {K : Act → World → Prop} {Q : Exit → Act → World → Prop} {E : Prop} (hgd : o.guard = none) (s x : Operand) (t : TypeId)
    (ho : o.op = .call { callee := .builtin .append, args := #[s, x], argTypes := #[t, t] })
    (base : Nat) (e : TypeId) (i : TypeInfo) (z : Value) (size bytes : Nat) (ht : P.underlying t = some (.slice e)) (hi : P.info? e = some i) (hz : i.zero = some z)
    (hsize : i.size = size) (hby : i.bytes = bytes) (hzs : z.cells.size = size) (hsz : 0 < size)
    (v : Value) (n : Nat) (xs : List Value) (hs : a.eval s = v) (hown : w.ownsRow base e size v n xs)
    (ad : Addr) (m c : Nat) (news : List Value) (hx : a.eval x = .slice (some ad) m c) (hl : news.length = m * size) (hnews : ∀ j u, news[j]? = some u → w.cell? (ad.add j) = some u) (h1 : ∀ u ∈ news, u.oneCell' = true)
    (h63 : n + m ≤ maxLen) (hbytes : (n + m) * bytes ≤ 140737488355328) (hbase : base ≤ w.heap.size)
    (h : ∀ v' w', w'.ownsRow base e size v' (n + m) (xs ++ news) → w.grownBy w' v.ownBlock → (v' = .slice none 0 0 ↔ v = .slice none 0 0 ∧ m = 0) → K (a.put o.dst v') w') :
    if Region.wanted o (yielded ops a.tmps) = true then Oper.wp P o a w K Q else E := by
  have hw : Region.wanted o (yielded ops a.tmps) = true := by simp [Region.wanted, hgd]
  rw [if_pos hw]
  exact wp_append_own w s x t ho base e i z size bytes ht hi hz hsize hby hzs hsz v n xs hs hown ad m c news hx hl hnews h1 h63 hbytes hbase h

theorem owns_shape {w : World} {B : Nat} {t : TypeId} {s : Nat} {v : Value} {n : Nat} {xs : List Value} (h : w.ownsRow B t s v n xs) : ∃ ao cap, v = .slice ao n cap := by
  rcases h.2 with ⟨rfl, hn⟩ | ⟨g, cap, cur, rfl, _⟩
  · exact ⟨none, 0, by rw [hn]⟩
  · exact ⟨_, _, rfl⟩

/-- a struct of three cells in a block of its own -/
theorem blk3 {w : World} {b : Nat} {x y z : Value} {t : TypeId} (h : w.heap[b]? = some (.cells #[x, y, z] t (0, 0))) :
    w.cell? ⟨b, 0, none⟩ = some x ∧ w.cell? ⟨b, 1, none⟩ = some y ∧ w.cell? ⟨b, 2, none⟩ = some z := by
  have r : w.rowIs b t 3 (fun j => if j = 0 then x else if j = 1 then y else z) := ⟨_, h, rfl, fun i hi => by
    match i, hi with
    | 0, _ => rfl
    | 1, _ => rfl
    | 2, _ => rfl⟩
  exact ⟨r.cell (i := 0) (by omega), r.cell (i := 1) (by omega), r.cell (i := 2) (by omega)⟩

theorem below_al {w0 x : World} (h : Below w0.heap.size w0 x) (o : Obj) : Below w0.heap.size w0 (x.alloc o) := h.alloc h.size o
theorem below_tr {w0 x y : World} (h : Below w0.heap.size w0 x) (k : Below x.heap.size x y) : Below w0.heap.size w0 y := h.trans (k.mono h.size)
theorem blk_new' {w : World} {o : Obj} {b : Nat} (h : b = w.heap.size) : (w.alloc o).heap[b]? = some o := by subst h; exact blk_new w o
theorem blk_drew {w : World} {o : Obj} {b : Nat} (h : w.heap[b]? = some o) : w.drew.heap[b]? = some o := h
theorem owns_ne' {w : World} {B : Nat} {t t' : TypeId} {s : Nat} {ao : Option Addr} {n cap : Nat} {xs : List Value} (h : w.ownsRow B t s (.slice ao n cap) n xs) {p : Nat} {c : Array Value} {fr : Nat × Nat} (hp : w.heap[p]? = some (.cells c t' fr)) (ht : t ≠ t') : ∀ b off, ao = some ⟨b, off, none⟩ → b ≠ p := by
  intro b off e e2
  rcases h.2 with ⟨e3, _⟩ | ⟨g', cap', cur, e3, hB, hg, _⟩
  · rw [e] at e3; cases e3
  · rw [e] at e3
    simp only [Value.slice.injEq, Option.some.injEq, Addr.mk.injEq] at e3
    obtain ⟨⟨rfl, _⟩, _⟩ := e3
    subst e2
    rw [hp] at hg
    simp only [Option.some.injEq, Obj.cells.injEq] at hg
    exact ht hg.2.1.symm
theorem pre0 {w w7 : World} {o : Obj} (h : Below (w.alloc o).drew.heap.size (w.alloc o).drew w7) : w7.heap[w.heap.size]? = some o :=
  (h.block _ (by show w.heap.size < (w.alloc o).heap.size; simp)).trans (blk_new w o)
theorem pre01 {w w7 : World} {o o' : Obj} (h : Below ((w.alloc o).alloc o').drew.heap.size ((w.alloc o).alloc o').drew w7) : w7.heap[w.heap.size]? = some o :=
  (h.block _ (by show w.heap.size < ((w.alloc o).alloc o').heap.size; simp; omega)).trans (blk_old (blk_new w o) o')
theorem blk_new1 {w : World} {o o' : Obj} : ((w.alloc o).alloc o').heap[w.heap.size + 1]? = some o' := by
  have := blk_new (w.alloc o) o'
  rwa [World.size_alloc] at this
theorem pre1 {w w7 : World} {o o' : Obj} (h : Below ((w.alloc o).alloc o').drew.heap.size ((w.alloc o).alloc o').drew w7) : w7.heap[w.heap.size + 1]? = some o' :=
  (h.block _ (by show w.heap.size + 1 < ((w.alloc o).alloc o').heap.size; simp)).trans blk_new1
theorem grown_blk {w w' : World} {B n s : Nat} {t t' : TypeId} {v : Value} {xs : List Value} {p : Nat} {c : Array Value} {fr : Nat × Nat} (hown : w.ownsRow B t s v n xs) (hg : w.grownBy w' v.ownBlock) (ht : t ≠ t') (hp : w.heap[p]? = some (.cells c t' fr)) : w'.heap[p]? = some (.cells c t' fr) := by
  rw [hg.block p (Array.getElem?_eq_some_iff.1 hp).1 ?_]
  · exact hp
  · intro e
    rcases hown.2 with ⟨rfl, _⟩ | ⟨g, cap, cur, rfl, _, hh, _⟩
    · cases e
    · simp only [Value.ownBlock, Option.some.injEq] at e
      subst e
      rw [hp] at hh
      simp only [Option.some.injEq, Obj.cells.injEq] at hh
      exact ht hh.2.1.symm
theorem grown_bel {w0 w w' : World} {n s : Nat} {t : TypeId} {v : Value} {xs : List Value} (h : Below w0.heap.size w0 w) (hown : w.ownsRow w0.heap.size t s v n xs) (hg : w.grownBy w' v.ownBlock) : Below w0.heap.size w0 w' :=
  h.grown hg h.size (by
    intro g e
    rcases hown.2 with ⟨rfl, _⟩ | ⟨g', _, _, rfl, hB0, _⟩
    · cases e
    · simp only [Value.ownBlock, Option.some.injEq] at e; omega)
theorem news3 {w : World} {b : Nat} {x y z : Value} {t : TypeId} (h : w.heap[b]? = some (.cells #[x, y, z] t (0, 0))) : ∀ j u, [x, y, z][j]? = some u → w.cell? ((⟨b, 0, none⟩ : Addr).add j) = some u := by
  obtain ⟨h0, h1, h2⟩ := blk3 h
  intro j u hj
  match j, hj with
  | 0, hj => simp at hj; subst hj; simpa [Addr.add] using h0
  | 1, hj => simp at hj; subst hj; simpa [Addr.add] using h1
  | 2, hj => simp at hj; subst hj; simpa [Addr.add] using h2

theorem step_append_join {P : Program} {ops : Array Oper} {o : Oper} {a : Act} {w w0 : World} {K : Act → World → Prop} {Q : Exit → Act → World → Prop} {E : Prop} (hgd : o.guard = none) (s x : Operand) (t : TypeId)
    (ho : o.op = .call { callee := .builtin .append, args := #[s, x], argTypes := #[t, t] })
    (e : TypeId) (i : TypeInfo) (z : Value) (size bytes : Nat) (ht : P.underlying t = some (.slice e)) (hi : P.info? e = some i) (hz : i.zero = some z)
    (hsize : i.size = size) (hby : i.bytes = bytes) (hzs : z.cells.size = size) (hsz : 0 < size)
    (v : Value) (n : Nat) (xs : List Value) (hs : a.eval s = v) (hown : w.ownsRow w0.heap.size e size v n xs) (hB : Below w0.heap.size w0 w)
    (ad : Addr) (m c : Nat) (news : List Value) (hx : a.eval x = .slice (some ad) m c) (hl : news.length = m * size) (hnews : ∀ j u, news[j]? = some u → w.cell? (ad.add j) = some u) (h1 : ∀ u ∈ news, u.oneCell' = true)
    (h63 : n + m ≤ maxLen) (hbytes : (n + m) * bytes ≤ 140737488355328)
    (h : ∀ ao' cap' w', w'.ownsRow w0.heap.size e size (.slice ao' (n + m) cap') (n + m) (xs ++ news) → Below w0.heap.size w0 w' → (∀ (p : Nat) (c : Array Value) (t' : TypeId) (fr : Nat × Nat), e ≠ t' → w.heap[p]? = some (.cells c t' fr) → w'.heap[p]? = some (.cells c t' fr)) → K (a.put o.dst (.slice ao' (n + m) cap')) w') :
    if Region.wanted o (yielded ops a.tmps) = true then Oper.wp P o a w K Q else E := by
  refine step_append_own hgd s x t ho w0.heap.size e i z size bytes ht hi hz hsize hby hzs hsz v n xs hs hown ad m c news hx hl hnews h1 h63 hbytes hB.size (fun v' w' h2 h3 _ => ?_)
  obtain ⟨ao', cap', rfl⟩ := owns_shape h2
  exact h _ _ _ h2 (grown_bel hB hown h3) (fun p c t' fr ht hp => grown_blk hown h3 ht hp)

end Go.Proofs.Ytmneajmfoljflaa
