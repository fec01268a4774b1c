/- Plain facts on arcs taken one by one in their order (KRUSKAL): names of parts, what is taken, when two are joined. -/
import Derived.Test.YtgmdacobbeoobaaSpanC
import Derived.Test.YtgmdacobbeoobaaSums
namespace Go.Proofs.Ytgmdacobbeoobaa
set_option linter.unusedVariables false

def atn (O : List Nat) (k : Nat) : Nat := O.getD k 0
theorem atn_lt (O : List Nat) (k : Nat) (h : k < O.length) : atn O k = O[k] := by simp [atn, h]
theorem atn_mem (O : List Nat) (k : Nat) (h : k < O.length) : atn O k ∈ O := by rw [atn_lt O k h]; exact List.getElem_mem h
theorem take_snocn (O : List Nat) (k : Nat) (h : k < O.length) : O.take (k + 1) = O.take k ++ [atn O k] := by
  rw [atn_lt O k h, List.take_succ_eq_append_getElem h]

/-- the numbers of the arcs, by Cap, then by number -/
structure OrdIs (l : List Arc3) (O : List Nat) : Prop where
  perm : O.Perm (List.range l.length)
  up : O.Pairwise (ltA l)

theorem OrdIs.len {l : List Arc3} {O : List Nat} (h : OrdIs l O) : O.length = l.length := by simpa using h.perm.length_eq
theorem OrdIs.lt {l : List Arc3} {O : List Nat} (h : OrdIs l O) {i : Nat} (hi : i ∈ O) : i < l.length := List.mem_range.1 (h.perm.mem_iff.1 hi)
theorem OrdIs.mem {l : List Arc3} {O : List Nat} (h : OrdIs l O) {i : Nat} (hi : i < l.length) : i ∈ O := h.perm.mem_iff.2 (List.mem_range.2 hi)

theorem OrdIs.ahead {l : List Arc3} {O : List Nat} (h : OrdIs l O) {k j : Nat} (hk : k < O.length) : j ∈ O.take k ↔ j < l.length ∧ ltA l j (atn O k) := by
  have hp := List.pairwise_iff_getElem.1 h.up
  rw [atn_lt O k hk]
  constructor
  · intro hj
    obtain ⟨i, hi, rfl⟩ := List.mem_take_iff_getElem.1 hj
    exact ⟨h.lt (List.getElem_mem _), hp i k (by omega) hk (by omega)⟩
  · rintro ⟨hj, hlt⟩
    obtain ⟨i, hi, rfl⟩ := List.mem_iff_getElem.1 (h.mem hj)
    refine List.mem_take_iff_getElem.2 ⟨i, ?_, rfl⟩
    rcases Nat.lt_trichotomy i k with e | e | e
    · omega
    · subst e; exact absurd hlt (ltA_irrefl l _)
    · exact absurd (ltA_trans hlt (hp k i hk hi e)) (ltA_irrefl l _)

/-- the arcs that have been looked at -/
def seen (l : List Arc3) (O : List Nat) (k : Nat) : List Arc3 := (O.take k).map (at3 l)
theorem seen_zero (l : List Arc3) (O : List Nat) : seen l O 0 = [] := rfl
theorem seen_snoc (l : List Arc3) (O : List Nat) (k : Nat) (h : k < O.length) (a : Arc3) : a ∈ at3 l (atn O k) :: seen l O k ↔ a ∈ seen l O (k + 1) := by
  unfold seen
  rw [take_snocn O k h, List.map_append, List.mem_append, List.mem_cons, List.map_singleton, List.mem_singleton]
  exact Or.comm
theorem OrdIs.seen_bef {l : List Arc3} {O : List Nat} (h : OrdIs l O) {k : Nat} (hk : k < O.length) {u v : Int} : Jn (seen l O k) u v ↔ Jn (bef l (atn O k)) u v := by
  refine Jn.same fun a => ?_
  unfold seen bef
  rw [mem_sel, List.mem_map]
  constructor
  · rintro ⟨j, hj, e⟩
    obtain ⟨h1, h2⟩ := (h.ahead hk).1 hj
    exact ⟨j, h1, decide_eq_true h2, e⟩
  · rintro ⟨j, h1, h2, e⟩
    exact ⟨j, (h.ahead hk).2 ⟨h1, of_decide_eq_true h2⟩, e⟩
theorem OrdIs.seen_all {l : List Arc3} {O : List Nat} (h : OrdIs l O) {k : Nat} (hk : O.length ≤ k) {u v : Int} : Jn (seen l O k) u v ↔ Jn l u v := by
  refine Jn.same fun a => ?_
  unfold seen
  rw [List.take_of_length_le hk, List.mem_map]
  constructor
  · rintro ⟨j, hj, rfl⟩; exact at3_mem l j (h.lt hj)
  · intro ha
    obtain ⟨i, hi, rfl⟩ := List.mem_iff_getElem.1 ha
    exact ⟨i, h.mem hi, at3_lt l i hi⟩

/-! ### Names -/

/-- nodes have the same name just if they are joined -/
def NamesIs (N : Nat) (m : List Arc3) (F : Nat → Int) : Prop := ∀ u v : Nat, u < N → v < N → (F u = F v ↔ Jn m u v)

theorem NamesIs.same {N : Nat} {m m' : List Arc3} {F : Nat → Int} (h : NamesIs N m F) (e : ∀ a, a ∈ m ↔ a ∈ m') : NamesIs N m' F := fun u v hu hv => (h u v hu hv).trans (Jn.same e)
theorem jn_nil {u v : Int} : Jn [] u v ↔ u = v :=
  ⟨fun h => Jn.keeps (fun u v => u = v) (fun _ => rfl) (fun _ _ h => h.symm) (fun _ _ _ h1 h2 => h1.trans h2) (fun a ha => absurd ha (by simp)) h, fun e => by rw [e]; exact Jn.refl _ _⟩
theorem names_start (N : Nat) : NamesIs N [] (fun v => (v : Int)) := fun u v _ _ => jn_nil.symm

theorem NamesIs.join {N : Nat} {m : List Arc3} {F : Nat → Int} (h : NamesIs N m F) (a : Arc3) {f t : Nat} (hf : f < N) (ht : t < N) (ef : a.1 = (f : Int)) (et : a.2.1 = (t : Int)) :
    NamesIs N (a :: m) (fun v => if F v = F f then F t else F v) := by
  intro u v hu hv
  rw [jn_more, ef, et, ← h u v hu hv, ← h u f hu hf, ← h t v ht hv, ← h u t hu ht, ← h f v hf hv]
  simp only
  generalize F u = x
  generalize F v = y
  generalize F f = p
  generalize F t = q
  split <;> split <;> omega
theorem NamesIs.old {N : Nat} {m : List Arc3} {F : Nat → Int} (h : NamesIs N m F) (a : Arc3) {f t : Nat} (hf : f < N) (ht : t < N) (ef : a.1 = (f : Int)) (et : a.2.1 = (t : Int)) (e : F f = F t) : NamesIs N (a :: m) F := by
  have hj := h.join a hf ht ef et
  intro u v hu hv
  rw [← hj u v hu hv]
  simp only
  generalize F u = x
  generalize F v = y
  rw [e]
  generalize F t = q
  split <;> split <;> omega

/-! ### What is taken -/

open Classical in
/-- is it taken? -/
noncomputable def tk (l : List Arc3) (i : Nat) : Bool := decide (¬ Jn (bef l i) (at3 l i).1 (at3 l i).2.1)
noncomputable def takenK (l : List Arc3) (O : List Nat) (k : Nat) : List Nat := (O.take k).filter (tk l)
noncomputable def leastK (l : List Arc3) : List Nat := (List.range l.length).filter (tk l)

theorem tk_true {l : List Arc3} {i : Nat} : tk l i = true ↔ ¬ Jn (bef l i) (at3 l i).1 (at3 l i).2.1 := by simp [tk]
theorem takenK_zero (l : List Arc3) (O : List Nat) : takenK l O 0 = [] := rfl
theorem takenK_yes {l : List Arc3} {O : List Nat} {k : Nat} (h : k < O.length) (ht : tk l (atn O k) = true) : takenK l O (k + 1) = takenK l O k ++ [atn O k] := by
  unfold takenK
  rw [take_snocn O k h, List.filter_append, List.filter_cons_of_pos ht, List.filter_nil]
theorem takenK_no {l : List Arc3} {O : List Nat} {k : Nat} (h : k < O.length) (ht : tk l (atn O k) = false) : takenK l O (k + 1) = takenK l O k := by
  unfold takenK
  rw [take_snocn O k h, List.filter_append, List.filter_cons_of_neg (by rw [ht]; decide), List.filter_nil, List.append_nil]
theorem takenK_le (l : List Arc3) (O : List Nat) (k : Nat) : (takenK l O k).length ≤ k := by
  unfold takenK
  have h1 := List.length_filter_le (tk l) (O.take k)
  have h2 : (O.take k).length ≤ k := by rw [List.length_take]; omega
  omega
theorem leastK_is (l : List Arc3) : LeastIs l (leastK l) := by
  refine ⟨List.pairwise_lt_range.filter _, fun k hk => List.mem_range.1 (List.mem_filter.1 hk).1, fun k hk => ?_⟩
  unfold leastK
  rw [List.mem_filter, tk_true]
  exact ⟨fun h => h.2, fun h => ⟨List.mem_range.2 hk, h⟩⟩
theorem OrdIs.taken {l : List Arc3} {O : List Nat} (h : OrdIs l O) {k : Nat} (hk : O.length ≤ k) : (takenK l O k).Perm (leastK l) := by
  unfold takenK leastK
  rw [List.take_of_length_le hk]
  exact h.perm.filter _
theorem sumK_perm (l : List Arc3) {A B : List Nat} (h : A.Perm B) : sumK l A = sumK l B := perm_sum (h.map _)
theorem sumK_snoc (l : List Arc3) (A : List Nat) (i : Nat) : sumK l (A ++ [i]) = sumK l A + (at3 l i).2.2 := by
  unfold sumK
  rw [List.map_append, List.sum_append]
  simp
theorem sumK_bound {l : List Arc3} (hc : ∀ a ∈ l, -10000 ≤ a.2.2 ∧ a.2.2 ≤ 10000) : ∀ (A : List Nat), (∀ i ∈ A, i < l.length) → -10000 * (A.length : Int) ≤ sumK l A ∧ sumK l A ≤ 10000 * (A.length : Int)
  | [], _ => by simp [sumK]
  | i :: A, h => by
    have ih := sumK_bound hc A fun j hj => h j (List.mem_cons_of_mem _ hj)
    have hi := hc _ (at3_mem l i (h i (List.mem_cons_self ..)))
    have e : sumK l (i :: A) = (at3 l i).2.2 + sumK l A := by simp [sumK]
    rw [e, List.length_cons]
    omega

theorem numK_snoc (A : List Nat) (i : Nat) : numK (A ++ [i]) = numK A ++ [(i : Int)] := by simp [numK]
theorem numK_perm {A B : List Nat} (h : A.Perm B) : (numK A).Perm (numK B) := h.map _
theorem numK_up {K : List Nat} (h : K.Pairwise (· < ·)) : (numK K).Pairwise (fun x y : Int => x ≤ y) := by
  unfold numK
  rw [List.pairwise_map]
  exact h.imp fun hlt => by omega

/-! ### When two are joined -/

theorem OrdIs.wide {l : List Arc3} {O : List Nat} (h : OrdIs l O) {k : Nat} (hk : k < O.length) {s t : Int} (hj : Jn (seen l O (k + 1)) s t) (hn : ¬ Jn (seen l O k) s t) :
    Jn (sel l (fun j => decide ((at3 l j).2.2 ≤ (at3 l (atn O k)).2.2))) s t ∧ ∀ d : Int, Jn (sel l (fun j => decide ((at3 l j).2.2 ≤ d))) s t → (at3 l (atn O k)).2.2 ≤ d := by
  constructor
  · refine hj.mono fun a ha => ?_
    rcases List.mem_cons.1 ((seen_snoc l O k hk a).2 ha) with rfl | ha
    · exact mem_sel.2 ⟨atn O k, h.lt (atn_mem O k hk), decide_eq_true (Int.le_refl _), rfl⟩
    · obtain ⟨j, hj, rfl⟩ := List.mem_map.1 ha
      obtain ⟨h1, h2⟩ := (h.ahead hk).1 hj
      exact mem_sel.2 ⟨j, h1, decide_eq_true (by unfold ltA at h2; omega), rfl⟩
  · intro d hd
    refine Classical.byContradiction fun hc => hn (hd.mono fun a ha => ?_)
    obtain ⟨j, h1, h2, rfl⟩ := mem_sel.1 ha
    have h2 := of_decide_eq_true h2
    exact List.mem_map.2 ⟨j, (h.ahead hk).2 ⟨h1, Or.inl (by omega)⟩, rfl⟩

end Go.Proofs.Ytgmdacobbeoobaa
