/- Plain facts on what a code makes, step by step. -/
import Derived.Test.YtamckjbddnocpaaPrMath
namespace Go.Proofs.Ytamckjbddnocpaa
set_option linter.unusedVariables false

theorem pig : ∀ {A m : List Nat}, A.Nodup → (∀ x ∈ A, x ∈ m) → A.length ≤ m.length
  | [], _, _, _ => Nat.zero_le _
  | a :: r, m, hn, h => by
    have ha := h a (List.mem_cons_self ..)
    obtain ⟨h1, h2⟩ := List.nodup_cons.1 hn
    have := pig (A := r) (m := m.erase a) h2 fun x hx => (List.mem_erase_of_ne (show x ≠ a from fun e => h1 (e ▸ hx))).2 (h x (List.mem_cons_of_mem _ hx))
    rw [List.length_erase_of_mem ha] at this
    have : 0 < m.length := List.length_pos_of_mem ha
    simp only [List.length_cons]; omega

/-- the least of A that is not in m -/
def leaf0 (A m : List Nat) : Nat := ((A.filter (fun v => decide (v ∉ m))).head?).getD 0

structure St (A l : List Nat) : Prop where
  ok : DecOk A l
  up : A.Pairwise (· < ·)

theorem leaf0_spec {A m : List Nat} (hs : A.Pairwise (· < ·)) (hex : ∃ v ∈ A, v ∉ m) : leaf0 A m ∈ A ∧ leaf0 A m ∉ m ∧ ∀ u ∈ A, u ∉ m → leaf0 A m ≤ u := by
  unfold leaf0
  obtain ⟨v, hv, hn⟩ := hex
  have hm : ∀ u, u ∈ A.filter (fun v => decide (v ∉ m)) ↔ u ∈ A ∧ u ∉ m := fun u => by simp
  have hs' := hs.sublist (List.filter_sublist (l := A) (p := fun v => decide (v ∉ m)))
  generalize A.filter (fun v => decide (v ∉ m)) = F at *
  cases F with
  | nil => exact absurd ((hm v).2 ⟨hv, hn⟩) (List.not_mem_nil)
  | cons a r =>
    have ha := (hm a).1 (List.mem_cons_self ..)
    refine ⟨ha.1, ha.2, fun u h1 h2 => ?_⟩
    show a ≤ u
    rcases List.mem_cons.1 ((hm u).2 ⟨h1, h2⟩) with e | e
    · exact Nat.le_of_eq e.symm
    · exact Nat.le_of_lt ((List.pairwise_cons.1 hs').1 u e)

theorem St.leaf {A l : List Nat} (h : St A l) : leaf0 A l ∈ A ∧ leaf0 A l ∉ l ∧ ∀ u ∈ A, u ∉ l → leaf0 A l ≤ u := by
  refine leaf0_spec h.up (Decidable.byContradiction fun hno => ?_)
  have := pig h.ok.nd (m := l) fun x hx => Decidable.byContradiction fun hx' => hno ⟨x, hx, hx'⟩
  have := h.ok.len
  omega

theorem St.next {A r : List Nat} {x : Nat} (h : St A (x :: r)) : St (A.erase (leaf0 A (x :: r))) r ∧ x ∈ A.erase (leaf0 A (x :: r)) := by
  obtain ⟨h1, h2, _⟩ := h.leaf
  obtain ⟨h3, h4⟩ := h.ok.next h1 h2
  exact ⟨⟨h3, h.up.sublist List.erase_sublist⟩, h4⟩

/-- the arcs that a code makes -/
def decF : List Nat → List Nat → List Arc3
  | A, [] => [((A.getD 0 0 : Nat), (A.getD 1 0 : Nat), 0)]
  | A, x :: r => tells (leaf0 A (x :: r)) x :: decF (A.erase (leaf0 A (x :: r))) r

/-- the nodes that are left behind k steps -/
def aft : List Nat → List Nat → Nat → List Nat
  | A, _, 0 => A
  | A, [], _ + 1 => A
  | A, x :: r, k + 1 => aft (A.erase (leaf0 A (x :: r))) r k

theorem aft_zero (A l : List Nat) : aft A l 0 = A := by cases l <;> rfl

theorem St.two {A : List Nat} (h : St A []) : ∃ u v, u < v ∧ A = [u, v] := by
  have hl := h.ok.len
  match A, hl, h with
  | [u, v], _, h => exact ⟨u, v, by have := h.up; simpa using this, rfl⟩

theorem decF_is : ∀ {l A : List Nat}, St A l → DecIs A l (decF A l)
  | [], A, h => by
    obtain ⟨u, v, huv, rfl⟩ := h.two
    exact ⟨u, v, huv, rfl, rfl⟩
  | x :: r, A, h => by
    obtain ⟨h1, h2, h3⟩ := h.leaf
    exact ⟨leaf0 A (x :: r), _, h1, h2, h3, rfl, decF_is h.next.1⟩

theorem decF_len : ∀ (l A : List Nat), (decF A l).length = l.length + 1
  | [], _ => rfl
  | x :: r, A => by simp only [decF, List.length_cons, decF_len r]

theorem st_aft : ∀ {l A : List Nat} {k : Nat}, St A l → k ≤ l.length → St (aft A l k) (l.drop k)
  | [], A, 0, h, _ => h
  | [], A, k + 1, h, hk => by simp at hk
  | x :: r, A, 0, h, _ => h
  | x :: r, A, k + 1, h, hk => by
    show St (aft (A.erase (leaf0 A (x :: r))) r k) ((x :: r).drop (k + 1))
    rw [List.drop_succ_cons]
    exact st_aft h.next.1 (by simpa using hk)

theorem aft_succ : ∀ {l : List Nat} (A : List Nat) {k : Nat}, k < l.length → aft A l (k + 1) = (aft A l k).erase (leaf0 (aft A l k) (l.drop k))
  | [], _, _, h => absurd h (Nat.not_lt_zero _)
  | x :: r, A, 0, _ => by cases r <;> rfl
  | x :: r, A, k + 1, h => by
    show aft (A.erase (leaf0 A (x :: r))) r (k + 1) = (aft (A.erase (leaf0 A (x :: r))) r k).erase (leaf0 (aft (A.erase (leaf0 A (x :: r))) r k) ((x :: r).drop (k + 1)))
    rw [List.drop_succ_cons]
    exact aft_succ _ (by simpa using h)

theorem decF_at : ∀ {l : List Nat} (A : List Nat) {k : Nat}, k < l.length → at3 (decF A l) k = tells (leaf0 (aft A l k) (l.drop k)) (l.getD k 0)
  | [], _, _, h => absurd h (Nat.not_lt_zero _)
  | x :: r, A, 0, _ => by simp [decF, at3, aft]
  | x :: r, A, k + 1, h => by
    have := decF_at (l := r) (A.erase (leaf0 A (x :: r))) (k := k) (by simpa using h)
    unfold at3 at this ⊢
    rw [decF, List.getD_cons_succ, this, List.drop_succ_cons, List.getD_cons_succ]
    rfl

theorem decF_last : ∀ (l A : List Nat), at3 (decF A l) l.length = ((((aft A l l.length).getD 0 0 : Nat) : Int), (((aft A l l.length).getD 1 0 : Nat) : Int), 0)
  | [], A => rfl
  | x :: r, A => by
    have := decF_last r (A.erase (leaf0 A (x :: r)))
    unfold at3 at this ⊢
    rw [decF, List.length_cons, List.getD_cons_succ, this]
    rfl

/-- how many arcs are still to come at a node -/
def lf (A m : List Nat) (j : Nat) : Int := if j ∈ A then (m.count j : Int) + 1 else 0

theorem lf_one {A m : List Nat} {j : Nat} : lf A m j = 1 ↔ j ∈ A ∧ j ∉ m := by
  unfold lf
  by_cases h : j ∈ A
  · rw [if_pos h]
    constructor
    · intro e
      have h0 : m.count j = 0 := by omega
      exact ⟨h, List.count_eq_zero.1 h0⟩
    · intro ⟨_, h2⟩
      rw [List.count_eq_zero.2 h2]; rfl
  · rw [if_neg h]
    constructor
    · intro e; cases e
    · intro e; exact absurd e.1 h

theorem lf_le {A m : List Nat} {j : Nat} : 0 ≤ lf A m j ∧ lf A m j ≤ m.length + 1 := by
  unfold lf
  have := List.count_le_length (a := j) (l := m)
  split <;> omega

theorem lf_start {N : Nat} {m : List Nat} {j : Nat} (h : j < N) : lf (List.range N) m j = (m.count j : Int) + 1 := if_pos (by simpa using h)

theorem lf_next {A r : List Nat} {x v : Nat} (hA : A.Nodup) (hv : v ∈ A) (hn : v ∉ x :: r) (hx : x ∈ A) (j : Nat) :
    lf (A.erase v) r j = if j = v then 0 else if j = x then lf A (x :: r) j - 1 else lf A (x :: r) j := by
  have hvx : v ≠ x := fun e => hn (e ▸ List.mem_cons_self ..)
  by_cases e : j = v
  · subst e
    rw [if_pos rfl]
    exact if_neg fun h => (List.Nodup.mem_erase_iff hA).1 h |>.1 rfl
  · rw [if_neg e]
    unfold lf
    have hmem : (j ∈ A.erase v) ↔ (j ∈ A) := List.mem_erase_of_ne e
    by_cases ex : j = x
    · subst ex
      rw [if_pos rfl, if_pos (hmem.2 hx), if_pos hx, List.count_cons_self]; omega
    · rw [if_neg ex, List.count_cons_of_ne (fun h => ex h.symm)]
      by_cases hj : j ∈ A
      · rw [if_pos (hmem.2 hj), if_pos hj]
      · rw [if_neg (fun h => hj (hmem.1 h)), if_neg hj]

theorem st_start {l : List Nat} (h : ∀ x ∈ l, x < l.length + 2) : St (List.range (l.length + 2)) l :=
  ⟨⟨List.nodup_range, by simp, fun x hx => by simpa using h x hx⟩, List.pairwise_lt_range⟩

theorem aft_lt {l : List Nat} {N : Nat} : ∀ {A : List Nat} {k : Nat}, (∀ x ∈ A, x < N) → ∀ x ∈ aft A l k, x < N := by
  induction l with
  | nil => intro A k h; cases k <;> exact h
  | cons y r ih =>
    intro A k h
    cases k with
    | zero => exact h
    | succ k => exact ih fun x hx => h x (List.mem_of_mem_erase hx)

theorem decF_nodes : ∀ {l A : List Nat} {N : Nat}, St A l → (∀ x ∈ A, x < N) → ∀ a ∈ decF A l, (0 ≤ a.1 ∧ a.1 < (N : Int)) ∧ (0 ≤ a.2.1 ∧ a.2.1 < (N : Int)) ∧ -10000 ≤ a.2.2 ∧ a.2.2 ≤ 10000
  | [], A, N, h, hA, a, ha => by
    obtain ⟨u, v, huv, rfl⟩ := h.two
    obtain rfl : a = ((u : Int), (v : Int), 0) := by simpa [decF] using ha
    have h1 := hA u (by simp)
    have h2 := hA v (by simp)
    exact ⟨⟨by omega, by simp only; omega⟩, ⟨by simp only; omega, by simp only; omega⟩, by simp only; omega, by simp only; omega⟩
  | x :: r, A, N, h, hA, a, ha => by
    rcases List.mem_cons.1 ha with rfl | ha
    · have h1 := hA _ h.leaf.1
      have h2 := hA x (h.ok.sub x (List.mem_cons_self ..))
      generalize leaf0 A (x :: r) = v at *
      unfold tells
      exact ⟨⟨by simp only; omega, by simp only; omega⟩, ⟨by simp only; omega, by simp only; omega⟩, by simp only; omega, by simp only; omega⟩
    · exact decF_nodes h.next.1 (fun y hy => hA y (List.mem_of_mem_erase hy)) a ha

end Go.Proofs.Ytamckjbddnocpaa
