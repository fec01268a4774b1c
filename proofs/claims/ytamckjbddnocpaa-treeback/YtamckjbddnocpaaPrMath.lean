/- Plain facts on PRUEFER's codes of trees. -/
import Derived.Test.YtamckjbddnocpaaEMath
namespace Go.Proofs.Ytamckjbddnocpaa
set_option linter.unusedVariables false

def degN (E : List Arc3) (v : Nat) : Int := od E v + idg E v

theorem degN_cons (a : Arc3) (E : List Arc3) (v : Nat) : degN (a :: E) v = degN E v + (one ((v : Int) = a.1) + one ((v : Int) = a.2.1)) := by
  unfold degN; rw [od_cons, idg_cons]; omega
theorem degN_append (E F : List Arc3) (v : Nat) : degN (E ++ F) v = degN E v + degN F v := by
  unfold degN; rw [od_append, idg_append]; omega
theorem degN_nonneg (E : List Arc3) (v : Nat) : 0 ≤ degN E v := by
  have := od_nonneg E v; have := idg_nonneg E v; unfold degN; omega
theorem degN_perm {E F : List Arc3} (h : E.Perm F) (v : Nat) : degN E v = degN F v := by
  unfold degN od idg; rw [h.countP_eq, h.countP_eq]

/-- an arc between two nodes -/
def Joins (a : Arc3) (v x : Nat) : Prop := (a.1 = (v : Int) ∧ a.2.1 = (x : Int)) ∨ (a.1 = (x : Int) ∧ a.2.1 = (v : Int))

theorem Joins.ev {a : Arc3} {v x : Nat} (h : Joins a v x) (u : Nat) : one ((u : Int) = a.1) + one ((u : Int) = a.2.1) = one (u = v) + one (u = x) := by
  have e : ∀ y : Nat, one ((u : Int) = (y : Int)) = one (u = y) := fun y => by
    by_cases c : u = y
    · rw [one_yes c, one_yes (by rw [c])]
    · rw [one_no c, one_no (by omega)]
  rcases h with ⟨h1, h2⟩ | ⟨h1, h2⟩
  · rw [h1, h2, e, e]
  · rw [h1, h2, e, e]; omega

def tells (v x : Nat) : Arc3 := (((min v x : Nat) : Int), ((max v x : Nat) : Int), 0)

theorem tells_joins (v x : Nat) : Joins (tells v x) v x := by
  unfold Joins tells
  rcases Nat.le_total v x with h | h
  · exact Or.inl ⟨by simp only [Nat.min_eq_left h], by simp only [Nat.max_eq_right h]⟩
  · exact Or.inr ⟨by simp only [Nat.min_eq_right h], by simp only [Nat.max_eq_left h]⟩

/-- the arcs that a code makes, of the nodes A that are left -/
def DecIs : List Nat → List Nat → List Arc3 → Prop
  | A, [], E => ∃ u v, u < v ∧ A = [u, v] ∧ E = [((u : Int), (v : Int), 0)]
  | A, x :: r, E => ∃ v E', v ∈ A ∧ v ∉ x :: r ∧ (∀ u ∈ A, u ∉ x :: r → v ≤ u) ∧ E = tells v x :: E' ∧ DecIs (A.erase v) r E'

structure DecOk (A l : List Nat) : Prop where
  nd : A.Nodup
  len : A.length = l.length + 2
  sub : ∀ x ∈ l, x ∈ A

theorem DecOk.next {A r : List Nat} {x v : Nat} (h : DecOk A (x :: r)) (hv : v ∈ A) (hn : v ∉ x :: r) : DecOk (A.erase v) r ∧ x ∈ A.erase v := by
  have ne : ∀ y, y ∈ x :: r → y ≠ v := fun y hy e => hn (e ▸ hy)
  refine ⟨⟨h.nd.erase v, ?_, fun y hy => ?_⟩, ?_⟩
  · rw [List.length_erase_of_mem hv, h.len]; simp
  · exact (List.mem_erase_of_ne (ne y (List.mem_cons_of_mem _ hy))).2 (h.sub y (List.mem_cons_of_mem _ hy))
  · exact (List.mem_erase_of_ne (ne x (List.mem_cons_self ..))).2 (h.sub x (List.mem_cons_self ..))

theorem dec_deg : ∀ {l A : List Nat} {E : List Arc3}, DecOk A l → DecIs A l E → ∀ u : Nat, degN E u = if u ∈ A then (l.count u : Int) + 1 else 0
  | [], A, E, hok, ⟨a, b, hab, hA, hE⟩, u => by
    subst hA hE
    rw [degN_cons]
    have e0 : degN [] u = 0 := rfl
    have := (show Joins ((a : Int), (b : Int), 0) a b from Or.inl ⟨rfl, rfl⟩).ev u
    rw [this, e0]
    by_cases c1 : u = a
    · subst c1
      rw [one_yes rfl, one_no (by omega), if_pos (by simp)]; simp
    · by_cases c2 : u = b
      · subst c2
        rw [one_no c1, one_yes rfl, if_pos (by simp)]; simp
      · rw [one_no c1, one_no c2, if_neg (by simp [c1, c2])]; rfl
  | x :: r, A, E, hok, ⟨v, E', hv, hn, hmin, hE, hD⟩, u => by
    obtain ⟨hok', hx⟩ := hok.next hv hn
    subst hE
    have ih := dec_deg hok' hD u
    have hvx : v ≠ x := fun e => hn (by simp [e])
    rw [degN_cons, (tells_joins v x).ev u, ih]
    have hmem : u ∈ A.erase v ↔ u ≠ v ∧ u ∈ A := by rw [hok.nd.mem_erase_iff]
    by_cases c1 : u = v
    · subst c1
      have hc : (x :: r).count u = 0 := List.count_eq_zero.2 hn
      rw [if_neg (by rw [hmem]; simp), if_pos hv, one_yes rfl, one_no hvx, hc]; rfl
    · by_cases c2 : u = x
      · subst c2
        rw [if_pos hx, if_pos (hok.sub u (by simp)), one_no c1, one_yes rfl, List.count_cons_self]; simp
      · have hc : (x :: r).count u = r.count u := by rw [List.count_cons_of_ne (fun e => c2 e.symm)]
        rw [one_no c1, one_no c2, hc]
        by_cases c3 : u ∈ A
        · rw [if_pos (hmem.2 ⟨c1, c3⟩), if_pos c3]; omega
        · rw [if_neg (fun h => c3 (hmem.1 h).2), if_neg c3]; rfl

theorem dec_len : ∀ {l A : List Nat} {E : List Arc3}, DecIs A l E → E.length = l.length + 1
  | [], _, _, ⟨_, _, _, _, hE⟩ => by rw [hE]; rfl
  | x :: r, _, _, ⟨_, _, _, _, _, hE, hD⟩ => by rw [hE, List.length_cons, dec_len hD]; simp

/-- what a code makes is joined -/
theorem dec_joined : ∀ {l A : List Nat} {E : List Arc3}, DecOk A l → DecIs A l E → ∀ {u v : Nat}, u ∈ A → v ∈ A → Jn E u v
  | [], A, E, hok, ⟨a, b, hab, hA, hE⟩, u, v, hu, hv => by
    subst hA hE
    have j : Jn [((a : Int), (b : Int), (0 : Int))] a b := Jn.arc (a := ((a : Int), (b : Int), (0 : Int))) (by simp)
    simp at hu hv
    rcases hu with rfl | rfl <;> rcases hv with rfl | rfl
    · exact Jn.refl _ _
    · exact j
    · exact j.symm
    · exact Jn.refl _ _
  | x :: r, A, E, hok, ⟨v, E', hv, hn, hmin, hE, hD⟩, u, w, hu, hw => by
    obtain ⟨hok', hx⟩ := hok.next hv hn
    subst hE
    have jv : Jn (tells v x :: E') v x := by
      have := Jn.arc (l := tells v x :: E') (a := tells v x) (by simp)
      rcases tells_joins v x with ⟨h1, h2⟩ | ⟨h1, h2⟩
      · rwa [h1, h2] at this
      · rw [h1, h2] at this; exact this.symm
    have toX : ∀ y, y ∈ A → Jn (tells v x :: E') y x := fun y hy => by
      by_cases c : y = v
      · rw [c]; exact jv
      · exact (dec_joined hok' hD (hok.nd.mem_erase_iff.2 ⟨c, hy⟩) hx).mono fun a ha => List.mem_cons_of_mem _ ha
    exact (toX u hu).trans (toX w hw).symm

/-! ### The code of a tree -/

def CodeIs : List Arc3 → List Nat → Prop
  | E, [] => E.length = 1
  | E, x :: r => ∃ v E1 a E2, E = E1 ++ a :: E2 ∧ Joins a v x ∧ degN E v = 1 ∧ (∀ u, u < v → degN E u ≠ 1) ∧ CodeIs (E1 ++ E2) r

theorem dec_code : ∀ {l A : List Nat} {E : List Arc3}, DecOk A l → DecIs A l E → CodeIs E l
  | [], _, _, _, ⟨_, _, _, _, hE⟩ => by rw [hE]; rfl
  | x :: r, A, E, hok, ⟨v, E', hv, hn, hmin, hE, hD⟩ => by
    obtain ⟨hok', hx⟩ := hok.next hv hn
    have hdeg := dec_deg hok (show DecIs A (x :: r) E from ⟨v, E', hv, hn, hmin, hE, hD⟩)
    refine ⟨v, [], tells v x, E', hE, tells_joins v x, ?_, fun u hu h1 => ?_, dec_code hok' hD⟩
    · rw [hdeg v, if_pos hv, List.count_eq_zero.2 hn]; rfl
    · rw [hdeg u] at h1
      by_cases c : u ∈ A
      · rw [if_pos c] at h1
        have h0 : (x :: r).count u = 0 := by omega
        have := hmin u c (List.count_eq_zero.1 h0)
        omega
      · rw [if_neg c] at h1; omega

/-- at a node with one arc: which -/
theorem one_arc {E1 E2 F1 F2 : List Arc3} {a b : Arc3} {v x y : Nat} (hp : (E1 ++ a :: E2).Perm (F1 ++ b :: F2)) (ha : Joins a v x) (hb : Joins b v y) (hd : degN (E1 ++ a :: E2) v = 1) : a = b := by
  refine Decidable.byContradiction fun hne => ?_
  have hm : b ∈ E1 ++ a :: E2 := hp.mem_iff.2 (by simp)
  have hm' : b ∈ E1 ++ E2 := by
    rcases List.mem_append.1 hm with h | h
    · exact List.mem_append.2 (Or.inl h)
    · rcases List.mem_cons.1 h with h | h
      · exact absurd h.symm hne
      · exact List.mem_append.2 (Or.inr h)
  have h1 : degN (E1 ++ a :: E2) v = degN (E1 ++ E2) v + (one (v = v) + one (v = x)) := by
    rw [degN_append, degN_cons, degN_append, ha.ev]; omega
  obtain ⟨G1, G2, hG⟩ := List.append_of_mem hm'
  have h2 : degN (E1 ++ E2) v = degN (G1 ++ G2) v + (one (v = v) + one (v = y)) := by
    rw [hG, degN_append, degN_cons, degN_append, hb.ev]; omega
  have h3 := degN_nonneg (G1 ++ G2) v
  rw [one_yes rfl] at h1 h2
  have := one_bounds (v = x); have := one_bounds (v = y)
  omega

theorem CodeIs.unique : ∀ {l m : List Nat} {E F : List Arc3}, E.Perm F → CodeIs E l → CodeIs F m → l.length = m.length → l = m
  | [], m, _, _, _, _, _, hl => by
    have : m = [] := List.length_eq_zero_iff.1 hl.symm
    rw [this]
  | x :: r, [], _, _, _, _, _, hl => by simp at hl
  | x :: r, y :: s, E, F, hp, ⟨v, E1, a, E2, hE, ha, hd, hmin, hC⟩, ⟨v', F1, b, F2, hF, hb, hd', hmin', hC'⟩, hl => by
    have hv : v = v' := by
      rcases Nat.lt_trichotomy v v' with h | h | h
      · exact absurd ((degN_perm hp v).symm.trans hd) (hmin' v h)
      · exact h
      · exact absurd ((degN_perm hp v').trans hd') (hmin v' h)
    subst hv
    subst hE hF
    have hab := one_arc hp ha hb hd
    subst hab
    have hxy : x = y := by
      rcases ha with ⟨h1, h2⟩ | ⟨h1, h2⟩ <;> rcases hb with ⟨h3, h4⟩ | ⟨h3, h4⟩ <;> omega
    subst hxy
    have hq : (E1 ++ E2).Perm (F1 ++ F2) := by
      have p1 : (a :: (E1 ++ E2)).Perm (a :: (F1 ++ F2)) := (List.perm_middle.symm.trans hp).trans List.perm_middle
      exact p1.cons_inv
    rw [CodeIs.unique hq hC hC' (by simpa using hl)]

end Go.Proofs.Ytamckjbddnocpaa
