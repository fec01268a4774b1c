/- Plain facts, level by level: what a look tells; what may be sent by steps that lead just one farther; the sink is farther in each round. -/
import Derived.Test.YtlfhnhfhaifchaaLvM
import Derived.Test.YtlfhnhfhaifchaaPuM
namespace Go.Proofs.Ytlfhnhfhaifchaa
set_option linter.unusedVariables false

/-! ### A look -/

/-- how far each node is, by what is left -/
structure LookIs (N s : Nat) (l : List Arc3) (F : List Int) (D : Nat → Int) : Prop where
  src : D s = 0
  low : ∀ v, v < 12 → -1 ≤ D v ∧ D v < (N : Int)
  on : ∀ k b, k < l.length → 0 < room l F k b → 0 ≤ D (frmN l k b) → 0 ≤ D (towN l k b) ∧ D (towN l k b) ≤ D (frmN l k b) + 1
  back : ∀ v, v < 12 → v ≠ s → 0 ≤ D v → ∃ k b, k < l.length ∧ 0 < room l F k b ∧ towN l k b = v ∧ 0 ≤ D (frmN l k b) ∧ D (frmN l k b) + 1 = D v

/-- after d passes, and of the next one k arcs -/
structure LookK (N s : Nat) (l : List Arc3) (F : List Int) (d k : Nat) (D : Nat → Int) : Prop where
  src : D s = 0
  low : ∀ v, v < 12 → -1 ≤ D v ∧ D v ≤ (d : Int) + 1
  node : ∀ v, v < 12 → 0 ≤ D v → v < N
  on : ∀ i b, i < l.length → 0 < room l F i b → 0 ≤ D (frmN l i b) → (D (frmN l i b) < d ∨ (D (frmN l i b) = d ∧ i < k)) → 0 ≤ D (towN l i b) ∧ D (towN l i b) ≤ D (frmN l i b) + 1
  back : ∀ v, v < 12 → v ≠ s → 0 ≤ D v → ∃ i b, i < l.length ∧ 0 < room l F i b ∧ towN l i b = v ∧ 0 ≤ D (frmN l i b) ∧ D (frmN l i b) + 1 = D v

/-- a step taken -/
def comeD (D : Nat → Int) (p q : Nat) (d : Int) : Nat → Int := fun v => if D p = d ∧ D q = -1 ∧ v = q then d + 1 else D v
theorem comeD_no {D : Nat → Int} {p q : Nat} {d : Int} (h : ¬ (D p = d ∧ D q = -1)) : comeD D p q d = D := by
  funext v; unfold comeD; rw [if_neg (fun c => h ⟨c.1, c.2.1⟩)]
theorem comeD_yes {D : Nat → Int} {p q : Nat} {d : Int} (h : D p = d ∧ D q = -1) (v : Nat) : comeD D p q d v = if v = q then d + 1 else D v := by
  unfold comeD
  by_cases e : v = q
  · rw [if_pos ⟨h.1, h.2, e⟩, if_pos e]
  · rw [if_neg (fun c => e c.2.2), if_neg e]

theorem LookK.start {N s : Nat} (l : List Arc3) (F : List Int) (hs : s < N) {D : Nat → Int} (hD : ∀ v, v < 12 → D v = if v = s then 0 else -1) (hN : N ≤ 12) : LookK N s l F 0 0 D := by
  refine ⟨by rw [hD s (by omega), if_pos rfl], fun v hv => ?_, fun v hv h => ?_, fun i b hi hr h0 h1 => ?_, fun v hv hne h => ?_⟩
  · rw [hD v hv]; split <;> omega
  · rw [hD v hv] at h
    by_cases e : v = s
    · subst e; exact hs
    · rw [if_neg e] at h; omega
  · omega
  · rw [hD v hv, if_neg hne] at h; omega

/-- one arc's step -/
theorem LookK.come {N s t : Nat} {l : List Arc3} {F : List Int} {d k : Nat} {D : Nat → Int} (hE : netErr N s t l = 0) (hN : N ≤ 12) (h : LookK N s l F d k D) (hk : k < l.length) {b : Bool} (hr : 0 < room l F k b) :
    LookK N s l F d k (comeD D (frmN l k b) (towN l k b) d) ∧ (comeD D (frmN l k b) (towN l k b) d (frmN l k b) = d → 0 ≤ comeD D (frmN l k b) (towN l k b) d (towN l k b)) ∧ (∀ v, D v = d ∨ 0 ≤ D v → comeD D (frmN l k b) (towN l k b) d v = D v) := by
  obtain ⟨hp, hq⟩ := ends_lt hE hk b
  by_cases c : D (frmN l k b) = d ∧ D (towN l k b) = -1
  · have key := comeD_yes c
    generalize comeD D (frmN l k b) (towN l k b) d = D' at key ⊢
    have hpq : frmN l k b ≠ towN l k b := fun e => by rw [e] at c; omega
    have hkeep : ∀ v, 0 ≤ D v → D' v = D v := fun v hv => by
      rw [key]
      by_cases e : v = towN l k b
      · rw [e] at hv; omega
      · rw [if_neg e]
    have hsrc := h.src
    refine ⟨⟨by rw [hkeep s (by omega)]; exact h.src, fun v hv => ?_, fun v hv h0 => ?_, fun i b' hi hr' h0 h1 => ?_, fun v hv hne h0 => ?_⟩, fun _ => by rw [key, if_pos rfl]; omega, fun v hv => hkeep v (by omega)⟩
    · rw [key]; have := h.low v hv; split <;> omega
    · rw [key] at h0
      by_cases e : v = towN l k b
      · rw [e]; exact hq
      · rw [if_neg e] at h0; exact h.node v hv h0
    · have hf : D' (frmN l i b') = D (frmN l i b') := by
        by_cases e : frmN l i b' = towN l k b
        · rw [e, key, if_pos rfl] at h1; omega
        · rw [key, if_neg e]
      rw [hf] at h0 h1 ⊢
      have := h.on i b' hi hr' h0 h1
      rw [hkeep _ this.1]; exact this
    · by_cases e : v = towN l k b
      · refine ⟨k, b, hk, hr, e.symm, ?_, ?_⟩
        · rw [hkeep _ (by omega)]; omega
        · rw [hkeep _ (by omega), key, if_pos e]; omega
      · rw [key, if_neg e] at h0
        obtain ⟨i, b', h1, h2, h3, h4, h5⟩ := h.back v hv hne h0
        refine ⟨i, b', h1, h2, h3, ?_, ?_⟩
        · rw [hkeep _ h4]; exact h4
        · rw [hkeep _ h4, h5, key, if_neg e]
  · rw [comeD_no c]
    refine ⟨h, fun e => ?_, fun v _ => rfl⟩
    have := h.low (towN l k b) (by omega)
    refine Classical.byContradiction fun c2 => c ⟨e, by omega⟩

/-- what an arc's turn makes of it: forward first, then back -/
def turnD (l : List Arc3) (F : List Int) (k : Nat) (d : Int) (D : Nat → Int) : Nat → Int :=
  let D1 := if 0 < room l F k false then comeD D (frmN l k false) (towN l k false) d else D
  if 0 < room l F k true then comeD D1 (frmN l k true) (towN l k true) d else D1
theorem LookK.next {N s t : Nat} {l : List Arc3} {F : List Int} {d k : Nat} {D D1 D2 : Nat → Int} (hE : netErr N s t l = 0) (hN : N ≤ 12) (h : LookK N s l F d k D) (hk : k < l.length)
    (h1 : D1 = if 0 < room l F k false then comeD D (frmN l k false) (towN l k false) d else D) (h2 : D2 = if 0 < room l F k true then comeD D1 (frmN l k true) (towN l k true) d else D1) : LookK N s l F d (k + 1) D2 := by
  have a1 : LookK N s l F d k D1 ∧ (0 < room l F k false → D1 (frmN l k false) = d → 0 ≤ D1 (towN l k false)) := by
    by_cases c : 0 < room l F k false
    · rw [if_pos c] at h1; subst h1
      obtain ⟨b1, b2, _⟩ := h.come hE hN hk c
      exact ⟨b1, fun _ => b2⟩
    · rw [if_neg c] at h1; subst h1; exact ⟨h, fun e => absurd e c⟩
  have a2 : LookK N s l F d k D2 ∧ (0 < room l F k true → D2 (frmN l k true) = d → 0 ≤ D2 (towN l k true)) ∧ (∀ v, D1 v = d ∨ 0 ≤ D1 v → D2 v = D1 v) ∧ (∀ v, D2 v = d → D1 v = d) := by
    by_cases c : 0 < room l F k true
    · rw [if_pos c] at h2; subst h2
      obtain ⟨b1, b2, b3⟩ := a1.1.come hE hN hk c
      refine ⟨b1, fun _ => b2, b3, fun v e => ?_⟩
      unfold comeD at e
      split at e
      · omega
      · exact e
    · rw [if_neg c] at h2; subst h2; exact ⟨a1.1, fun e => absurd e c, fun v _ => rfl, fun v e => e⟩
  have hlow := a2.1.low
  refine ⟨a2.1.src, a2.1.low, a2.1.node, fun i b hi hr h0 hd => ?_, a2.1.back⟩
  by_cases e : D2 (frmN l i b) = d ∧ i = k
  · obtain ⟨e1, rfl⟩ := e
    have h3 : 0 ≤ D2 (towN l i b) := by
      cases b
      · have h4 := a1.2 hr (a2.2.2.2 _ e1)
        rw [a2.2.2.1 _ (Or.inr h4)]; exact h4
      · exact a2.2.1 hr e1
    have := (hlow (towN l i b) (by have := (ends_lt hE hi b).2; omega)).2
    exact ⟨h3, by omega⟩
  · exact a2.1.on i b hi hr h0 (by omega)
theorem LookK.pass {N s : Nat} {l : List Arc3} {F : List Int} {d : Nat} {D : Nat → Int} (h : LookK N s l F d l.length D) : LookK N s l F (d + 1) 0 D :=
  ⟨h.src, fun v hv => by have := h.low v hv; omega, h.node, fun i b hi hr h0 hd => h.on i b hi hr h0 (by omega), h.back⟩

/-- as far as a node is so many nodes there are -/
theorem LookK.few {N s t : Nat} {l : List Arc3} {F : List Int} {d k : Nat} {D : Nat → Int} (hE : netErr N s t l = 0) (hN : N ≤ 12) (hs : s < N) (h : LookK N s l F d k D) : ∀ v, v < 12 → D v < (N : Int) := by
  have lev : ∀ (j : Nat) v, v < 12 → D v = (j : Int) → ∀ i : Nat, i ≤ j → ∃ u, u < N ∧ D u = (i : Int) := by
    intro j
    induction j with
    | zero => intro v hv e i hi; exact ⟨v, h.node v hv (by omega), by rw [e]; omega⟩
    | succ j ih =>
      intro v hv e i hi
      by_cases c : i = j + 1
      · subst c; exact ⟨v, h.node v hv (by omega), e⟩
      · have hvs : v ≠ s := fun c => by have := h.src; rw [← c] at this; omega
        obtain ⟨a, b, h1, h2, h3, h4, h5⟩ := h.back v hv hvs (by omega)
        exact ih (frmN l a b) (by have := (ends_lt hE h1 b).1; omega) (by omega) i (by omega)
  intro v hv
  refine Classical.byContradiction fun c => ?_
  obtain ⟨j, hj⟩ := Int.eq_ofNat_of_zero_le (a := D v) (by omega)
  have hex : ∀ i : Nat, ∃ u, i ≤ j → u < N ∧ D u = (i : Int) := fun i => by
    by_cases hi : i ≤ j
    · obtain ⟨u, hu⟩ := lev j v hv hj i hi; exact ⟨u, fun _ => hu⟩
    · exact ⟨0, fun k => absurd k hi⟩
  obtain ⟨U, hU⟩ := Classical.axiomOfChoice hex
  have hn : ((List.range (j + 1)).map U).Nodup := by
    rw [List.nodup_iff_pairwise_ne, List.pairwise_map]
    refine List.Pairwise.imp_of_mem ?_ (List.nodup_iff_pairwise_ne.1 List.nodup_range)
    intro a b ha hb hne e
    have h1 := (hU a (by have := List.mem_range.1 ha; omega)).2
    have h2 := (hU b (by have := List.mem_range.1 hb; omega)).2
    rw [e] at h1
    exact hne (by omega)
  have := List.Nodup.length_le_of_subset (l₂ := List.range N) hn (fun x hx => by
    obtain ⟨i, hi, rfl⟩ := List.mem_map.1 hx
    exact List.mem_range.2 (hU i (by have := List.mem_range.1 hi; omega)).1)
  simp at this
  omega
theorem LookK.done {N s t : Nat} {l : List Arc3} {F : List Int} {D : Nat → Int} (hE : netErr N s t l = 0) (hN : N ≤ 12) (hs : s < N) (h : LookK N s l F N 0 D) : LookIs N s l F D := by
  have hf := h.few hE hN hs
  refine ⟨h.src, fun v hv => ⟨(h.low v hv).1, hf v hv⟩, fun k b hk hr h0 => ?_, h.back⟩
  have := hf _ (by have := (ends_lt hE hk b).1; omega : frmN l k b < 12)
  exact h.on k b hk hr h0 (Or.inl this)

/-! ### Sent on by steps that lead just one farther -/

/-- what may have turned between two flows, by distances: only along steps that lead just one farther -/
def Moved (l : List Arc3) (D : Nat → Int) (F F' : List Int) : Prop :=
  ∀ k b, k < l.length → room l F k b < room l F' k b → 0 ≤ D (towN l k b) ∧ D (frmN l k b) = D (towN l k b) + 1
/-- no way leads on to the sink from where it is blocked -/
structure Shut (N t : Nat) (l : List Arc3) (D : Nat → Int) (F : List Int) (X : Nat → Prop) : Prop where
  snk : ¬ X t
  on : ∀ k b, k < l.length → 0 < room l F k b → X (frmN l k b) → D (towN l k b) = D (frmN l k b) + 1 → X (towN l k b)

theorem Moved.refl (l : List Arc3) (D : Nat → Int) (F : List Int) : Moved l D F F := fun k b hk h => absurd h (Int.lt_irrefl _)
theorem Moved.trans {l : List Arc3} {D : Nat → Int} {F G H : List Int} (h1 : Moved l D F G) (h2 : Moved l D G H) : Moved l D F H := fun k b hk h => by
  by_cases c : room l F k b < room l G k b
  · exact h1 k b hk c
  · exact h2 k b hk (by omega)
/-- where it was shut it stays shut -/
theorem Shut.moved {N t : Nat} {l : List Arc3} {D : Nat → Int} {F F' : List Int} {X : Nat → Prop} (h : Shut N t l D F X) (hM : Moved l D F F') : Shut N t l D F' X :=
  ⟨h.snk, fun k b hk hr hx hd => by
    by_cases c : room l F k b < room l F' k b
    · have := hM k b hk c; omega
    · exact h.on k b hk (by omega) hx hd⟩

/-- the sink is farther then -/
theorem farther {N s t : Nat} {l : List Arc3} {D D' : Nat → Int} {F F' : List Int} {X : Nat → Prop} (hE : netErr N s t l = 0) (hN : N ≤ 12) (h : LookIs N s l F D) (hM : Moved l D F F') (hX : Shut N t l D F' X) (hs : X s) (h' : LookIs N s l F' D') :
    ∀ (j v : Nat), v < 12 → D' v = (j : Int) → 0 ≤ D v ∧ D v ≤ D' v ∧ (D v = D' v → X v) := by
  intro j
  induction j with
  | zero =>
    intro v hv e
    have hvs : v = s := Classical.byContradiction fun c => by
      obtain ⟨k, b, h1, h2, h3, h4, h5⟩ := h'.back v hv c (by omega)
      omega
    subst hvs
    rw [h.src, h'.src]
    exact ⟨Int.le_refl _, Int.le_refl _, fun _ => hs⟩
  | succ j ih =>
    intro v hv e
    have hvs : v ≠ s := fun c => by have := h'.src; rw [← c] at this; omega
    obtain ⟨k, b, h1, h2, h3, h4, h5⟩ := h'.back v hv hvs (by omega)
    obtain ⟨i1, i2, i3⟩ := ih (frmN l k b) (by have := (ends_lt hE h1 b).1; omega) (by omega)
    by_cases c : room l F k b < room l F' k b
    · have := hM k b h1 c
      rw [h3] at this
      exact ⟨this.1, by omega, fun e' => by omega⟩
    · have := h.on k b h1 (by omega) i1
      rw [h3] at this
      refine ⟨this.1, by omega, fun e' => ?_⟩
      have hx := hX.on k b h1 h2 (i3 (by omega)) (by rw [h3]; omega)
      rw [h3] at hx
      exact hx
theorem farther_t {N s t : Nat} {l : List Arc3} {D D' : Nat → Int} {F F' : List Int} {X : Nat → Prop} (hE : netErr N s t l = 0) (hN : N ≤ 12) (ht : t < 12) (h : LookIs N s l F D) (hM : Moved l D F F') (hX : Shut N t l D F' X) (hs : X s) (h' : LookIs N s l F' D') (h0 : 0 ≤ D' t) : 0 ≤ D t ∧ D t < D' t := by
  obtain ⟨j, hj⟩ := Int.eq_ofNat_of_zero_le h0
  obtain ⟨h1, h2, h3⟩ := farther hE hN h hM hX hs h' j t ht hj
  refine ⟨h1, ?_⟩
  have : D t ≠ D' t := fun e => hX.snk (h3 e)
  omega

end Go.Proofs.Ytlfhnhfhaifchaa
