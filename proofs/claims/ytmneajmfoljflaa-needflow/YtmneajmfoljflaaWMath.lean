/- Plain facts on walks in a graph: which way, how far; turned; joined. -/
import Derived.Test.YtmneajmfoljflaaGErr
namespace Go.Proofs.Ytmneajmfoljflaa
set_option linter.unusedVariables false

/-- a walk of so many arcs from s to v -/
def Wk (l : List Arc3) (s : Int) : Nat → Int → Prop
  | 0, v => v = s
  | k + 1, v => ∃ a ∈ l, Wk l s k a.1 ∧ a.2.1 = v

theorem Wk.step {l : List Arc3} {s : Int} {k : Nat} {a : Arc3} (h : Wk l s k a.1) (ha : a ∈ l) : Wk l s (k + 1) a.2.1 := ⟨a, ha, h, rfl⟩

theorem Wk.trans {l : List Arc3} {s u : Int} {j : Nat} (h : Wk l s j u) : ∀ {k : Nat} {v : Int}, Wk l u k v → Wk l s (j + k) v
  | 0, v, hv => by have : v = u := hv; subst this; exact h
  | k + 1, v, ⟨a, ha, hk, hv⟩ => ⟨a, ha, Wk.trans h hk, hv⟩

theorem Wk.one {l : List Arc3} {a : Arc3} (ha : a ∈ l) : Wk l a.1 1 a.2.1 := ⟨a, ha, rfl, rfl⟩

/-- the nodes of a walk are nodes -/
theorem Wk.node {N : Int} {l : List Arc3} {s : Int} (hl : ∀ a ∈ l, (0 ≤ a.1 ∧ a.1 < N) ∧ (0 ≤ a.2.1 ∧ a.2.1 < N)) (hs : 0 ≤ s ∧ s < N) : ∀ {k : Nat} {v : Int}, Wk l s k v → 0 ≤ v ∧ v < N
  | 0, v, h => by have : v = s := h; subst this; exact hs
  | k + 1, v, ⟨a, ha, _, hv⟩ => by rw [← hv]; exact (hl a ha).2

/-- how far it is: of each node the least number of arcs, -1 if there is no walk -/
structure FarIs (N : Nat) (l : List Arc3) (s : Int) (F : List Int) : Prop where
  len : F.length = N
  all : ∀ v : Nat, v < N → (ati F v = -1 ∧ ∀ k, ¬ Wk l s k v) ∨ (∃ d : Nat, ati F v = d ∧ Wk l s d v ∧ ∀ k, Wk l s k v → d ≤ k)

theorem ext_ati {F G : List Int} (hl : F.length = G.length) (h : ∀ v, v < F.length → ati F v = ati G v) : F = G := by
  apply List.ext_getElem hl
  intro i h1 h2
  have := h i h1
  rwa [ati_lt _ _ h1, ati_lt _ _ h2] at this

theorem FarIs.unique {N : Nat} {l : List Arc3} {s : Int} {F G : List Int} (hF : FarIs N l s F) (hG : FarIs N l s G) : F = G := by
  refine ext_ati (by rw [hF.len, hG.len]) fun v hv => ?_
  rw [hF.len] at hv
  rcases hF.all v hv with ⟨e1, n1⟩ | ⟨d1, e1, w1, m1⟩ <;> rcases hG.all v hv with ⟨e2, n2⟩ | ⟨d2, e2, w2, m2⟩
  · rw [e1, e2]
  · exact absurd w2 (n1 _)
  · exact absurd w1 (n2 _)
  · have := m1 _ w2; have := m2 _ w1; rw [e1, e2]; omega

theorem FarIs.bounds {N : Nat} {l : List Arc3} {s : Int} {F : List Int} (hF : FarIs N l s F) {v : Nat} (hv : v < N) : -1 ≤ ati F v := by
  rcases hF.all v hv with ⟨e, _⟩ | ⟨d, e, _⟩ <;> omega

theorem FarIs.walk {N : Nat} {l : List Arc3} {s : Int} {F : List Int} (hF : FarIs N l s F) {v : Nat} (hv : v < N) (h : 0 ≤ ati F v) : Wk l s (ati F v).toNat v := by
  rcases hF.all v hv with ⟨e, _⟩ | ⟨d, e, w, _⟩
  · omega
  · rw [e]; exact w

theorem FarIs.le {N : Nat} {l : List Arc3} {s : Int} {F : List Int} (hF : FarIs N l s F) {v : Nat} (hv : v < N) {k : Nat} (h : Wk l s k v) : 0 ≤ ati F v ∧ ati F v ≤ k := by
  rcases hF.all v hv with ⟨_, n⟩ | ⟨d, e, w, m⟩
  · exact absurd h (n _)
  · have := m _ h; omega

theorem FarIs.first {N : Nat} {l : List Arc3} {F : List Int} {s : Nat} (hF : FarIs N l s F) (hs : s < N) : ati F s = 0 := by
  have := hF.le hs (show Wk l s 0 s from rfl)
  omega

theorem FarIs.zero {N : Nat} {l : List Arc3} {F : List Int} {s : Int} (hF : FarIs N l s F) {v : Nat} (hv : v < N) (h : ati F v = 0) : (v : Int) = s := by
  have := hF.walk hv (by omega)
  rw [h] at this
  exact this

/-- no arc leads more than a step farther -/
theorem FarIs.arc {N : Nat} {l : List Arc3} {s : Int} {F : List Int} (hF : FarIs N l s F) {f t : Nat} {c : Int} (ha : ((f : Int), (t : Int), c) ∈ l) (hf : f < N) (ht : t < N) (h : 0 ≤ ati F f) : 0 ≤ ati F t ∧ ati F t ≤ ati F f + 1 := by
  have w := (hF.walk hf h).step (a := ((f : Int), (t : Int), c)) ha
  have := hF.le ht w
  omega

/-- by some arc it is just a step farther -/
theorem FarIs.hit {N : Nat} {l : List Arc3} {s : Int} {F : List Int} (hF : FarIs N l s F) (hl : ∀ a ∈ l, (0 ≤ a.1 ∧ a.1 < (N : Int)) ∧ (0 ≤ a.2.1 ∧ a.2.1 < (N : Int))) {v : Nat} (hv : v < N) (h : 0 < ati F v) :
    ∃ (u : Nat) (c : Int), ((u : Int), (v : Int), c) ∈ l ∧ u < N ∧ 0 ≤ ati F u ∧ ati F v = ati F u + 1 := by
  have w := hF.walk hv (by omega)
  obtain ⟨d, hd⟩ : ∃ d, (ati F v).toNat = d + 1 := ⟨(ati F v).toNat - 1, by omega⟩
  rw [hd] at w
  obtain ⟨a, ha, hk, e⟩ := w
  obtain ⟨⟨h1, h2⟩, _⟩ := hl a ha
  obtain ⟨f, t, c⟩ := a
  simp only at h1 h2 hk e
  obtain ⟨u, rfl⟩ := Int.eq_ofNat_of_zero_le h1
  subst e
  have hu : u < N := by omega
  have q := hF.le hu hk
  have q2 := hF.arc ha hu hv q.1
  exact ⟨u, c, ha, hu, q.1, by omega⟩

theorem nodup_bound : ∀ (N : Nat) (l : List Nat), l.Nodup → (∀ x ∈ l, x < N) → l.length ≤ N
  | 0, l, _, h => by
    cases l with
    | nil => simp
    | cons a r => exact absurd (h a (List.mem_cons_self ..)) (Nat.not_lt_zero _)
  | N + 1, l, hn, h => by
    have h1 := nodup_bound N (l.filter (· ≠ N)) (hn.filter _) (fun x hx => by
      have := List.mem_filter.1 hx
      have h2 := h x this.1
      have h3 : x ≠ N := by simpa using this.2
      omega)
    have h2 : l.length ≤ (l.filter (· ≠ N)).length + 1 := by
      clear h1 h
      induction l with
      | nil => simp
      | cons a r ih =>
        rw [List.nodup_cons] at hn
        by_cases e : a = N
        · subst e
          have : r.filter (· ≠ a) = r := List.filter_eq_self.2 fun x hx => by
            simp only [ne_eq, decide_not, Bool.not_eq_eq_eq_not, Bool.not_true, decide_eq_false_iff_not]
            intro e; exact hn.1 (e ▸ hx)
          rw [List.filter_cons_of_neg (by simp), this]; simp
        · have := ih hn.2
          simp [e] at this ⊢
          omega
    omega

/-- there are nodes at every distance up to one that is reached -/
theorem FarIs.levels {N : Nat} {l : List Arc3} {s : Int} {F : List Int} (hF : FarIs N l s F) (hl : ∀ a ∈ l, (0 ≤ a.1 ∧ a.1 < (N : Int)) ∧ (0 ≤ a.2.1 ∧ a.2.1 < (N : Int))) :
    ∀ (d v : Nat), v < N → ati F v = d → ∃ L : List Nat, L.length = d + 1 ∧ L.Nodup ∧ ∀ x ∈ L, x < N ∧ 0 ≤ ati F x ∧ ati F x ≤ d
  | 0, v, hv, e => ⟨[v], rfl, by simp, fun x hx => by simp at hx; subst hx; omega⟩
  | d + 1, v, hv, e => by
    obtain ⟨u, c, _, hu, h0, h1⟩ := hF.hit hl hv (by omega)
    obtain ⟨L, h2, h3, h4⟩ := hF.levels hl d u hu (by omega)
    refine ⟨v :: L, by simp [h2], List.nodup_cons.2 ⟨fun hm => ?_, h3⟩, fun x hx => ?_⟩
    · have := h4 v hm; omega
    · rcases List.mem_cons.1 hx with rfl | hx
      · omega
      · have := h4 x hx; omega

theorem FarIs.lt {N : Nat} {l : List Arc3} {s : Int} {F : List Int} (hF : FarIs N l s F) (hl : ∀ a ∈ l, (0 ≤ a.1 ∧ a.1 < (N : Int)) ∧ (0 ≤ a.2.1 ∧ a.2.1 < (N : Int))) {v : Nat} (hv : v < N) : ati F v < N := by
  rcases hF.all v hv with ⟨e, _⟩ | ⟨d, e, _⟩
  · omega
  · obtain ⟨L, h1, h2, h3⟩ := hF.levels hl d v hv e
    have := nodup_bound N L h2 (fun x hx => (h3 x hx).1)
    omega

theorem Wk.cons {l : List Arc3} {a : Arc3} (ha : a ∈ l) {k : Nat} {v : Int} (h : Wk l a.2.1 k v) : Wk l a.1 (k + 1) v := by
  rw [Nat.add_comm]; exact (Wk.one ha).trans h

theorem Wk.turn {l : List Arc3} {s : Int} : ∀ {k : Nat} {v : Int}, Wk l s k v → Wk (l.map turnA) v k s
  | 0, v, h => by have : v = s := h; exact this.symm
  | k + 1, v, ⟨a, ha, hk, hv⟩ => by
    have := Wk.cons (l := l.map turnA) (a := turnA a) (List.mem_map.2 ⟨a, ha, rfl⟩) (k := k) (v := s) (Wk.turn hk)
    have e : (turnA a).1 = v := hv
    rwa [e] at this

theorem turn2 (l : List Arc3) : (l.map turnA).map turnA = l := by
  rw [List.map_map]
  have : turnA ∘ turnA = id := by funext a; rfl
  rw [this, List.map_id]

theorem Wk.mono {l m : List Arc3} (hlm : ∀ a ∈ l, a ∈ m) {s : Int} : ∀ {k : Nat} {v : Int}, Wk l s k v → Wk m s k v
  | 0, _, h => h
  | k + 1, _, ⟨a, ha, hk, hv⟩ => ⟨a, hlm a ha, hk.mono hlm, hv⟩

/-- in the turned graph one comes back in as many steps -/
theorem far_turned {N : Nat} {l : List Arc3} {s t : Nat} {F G : List Int} (hF : FarIs N l s F) (hG : FarIs N (l.map turnA) t G) (hs : s < N) (ht : t < N) : ati F t = ati G s := by
  rcases hF.all t ht with ⟨e1, n1⟩ | ⟨d1, e1, w1, m1⟩ <;> rcases hG.all s hs with ⟨e2, n2⟩ | ⟨d2, e2, w2, m2⟩
  · rw [e1, e2]
  · have := w2.turn; rw [turn2] at this; exact absurd this (n1 _)
  · exact absurd w1.turn (n2 _)
  · have a := w2.turn
    rw [turn2] at a
    have := m1 _ a
    have := m2 _ w1.turn
    rw [e1, e2]; omega

/-! ### Joined by arcs in either direction -/

def both (l : List Arc3) : List Arc3 := l ++ l.map turnA

theorem both_turn (l : List Arc3) : ∀ a ∈ (both l).map turnA, a ∈ both l := by
  intro a ha
  obtain ⟨x, hx, rfl⟩ := List.mem_map.1 ha
  rcases List.mem_append.1 hx with hx | hx
  · exact List.mem_append.2 (Or.inr (List.mem_map.2 ⟨x, hx, rfl⟩))
  · obtain ⟨y, hy, rfl⟩ := List.mem_map.1 hx
    exact List.mem_append.2 (Or.inl hy)

def Jn (l : List Arc3) (u v : Int) : Prop := ∃ k, Wk (both l) u k v

theorem Jn.refl (l : List Arc3) (u : Int) : Jn l u u := ⟨0, rfl⟩
theorem Jn.trans {l : List Arc3} {u v x : Int} (h : Jn l u v) (k : Jn l v x) : Jn l u x := by
  obtain ⟨a, ha⟩ := h; obtain ⟨b, hb⟩ := k; exact ⟨a + b, ha.trans hb⟩
theorem Jn.symm {l : List Arc3} {u v : Int} (h : Jn l u v) : Jn l v u := by
  obtain ⟨a, ha⟩ := h; exact ⟨a, ha.turn.mono (both_turn l)⟩
theorem Jn.arc {l : List Arc3} {a : Arc3} (ha : a ∈ l) : Jn l a.1 a.2.1 := ⟨1, Wk.one (List.mem_append.2 (Or.inl ha))⟩
theorem Jn.mono {l m : List Arc3} (h : ∀ a ∈ l, a ∈ m) {u v : Int} (hj : Jn l u v) : Jn m u v := by
  obtain ⟨k, hk⟩ := hj
  refine ⟨k, hk.mono fun a ha => ?_⟩
  rcases List.mem_append.1 ha with ha | ha
  · exact List.mem_append.2 (Or.inl (h a ha))
  · obtain ⟨x, hx, rfl⟩ := List.mem_map.1 ha
    exact List.mem_append.2 (Or.inr (List.mem_map.2 ⟨x, h x hx, rfl⟩))

/-- what every arc keeps, being joined keeps -/
theorem Jn.keeps {l : List Arc3} (p : Int → Int → Prop) (hr : ∀ u, p u u) (hs : ∀ u v, p u v → p v u) (ht : ∀ u v x, p u v → p v x → p u x) (ha : ∀ a ∈ l, p a.1 a.2.1) {u v : Int} (h : Jn l u v) : p u v := by
  obtain ⟨k, hk⟩ := h
  induction k generalizing v with
  | zero => have : v = u := hk; subst this; exact hr _
  | succ k ih =>
    obtain ⟨a, hm, hk, e⟩ := hk
    subst e
    refine ht _ _ _ (ih hk) ?_
    rcases List.mem_append.1 hm with hm | hm
    · exact ha a hm
    · obtain ⟨x, hx, rfl⟩ := List.mem_map.1 hm
      exact hs _ _ (ha x hx)

/-- of each node the least one with which it is joined -/
structure PartsIs (N : Nat) (l : List Arc3) (F : List Int) : Prop where
  len : F.length = N
  all : ∀ v : Nat, v < N → ∃ p : Nat, ati F v = p ∧ Jn l p v ∧ ∀ u : Nat, Jn l u v → p ≤ u

theorem PartsIs.unique {N : Nat} {l : List Arc3} {F G : List Int} (hF : PartsIs N l F) (hG : PartsIs N l G) : F = G := by
  refine ext_ati (by rw [hF.len, hG.len]) fun v hv => ?_
  rw [hF.len] at hv
  obtain ⟨p, e1, j1, m1⟩ := hF.all v hv
  obtain ⟨q, e2, j2, m2⟩ := hG.all v hv
  have := m1 _ j2; have := m2 _ j1
  rw [e1, e2]; omega

theorem PartsIs.le {N : Nat} {l : List Arc3} {F : List Int} (hF : PartsIs N l F) {v : Nat} (hv : v < N) : 0 ≤ ati F v ∧ ati F v ≤ v := by
  obtain ⟨p, e, _, m⟩ := hF.all v hv
  have := m v (Jn.refl _ _); omega

theorem PartsIs.same {N : Nat} {l : List Arc3} {F : List Int} (hF : PartsIs N l F) {u v : Nat} (hu : u < N) (hv : v < N) : ati F u = ati F v ↔ Jn l u v := by
  obtain ⟨p, e1, j1, m1⟩ := hF.all u hu
  obtain ⟨q, e2, j2, m2⟩ := hF.all v hv
  constructor
  · intro h
    have : p = q := by omega
    subst this
    exact j1.symm.trans j2
  · intro h
    have := m1 q (j2.trans h.symm)
    have := m2 p (j1.trans h)
    omega

theorem PartsIs.turn {N : Nat} {l : List Arc3} {F : List Int} (hF : PartsIs N (l.map turnA) F) : PartsIs N l F := by
  have h1 : ∀ a ∈ both (l.map turnA), a ∈ both l := by
    intro a ha
    rcases List.mem_append.1 ha with ha | ha
    · exact List.mem_append.2 (Or.inr ha)
    · rw [turn2] at ha; exact List.mem_append.2 (Or.inl ha)
  have h2 : ∀ a ∈ both l, a ∈ both (l.map turnA) := by
    intro a ha
    rcases List.mem_append.1 ha with ha | ha
    · refine List.mem_append.2 (Or.inr ?_); rw [turn2]; exact ha
    · exact List.mem_append.2 (Or.inl ha)
  refine ⟨hF.len, fun v hv => ?_⟩
  obtain ⟨p, e, ⟨k, hk⟩, m⟩ := hF.all v hv
  exact ⟨p, e, ⟨k, hk.mono h1⟩, fun u ⟨j, hj⟩ => m u ⟨j, hj.mono h2⟩⟩

/-- with an arc more just the parts of its ends are one -/
theorem parts_more {N : Nat} {l : List Arc3} {f t : Nat} {c : Int} {F G : List Int} (hF : PartsIs N l F) (hG : PartsIs N (l ++ [((f : Int), (t : Int), c)]) G) (hf : f < N) (ht : t < N) {v : Nat} (hv : v < N) :
    ati G v = if ati F v = max (ati F f) (ati F t) then min (ati F f) (ati F t) else ati F v := by
  obtain ⟨g, eg, jg, mg⟩ := hG.all v hv
  have old : ∀ {a b : Int}, Jn l a b → Jn (l ++ [((f : Int), (t : Int), c)]) a b := fun h => h.mono fun a ha => List.mem_append.2 (Or.inl ha)
  have new : Jn (l ++ [((f : Int), (t : Int), c)]) f t := Jn.arc (a := ((f : Int), (t : Int), c)) (List.mem_append.2 (Or.inr (List.mem_singleton.2 rfl)))
  -- what the new arc joins
  have key : ∀ {a b : Int}, Jn (l ++ [((f : Int), (t : Int), c)]) a b → Jn l a b ∨ ((Jn l a f ∨ Jn l a t) ∧ (Jn l b f ∨ Jn l b t)) := by
    intro a b h
    refine Jn.keeps (fun a b => Jn l a b ∨ ((Jn l a f ∨ Jn l a t) ∧ (Jn l b f ∨ Jn l b t))) (fun u => Or.inl (Jn.refl _ _)) ?_ ?_ ?_ h
    · rintro u v (h | ⟨h1, h2⟩)
      · exact Or.inl h.symm
      · exact Or.inr ⟨h2, h1⟩
    · rintro u v x (h | ⟨h1, h2⟩) (k | ⟨k1, k2⟩)
      · exact Or.inl (h.trans k)
      · exact Or.inr ⟨k1.imp h.trans h.trans, k2⟩
      · exact Or.inr ⟨h1, h2.imp k.symm.trans k.symm.trans⟩
      · exact Or.inr ⟨h1, k2⟩
    · intro a ha
      rcases List.mem_append.1 ha with ha | ha
      · exact Or.inl (Jn.arc ha)
      · rw [List.mem_singleton.1 ha]
        exact Or.inr ⟨Or.inl (Jn.refl _ _), Or.inr (Jn.refl _ _)⟩
  obtain ⟨p, ep, jp, mp⟩ := hF.all v hv
  obtain ⟨x, ex, jx, mx⟩ := hF.all f hf
  obtain ⟨y, ey, jy, my⟩ := hF.all t ht
  have hxl := hF.le hf
  have hyl := hF.le ht
  by_cases hjo : Jn l v f ∨ Jn l v t
  · -- v lies in the part of one of the ends: the least of both is its part
    have hpx : p = x ∨ p = y := by
      rcases hjo with h | h
      · exact Or.inl (by have := (hF.same hv hf).2 h; omega)
      · exact Or.inr (by have := (hF.same hv ht).2 h; omega)
    have jvf : Jn (l ++ [((f : Int), (t : Int), c)]) v f := by
      rcases hjo with h | h
      · exact old h
      · exact (old h).trans new.symm
    have g1 : g ≤ x := mg x ((old jx).trans jvf.symm)
    have g2 : g ≤ y := mg y ((old jy).trans (new.symm.trans jvf.symm))
    have g3 : x ≤ g ∨ y ≤ g := by
      rcases key (jg.trans jvf) with h | ⟨h, _⟩
      · exact Or.inl (mx g h)
      · rcases h with h | h
        · exact Or.inl (mx g h)
        · exact Or.inr (my g h)
    rw [eg, ep, ex, ey]
    rcases hpx with rfl | rfl <;> split <;> omega
  · have g1 : g ≤ p := mg p (old jp)
    have g2 : p ≤ g := by
      rcases key jg with h | ⟨_, h⟩
      · exact mp g h
      · exact absurd h hjo
    have n1 : p ≠ x := fun e => hjo (Or.inl ((hF.same hv hf).1 (by rw [ep, ex, e])))
    have n2 : p ≠ y := fun e => hjo (Or.inr ((hF.same hv ht).1 (by rw [ep, ey, e])))
    rw [eg, ep, ex, ey, if_neg (by omega)]
    omega

end Go.Proofs.Ytmneajmfoljflaa
