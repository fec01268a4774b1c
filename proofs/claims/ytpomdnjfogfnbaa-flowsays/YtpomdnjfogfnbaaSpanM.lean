/- Plain facts on the least arcs that join: by Cap, then by number. -/
import Derived.Test.YtpomdnjfogfnbaaWMath
namespace Go.Proofs.Ytpomdnjfogfnbaa
set_option linter.unusedVariables false

/-- arc i comes ahead of arc k -/
def ltA (l : List Arc3) (i k : Nat) : Prop := (at3 l i).2.2 < (at3 l k).2.2 ∨ (at3 l i).2.2 = (at3 l k).2.2 ∧ i < k
instance (l : List Arc3) (i k : Nat) : Decidable (ltA l i k) := by unfold ltA; exact inferInstance
theorem ltA_irrefl (l : List Arc3) (i : Nat) : ¬ ltA l i i := by unfold ltA; omega
theorem ltA_trans {l : List Arc3} {i j k : Nat} (h1 : ltA l i j) (h2 : ltA l j k) : ltA l i k := by unfold ltA at *; omega
theorem ltA_total (l : List Arc3) {i k : Nat} (h : i ≠ k) : ltA l i k ∨ ltA l k i := by unfold ltA; omega

/-- the arcs that p takes -/
def sel (l : List Arc3) (p : Nat → Bool) : List Arc3 := ((List.range l.length).filter p).map (at3 l)
theorem mem_sel {l : List Arc3} {p : Nat → Bool} {a : Arc3} : a ∈ sel l p ↔ ∃ i, i < l.length ∧ p i = true ∧ at3 l i = a := by
  unfold sel
  simp only [List.mem_map, List.mem_filter, List.mem_range]
  exact ⟨fun ⟨i, ⟨h1, h2⟩, h3⟩ => ⟨i, h1, h2, h3⟩, fun ⟨i, h1, h2, h3⟩ => ⟨i, ⟨h1, h2⟩, h3⟩⟩
theorem sel_all (l : List Arc3) : ∀ a, a ∈ sel l (fun _ => true) ↔ a ∈ l := fun a => by
  rw [mem_sel]
  constructor
  · rintro ⟨i, h1, _, rfl⟩; exact at3_mem l i h1
  · intro h
    obtain ⟨i, hi, rfl⟩ := List.mem_iff_getElem.1 h
    exact ⟨i, hi, rfl, at3_lt l i hi⟩

/-- joined is joined, however the arcs stand -/
theorem Jn.same {l m : List Arc3} (h : ∀ a, a ∈ l ↔ a ∈ m) {u v : Int} : Jn l u v ↔ Jn m u v :=
  ⟨fun j => j.mono fun a ha => (h a).1 ha, fun j => j.mono fun a ha => (h a).2 ha⟩

def bef (l : List Arc3) (k : Nat) : List Arc3 := sel l (fun i => decide (ltA l i k))

/-- what Least tells -/
structure LeastIs (l : List Arc3) (K : List Nat) : Prop where
  up : K.Pairwise (· < ·)
  lt : ∀ k ∈ K, k < l.length
  iff : ∀ k, k < l.length → (k ∈ K ↔ ¬ Jn (bef l k) (at3 l k).1 (at3 l k).2.1)

/-! ### How many are ahead -/

theorem countP_lt {α : Type} {p q : α → Bool} : ∀ {L : List α}, (∀ x ∈ L, p x = true → q x = true) → (∃ x ∈ L, q x = true ∧ p x = false) → L.countP p < L.countP q
  | [], _, ⟨x, hx, _⟩ => by cases hx
  | a :: L, h, ⟨x, hx, hq, hp⟩ => by
    have hle : L.countP p ≤ L.countP q := List.countP_mono_left fun y hy => h y (List.mem_cons_of_mem _ hy)
    rcases List.mem_cons.1 hx with e | hx
    · subst e
      rw [List.countP_cons, List.countP_cons, hq, hp]; simp; omega
    · have ih := countP_lt (L := L) (fun y hy => h y (List.mem_cons_of_mem _ hy)) ⟨x, hx, hq, hp⟩
      rw [List.countP_cons, List.countP_cons]
      have := h a (List.mem_cons_self ..)
      cases hpa : p a
      · simp; omega
      · rw [this hpa]; simp; omega

def rank (l : List Arc3) (i : Nat) : Nat := (List.range l.length).countP (fun j => decide (ltA l j i))
theorem rank_lt {l : List Arc3} {j i : Nat} (hj : j < l.length) (h : ltA l j i) : rank l j < rank l i :=
  countP_lt (fun x _ hx => decide_eq_true (ltA_trans (of_decide_eq_true hx) h)) ⟨j, List.mem_range.2 hj, decide_eq_true h, decide_eq_false (ltA_irrefl l j)⟩

/-- with each one all that are ahead of it -/
def Down (l : List Arc3) (q : Nat → Bool) : Prop := ∀ i k, i < l.length → k < l.length → q k = true → ltA l i k → q i = true

/-- what arcs join those of K among them join -/
theorem LeastIs.arc {l : List Arc3} {K : List Nat} (h : LeastIs l K) {q : Nat → Bool} (hq : Down l q) : ∀ (n i : Nat), rank l i = n → i < l.length → q i = true → Jn (sel l (fun j => q j && decide (j ∈ K))) (at3 l i).1 (at3 l i).2.1 := by
  intro n
  induction n using Nat.strongRecOn with
  | ind n ih =>
    intro i hn hi hqi
    by_cases hK : i ∈ K
    · exact Jn.arc (mem_sel.2 ⟨i, hi, by rw [hqi, decide_eq_true hK]; rfl, rfl⟩)
    · have hj : Jn (bef l i) (at3 l i).1 (at3 l i).2.1 := Classical.byContradiction fun hno => hK ((h.iff i hi).2 hno)
      refine Jn.keeps (fun u v => Jn (sel l (fun j => q j && decide (j ∈ K))) u v) (fun u => Jn.refl _ u) (fun u v j => j.symm) (fun u v x j1 j2 => j1.trans j2) (fun a ha => ?_) hj
      obtain ⟨j, hjl, hlt, rfl⟩ := mem_sel.1 ha
      have hlt := of_decide_eq_true hlt
      exact ih (rank l j) (by rw [← hn]; exact rank_lt hjl hlt) j rfl hjl (hq j i hjl hi hqi hlt)

theorem LeastIs.joins {l : List Arc3} {K : List Nat} (h : LeastIs l K) {q : Nat → Bool} (hq : Down l q) {u v : Int} : Jn (sel l q) u v ↔ Jn (sel l (fun j => q j && decide (j ∈ K))) u v := by
  constructor
  · intro hj
    refine Jn.keeps (fun u v => Jn (sel l (fun j => q j && decide (j ∈ K))) u v) (fun u => Jn.refl _ u) (fun u v j => j.symm) (fun u v x j1 j2 => j1.trans j2) (fun a ha => ?_) hj
    obtain ⟨i, hi, hqi, rfl⟩ := mem_sel.1 ha
    exact h.arc hq _ i rfl hi hqi
  · intro hj
    refine hj.mono fun a ha => ?_
    obtain ⟨i, hi, hqi, rfl⟩ := mem_sel.1 ha
    exact mem_sel.2 ⟨i, hi, (Bool.and_eq_true_iff.1 hqi).1, rfl⟩

/-- SpanCut -/
theorem LeastIs.cut {l : List Arc3} {K : List Nat} (h : LeastIs l K) {α : Type} {S : Int → α} {b : Nat} (hb : b < l.length) (hc : S (at3 l b).1 ≠ S (at3 l b).2.1)
    (hl : ∀ i, i < l.length → S (at3 l i).1 ≠ S (at3 l i).2.1 → ¬ ltA l i b) : b ∈ K := by
  refine (h.iff b hb).2 fun hj => hc ?_
  refine Jn.keeps (fun u v => S u = S v) (fun u => rfl) (fun u v e => e.symm) (fun u v x e1 e2 => e1.trans e2) (fun a ha => ?_) hj
  obtain ⟨i, hi, hlt, rfl⟩ := mem_sel.1 ha
  exact Classical.byContradiction fun hne => hl i hi hne (of_decide_eq_true hlt)

/-- SpanRound -/
theorem LeastIs.round {l : List Arc3} {K : List Nat} (h : LeastIs l K) {k : Nat} (hk : k < l.length) (hn : k ∉ K) : Jn (sel l (fun j => decide (ltA l j k) && decide (j ∈ K))) (at3 l k).1 (at3 l k).2.1 := by
  refine (h.joins (q := fun j => decide (ltA l j k)) (fun i j hi hj hq hlt => decide_eq_true (ltA_trans hlt (of_decide_eq_true hq)))).1 ?_
  exact Classical.byContradiction fun hno => hn ((h.iff k hk).2 hno)

/-- what they join, all together -/
theorem LeastIs.all {l : List Arc3} {K : List Nat} (h : LeastIs l K) {u v : Int} : Jn l u v ↔ Jn (sel l (fun j => decide (j ∈ K))) u v := by
  have e := h.joins (q := fun _ => true) (fun _ _ _ _ _ _ => rfl) (u := u) (v := v)
  rw [Jn.same (sel_all l)] at e
  rw [e]
  exact Jn.same fun a => by rw [mem_sel, mem_sel]; simp

/-- SpanWide: by arcs that cost no more -/
theorem LeastIs.wide {l : List Arc3} {K : List Nat} (h : LeastIs l K) (c : Int) {u v : Int} : Jn (sel l (fun j => decide ((at3 l j).2.2 ≤ c))) u v ↔ Jn (sel l (fun j => decide ((at3 l j).2.2 ≤ c) && decide (j ∈ K))) u v :=
  h.joins (q := fun j => decide ((at3 l j).2.2 ≤ c)) fun i k _ _ hq hlt => decide_eq_true (by have := of_decide_eq_true hq; unfold ltA at hlt; omega)

/-! ### As many as nodes less parts -/

/-- how many parts: the nodes that are the least of theirs -/
def roots (N : Nat) (F : List Int) : Nat := (List.range N).countP (fun v => decide (ati F v = (v : Int)))

theorem parts_exist (N : Nat) (l : List Arc3) : ∃ F, PartsIs N l F := by
  have hex : ∀ v : Nat, ∃ p : Nat, Jn l p v ∧ ∀ u : Nat, Jn l u v → p ≤ u := fun v => by
    have key : ∀ n : Nat, ∀ p : Nat, p ≤ n → Jn l p v → ∃ p : Nat, Jn l p v ∧ ∀ u : Nat, Jn l u v → p ≤ u := by
      intro n
      induction n with
      | zero => intro p hp hj; exact ⟨p, hj, fun u _ => by omega⟩
      | succ n ih =>
        intro p hp hj
        by_cases hs : ∃ u : Nat, u < p ∧ Jn l u v
        · obtain ⟨u, hu, hju⟩ := hs
          exact ih u (by omega) hju
        · exact ⟨p, hj, fun u hu => Nat.le_of_not_lt fun hlt => hs ⟨u, hlt, hu⟩⟩
    exact key v v (Nat.le_refl _) (Jn.refl _ _)
  refine ⟨(List.range N).map fun v => ((Classical.choose (hex v) : Nat) : Int), by simp, fun v hv => ?_⟩
  refine ⟨Classical.choose (hex v), ?_, Classical.choose_spec (hex v)⟩
  rw [ati_lt _ _ (by simpa using hv)]
  simp

theorem PartsIs.congr {N : Nat} {l m : List Arc3} {F : List Int} (h : PartsIs N l F) (e : ∀ u v : Int, Jn l u v ↔ Jn m u v) : PartsIs N m F :=
  ⟨h.len, fun v hv => by obtain ⟨p, h1, h2, h3⟩ := h.all v hv; exact ⟨p, h1, (e _ _).1 h2, fun u hu => h3 u ((e _ _).2 hu)⟩⟩

/-- with an arc more -/
theorem jn_more {l : List Arc3} {a : Arc3} {u v : Int} : Jn (a :: l) u v ↔ Jn l u v ∨ (Jn l u a.1 ∧ Jn l a.2.1 v) ∨ (Jn l u a.2.1 ∧ Jn l a.1 v) := by
  constructor
  · intro h
    refine Jn.keeps (fun u v => Jn l u v ∨ (Jn l u a.1 ∧ Jn l a.2.1 v) ∨ (Jn l u a.2.1 ∧ Jn l a.1 v)) (fun u => Or.inl (Jn.refl _ u)) (fun u v j => ?_) (fun u v x j1 j2 => ?_) (fun b hb => ?_) h
    · rcases j with j | ⟨j1, j2⟩ | ⟨j1, j2⟩
      · exact Or.inl j.symm
      · exact Or.inr (Or.inr ⟨j2.symm, j1.symm⟩)
      · exact Or.inr (Or.inl ⟨j2.symm, j1.symm⟩)
    · rcases j1 with j1 | ⟨j1, k1⟩ | ⟨j1, k1⟩ <;> rcases j2 with j2 | ⟨j2, k2⟩ | ⟨j2, k2⟩
      · exact Or.inl (j1.trans j2)
      · exact Or.inr (Or.inl ⟨j1.trans j2, k2⟩)
      · exact Or.inr (Or.inr ⟨j1.trans j2, k2⟩)
      · exact Or.inr (Or.inl ⟨j1, k1.trans j2⟩)
      · exact Or.inr (Or.inl ⟨j1, k2⟩)
      · exact Or.inl (j1.trans k2)
      · exact Or.inr (Or.inr ⟨j1, k1.trans j2⟩)
      · exact Or.inl (j1.trans k2)
      · exact Or.inr (Or.inr ⟨j1, k2⟩)
    · rcases List.mem_cons.1 hb with rfl | hb
      · exact Or.inr (Or.inl ⟨Jn.refl _ _, Jn.refl _ _⟩)
      · exact Or.inl (Jn.arc hb)
  · have ha : Jn (a :: l) a.1 a.2.1 := Jn.arc (List.mem_cons_self ..)
    have mo : ∀ {u v : Int}, Jn l u v → Jn (a :: l) u v := fun j => j.mono fun b hb => List.mem_cons_of_mem _ hb
    rintro (j | ⟨j1, j2⟩ | ⟨j1, j2⟩)
    · exact mo j
    · exact ((mo j1).trans ha).trans (mo j2)
    · exact ((mo j1).trans ha.symm).trans (mo j2)

theorem jn_none {l : List Arc3} {a : Arc3} (h : Jn l a.1 a.2.1) {u v : Int} : Jn (a :: l) u v ↔ Jn l u v := by
  rw [jn_more]
  constructor
  · rintro (j | ⟨j1, j2⟩ | ⟨j1, j2⟩)
    · exact j
    · exact (j1.trans h).trans j2
    · exact (j1.trans h.symm).trans j2
  · exact Or.inl

/-- an arc between two parts: one part less -/
theorem roots_less {N : Nat} {l : List Arc3} {a : Arc3} {F G : List Int} (hF : PartsIs N l F) (hG : PartsIs N (a :: l) G) (ha : (0 ≤ a.1 ∧ a.1 < (N : Int)) ∧ (0 ≤ a.2.1 ∧ a.2.1 < (N : Int))) (hn : ¬ Jn l a.1 a.2.1) : roots N G + 1 = roots N F := by
  obtain ⟨⟨f, hf⟩, ⟨t, ht⟩⟩ := (⟨Int.eq_ofNat_of_zero_le ha.1.1, Int.eq_ofNat_of_zero_le ha.2.1⟩ : (∃ n : Nat, a.1 = n) ∧ ∃ n : Nat, a.2.1 = n)
  have hfN : f < N := by omega
  have htN : t < N := by omega
  obtain ⟨p, e1, j1, m1⟩ := hF.all f hfN
  obtain ⟨q, e2, j2, m2⟩ := hF.all t htN
  rw [← hf] at j1
  rw [← ht] at j2
  have hpq : p ≠ q := fun e => hn (by rw [e] at j1; exact j1.symm.trans j2)
  have hpN : p < N := by have := m1 f (Jn.refl _ _); omega
  have hqN : q < N := by have := m2 t (Jn.refl _ _); omega
  -- the greater of both is no more the least of its part
  have key : ∀ v : Nat, v < N → (ati F v = (v : Int) ↔ ati G v = (v : Int) ∨ v = max p q) ∧ (ati G v = (v : Int) → v ≠ max p q) := by
    intro v hv
    obtain ⟨x, e3, j3, m3⟩ := hF.all v hv
    obtain ⟨y, e4, j4, m4⟩ := hG.all v hv
    have hyx : y ≤ x := m4 x (jn_more.2 (Or.inl j3))
    have hxv : x ≤ v := m3 v (Jn.refl _ _)
    -- who is joined with p and q, of late
    have hlate : Jn (a :: l) p q := jn_more.2 (Or.inr (Or.inl ⟨j1, j2.symm⟩))
    have hpl : ∀ u : Nat, Jn l u p → p ≤ u := fun u hu => m1 u (by rw [← hf]; exact hu.trans j1)
    have hql : ∀ u : Nat, Jn l u q → q ≤ u := fun u hu => m2 u (by rw [← ht]; exact hu.trans j2)
    have hGne : ati G v = (v : Int) → v ≠ max p q := by
      intro hg e
      have hyv : y = v := by omega
      have hmm : Jn (a :: l) ((min p q : Nat) : Int) v := by
        rcases Nat.lt_or_gt_of_ne hpq with h | h
        · rw [Nat.min_eq_left (by omega), e, Nat.max_eq_right (by omega)]; exact hlate
        · rw [Nat.min_eq_right (by omega), e, Nat.max_eq_left (by omega)]; exact hlate.symm
      have := m4 _ hmm
      omega
    refine ⟨⟨fun hv1 => ?_, fun hv1 => ?_⟩, hGne⟩
    · by_cases hmax : v = max p q
      · exact Or.inr hmax
      · refine Or.inl ?_
        have hxv' : x = v := by omega
        subst hxv'
        rw [e4]
        have hy : ¬ y < x := fun hlt => by
          rcases jn_more.1 j4 with j | ⟨k1, k2⟩ | ⟨k1, k2⟩
          · have := m3 y j; omega
          · -- x in the part of t: x = q; y in the part of f: p ≤ y
            have hxq : x = q := by
              have h1 := m3 q (j2.trans k2)
              have h2 := hql x (k2.symm.trans j2.symm)
              omega
            have hpy := hpl y (k1.trans j1.symm)
            omega
          · have hxp : x = p := by
              have h1 := m3 p (j1.trans k2)
              have h2 := hpl x (k2.symm.trans j1.symm)
              omega
            have hqy := hql y (k1.trans j2.symm)
            omega
        omega
    · rcases hv1 with hg | hmax
      · have : y = v := by omega
        omega
      · have hself : ∀ z : Nat, z < N → (∀ u : Nat, Jn l u z → z ≤ u) → v = z → x = v := fun z _ hz e => by
          subst e
          have h1 := hz x j3
          omega
        rcases Nat.lt_or_gt_of_ne hpq with h | h
        · have hvq : v = q := by rw [hmax]; exact Nat.max_eq_right (by omega)
          have := hself q hqN hql hvq
          omega
        · have hvp : v = p := by rw [hmax]; exact Nat.max_eq_left (by omega)
          have := hself p hpN hpl hvp
          omega
  have hmaxN : max p q < N := Nat.max_lt.2 ⟨hpN, hqN⟩
  unfold roots
  have count : ∀ (L : List Nat), (∀ v ∈ L, v < N) → L.countP (fun v => decide (ati F v = (v : Int))) = L.countP (fun v => decide (ati G v = (v : Int))) + L.count (max p q) := by
    intro L
    induction L with
    | nil => intro _; rfl
    | cons v L ih =>
      intro hL
      have ih := ih fun x hx => hL x (List.mem_cons_of_mem _ hx)
      obtain ⟨k1, k2⟩ := key v (hL v (List.mem_cons_self ..))
      rw [List.countP_cons, List.countP_cons, List.count_cons, ih]
      by_cases hm : v = max p q
      · have h1 : ati F v = (v : Int) := k1.2 (Or.inr hm)
        have h2 : ¬ ati G v = (v : Int) := fun h => k2 h hm
        simp [h1, h2, hm.symm]
        omega
      · by_cases h1 : ati F v = (v : Int)
        · have h2 : ati G v = (v : Int) := (k1.1 h1).resolve_right hm
          simp [h1, h2, hm]; omega
        · have h2 : ¬ ati G v = (v : Int) := fun h => h1 (k1.2 (Or.inl h))
          simp [h1, h2, hm]
  rw [count (List.range N) (fun v hv => List.mem_range.1 hv)]
  have : (List.range N).count (max p q) = 1 := by
    rw [List.nodup_range.count, if_pos (List.mem_range.2 hmaxN)]
  omega

/-- the last of them -/
theorem last_of (l : List Arc3) : ∀ {L : List Nat}, L ≠ [] → ∃ k ∈ L, ∀ i ∈ L, i ≠ k → ltA l i k
  | [], h => absurd rfl h
  | a :: L, _ => by
    by_cases hL : L = []
    · subst hL
      exact ⟨a, by simp, fun i hi hne => by simp at hi; exact absurd hi hne⟩
    · obtain ⟨k, hk, hmax⟩ := last_of l hL
      by_cases e : a = k
      · subst e
        exact ⟨a, by simp, fun i hi hne => by
          rcases List.mem_cons.1 hi with h | h
          · exact absurd h hne
          · exact hmax i h hne⟩
      · rcases ltA_total l e with h | h
        · exact ⟨k, List.mem_cons_of_mem _ hk, fun i hi hne => by
            rcases List.mem_cons.1 hi with h' | h'
            · rw [h']; exact h
            · exact hmax i h' hne⟩
        · exact ⟨a, by simp, fun i hi hne => by
            rcases List.mem_cons.1 hi with h' | h'
            · exact absurd h' hne
            · by_cases e2 : i = k
              · rw [e2]; exact h
              · exact ltA_trans (hmax i h' e2) h⟩

theorem countP_but {p : Nat → Bool} {k : Nat} (hp : p k = true) (L : List Nat) : L.countP p = L.countP (fun i => p i && decide (i ≠ k)) + L.count k := by
  induction L with
  | nil => rfl
  | cons a L ih =>
    rw [List.countP_cons, List.countP_cons, List.count_cons, ih]
    by_cases e : a = k
    · subst e; simp [hp]; omega
    · simp [e]; cases p a <;> simp <;> omega

theorem roots_none {N : Nat} {l : List Arc3} {F : List Int} (hF : PartsIs N l F) (h0 : ∀ a, a ∉ l) : roots N F = N := by
  unfold roots
  rw [List.countP_eq_length.2, List.length_range]
  intro v hv
  obtain ⟨p, e, j, _⟩ := hF.all v (List.mem_range.1 hv)
  have : (p : Int) = (v : Int) := Jn.keeps (fun u v => u = v) (fun _ => rfl) (fun _ _ h => h.symm) (fun _ _ _ h1 h2 => h1.trans h2) (fun a ha => absurd ha (h0 a)) j
  exact decide_eq_true (by rw [e]; exact this)

theorem LeastIs.some {N : Nat} {l : List Arc3} {K : List Nat} (h : LeastIs l K) (hl : ∀ a ∈ l, (0 ≤ a.1 ∧ a.1 < (N : Int)) ∧ (0 ≤ a.2.1 ∧ a.2.1 < (N : Int))) :
    ∀ (n : Nat) (q : Nat → Bool), Down l q → (List.range l.length).countP q = n → ∀ F, PartsIs N (sel l q) F → (List.range l.length).countP (fun i => q i && decide (i ∈ K)) + roots N F = N := by
  intro n
  induction n with
  | zero =>
    intro q hq hc F hF
    have hno : ∀ i, i < l.length → q i = false := fun i hi => by
      have := List.countP_eq_zero.1 hc i (List.mem_range.2 hi)
      simpa using this
    have h0 : (List.range l.length).countP (fun i => q i && decide (i ∈ K)) = 0 := List.countP_eq_zero.2 fun i hi => by
      rw [hno i (List.mem_range.1 hi)]; simp
    rw [h0, roots_none hF fun a ha => ?_, Nat.zero_add]
    obtain ⟨i, hi, hqi, _⟩ := mem_sel.1 ha
    rw [hno i hi] at hqi; cases hqi
  | succ n ih =>
    intro q hq hc G hG
    have hne : (List.range l.length).filter q ≠ [] := fun e => by
      rw [List.countP_eq_length_filter, e] at hc; simp at hc
    obtain ⟨k, hk, hmax⟩ := last_of l hne
    obtain ⟨hkr, hqk⟩ := List.mem_filter.1 hk
    have hkl := List.mem_range.1 hkr
    have hmax' : ∀ i, i < l.length → q i = true → i ≠ k → ltA l i k := fun i hi hqi hne => hmax i (List.mem_filter.2 ⟨List.mem_range.2 hi, hqi⟩) hne
    have hcnt : (List.range l.length).count k = 1 := by rw [List.nodup_range.count, if_pos hkr]
    have hq' : Down l (fun i => q i && decide (i ≠ k)) := fun i j hi hj hqj hlt => by
      obtain ⟨h1, h2⟩ := Bool.and_eq_true_iff.1 hqj
      have h2 := of_decide_eq_true h2
      refine Bool.and_eq_true_iff.2 ⟨hq i j hi hj h1 hlt, decide_eq_true fun e => ?_⟩
      subst e
      exact ltA_irrefl l i (ltA_trans hlt (hmax' j hj h1 h2))
    have hc' : (List.range l.length).countP (fun i => q i && decide (i ≠ k)) = n := by
      have := countP_but hqk (List.range l.length)
      omega
    obtain ⟨F, hF⟩ := parts_exist N (sel l (fun i => q i && decide (i ≠ k)))
    have hI := ih _ hq' hc' F hF
    have hmem : ∀ a, a ∈ sel l q ↔ a ∈ at3 l k :: sel l (fun i => q i && decide (i ≠ k)) := fun a => by
      rw [List.mem_cons, mem_sel, mem_sel]
      constructor
      · rintro ⟨i, hi, hqi, rfl⟩
        by_cases e : i = k
        · exact Or.inl (by rw [e])
        · exact Or.inr ⟨i, hi, by rw [hqi, decide_eq_true e]; rfl, rfl⟩
      · rintro (rfl | ⟨i, hi, hqi, rfl⟩)
        · exact ⟨k, hkl, hqk, rfl⟩
        · exact ⟨i, hi, (Bool.and_eq_true_iff.1 hqi).1, rfl⟩
    have hbef : ∀ a, a ∈ bef l k ↔ a ∈ sel l (fun i => q i && decide (i ≠ k)) := fun a => by
      unfold bef
      rw [mem_sel, mem_sel]
      constructor
      · rintro ⟨i, hi, hlt, rfl⟩
        have hlt := of_decide_eq_true hlt
        exact ⟨i, hi, by rw [hq i k hi hkl hqk hlt, decide_eq_true (show i ≠ k from fun e => ltA_irrefl l k (by rw [e] at hlt; exact hlt))]; rfl, rfl⟩
      · rintro ⟨i, hi, hqi, rfl⟩
        obtain ⟨h1, h2⟩ := Bool.and_eq_true_iff.1 hqi
        exact ⟨i, hi, decide_eq_true (hmax' i hi h1 (of_decide_eq_true h2)), rfl⟩
    have hG2 : PartsIs N (at3 l k :: sel l (fun i => q i && decide (i ≠ k))) G := hG.congr fun u v => Jn.same hmem
    have hnodes := hl _ (at3_mem l k hkl)
    have hsw : ∀ i, (decide (i ∈ K) && (q i && decide (i ≠ k))) = ((q i && decide (i ∈ K)) && decide (i ≠ k)) := fun i => by cases q i <;> cases decide (i ∈ K) <;> rfl
    have hce : (List.range l.length).countP (fun i => (q i && decide (i ≠ k)) && decide (i ∈ K)) = (List.range l.length).countP (fun i => (q i && decide (i ∈ K)) && decide (i ≠ k)) := by
      congr 1; funext i; cases q i <;> cases decide (i ∈ K) <;> cases decide (i ≠ k) <;> rfl
    by_cases hkK : k ∈ K
    · have hnj : ¬ Jn (sel l (fun i => q i && decide (i ≠ k))) (at3 l k).1 (at3 l k).2.1 := fun hj => (h.iff k hkl).1 hkK ((Jn.same hbef).2 hj)
      have hless := roots_less hF hG2 hnodes hnj
      have hb := countP_but (p := fun i => q i && decide (i ∈ K)) (k := k) (by rw [hqk, decide_eq_true hkK]; rfl) (List.range l.length)
      rw [hce] at hI
      omega
    · have hj : Jn (sel l (fun i => q i && decide (i ≠ k))) (at3 l k).1 (at3 l k).2.1 := (Jn.same hbef).1 (Classical.byContradiction fun hno => hkK ((h.iff k hkl).2 hno))
      have hFG : F = G := hF.unique (hG2.congr fun u v => jn_none hj)
      have hb : (List.range l.length).countP (fun i => q i && decide (i ∈ K)) = (List.range l.length).countP (fun i => (q i && decide (i ∈ K)) && decide (i ≠ k)) := by
        congr 1; funext i
        by_cases e : i = k
        · subst e; simp [hkK]
        · simp [e]
      rw [hce, hFG] at hI
      omega

theorem pigS : ∀ {A m : List Nat}, A.Nodup → (∀ x ∈ A, x ∈ m) → A.length ≤ m.length
  | [], _, _, _ => Nat.zero_le _
  | a :: r, m, hn, h => by
    have ha := h a (List.mem_cons_self ..)
    obtain ⟨h1, h2⟩ := List.nodup_cons.1 hn
    have := pigS (A := r) (m := m.erase a) h2 fun x hx => (List.mem_erase_of_ne (show x ≠ a from fun e => h1 (e ▸ hx))).2 (h x (List.mem_cons_of_mem _ hx))
    rw [List.length_erase_of_mem ha] at this
    have : 0 < m.length := List.length_pos_of_mem ha
    simp only [List.length_cons]; omega

/-- SpanJoins: as many as nodes less parts -/
theorem LeastIs.count {N : Nat} {l : List Arc3} {K : List Nat} (h : LeastIs l K) (hl : ∀ a ∈ l, (0 ≤ a.1 ∧ a.1 < (N : Int)) ∧ (0 ≤ a.2.1 ∧ a.2.1 < (N : Int))) {F : List Int} (hF : PartsIs N l F) : K.length + roots N F = N := by
  have hs := h.some hl _ (fun _ => true) (fun _ _ _ _ _ _ => rfl) rfl F (hF.congr fun u v => (Jn.same (sel_all l)).symm)
  have hK : (List.range l.length).countP (fun i => true && decide (i ∈ K)) = K.length := by
    rw [List.countP_eq_length_filter]
    have hnd : K.Nodup := h.up.imp fun hlt => Nat.ne_of_lt hlt
    apply Nat.le_antisymm
    · exact pigS (List.nodup_range.filter _) fun x hx => by simpa using (List.mem_filter.1 hx).2
    · exact pigS hnd fun x hx => List.mem_filter.2 ⟨List.mem_range.2 (h.lt x hx), by simpa using hx⟩
  omega

theorem LeastIs.unique {l : List Arc3} {K K' : List Nat} (h : LeastIs l K) (h' : LeastIs l K') : K = K' := by
  have hm : ∀ x, x ∈ K ↔ x ∈ K' := fun x => ⟨fun hx => (h'.iff x (h.lt x hx)).2 ((h.iff x (h.lt x hx)).1 hx), fun hx => (h.iff x (h'.lt x hx)).2 ((h'.iff x (h'.lt x hx)).1 hx)⟩
  have key : ∀ (A B : List Nat), A.Pairwise (· < ·) → B.Pairwise (· < ·) → (∀ x, x ∈ A ↔ x ∈ B) → A = B := by
    intro A
    induction A with
    | nil => intro B _ _ hm; cases B with
      | nil => rfl
      | cons b B => exact absurd ((hm b).2 (by simp)) (by simp)
    | cons a A ih =>
      intro B hA hB hm
      cases B with
      | nil => exact absurd ((hm a).1 (by simp)) (by simp)
      | cons b B =>
        obtain ⟨a1, a2⟩ := List.pairwise_cons.1 hA
        obtain ⟨b1, b2⟩ := List.pairwise_cons.1 hB
        have hab : a = b := by
          rcases List.mem_cons.1 ((hm a).1 (by simp)) with e | e
          · exact e
          · rcases List.mem_cons.1 ((hm b).2 (by simp)) with e' | e'
            · exact e'.symm
            · have := b1 a e; have := a1 b e'; omega
        subst hab
        rw [ih B a2 b2 fun x => ⟨fun hx => ?_, fun hx => ?_⟩]
        · rcases List.mem_cons.1 ((hm x).1 (List.mem_cons_of_mem _ hx)) with e | e
          · have := a1 x hx; omega
          · exact e
        · rcases List.mem_cons.1 ((hm x).2 (List.mem_cons_of_mem _ hx)) with e | e
          · have := b1 x hx; omega
          · exact e
  exact key K K' h.up h'.up hm

end Go.Proofs.Ytpomdnjfogfnbaa
