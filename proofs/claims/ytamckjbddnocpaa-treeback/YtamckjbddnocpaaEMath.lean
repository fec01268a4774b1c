/- Plain facts on trails: all arcs, each once, one behind the other. -/
import Derived.Test.YtamckjbddnocpaaTMath
import Derived.Test.YtamckjbddnocpaaWalkC
import Derived.Test.YtamckjbddnocpaaSums
namespace Go.Proofs.Ytamckjbddnocpaa
set_option linter.unusedVariables false

def od (l : List Arc3) (v : Int) : Int := (l.countP (fun a => decide (a.1 = v)) : Nat)
def idg (l : List Arc3) (v : Int) : Int := (l.countP (fun a => decide (a.2.1 = v)) : Nat)

theorem outDeg_od (l : List Arc3) (v : Nat) : outDeg l v = od l v := rfl
theorem inDeg_idg (l : List Arc3) (v : Nat) : inDeg l v = idg l v := rfl

/-- 1 where it holds, else 0 -/
def one (p : Prop) [Decidable p] : Int := if p then 1 else 0
theorem one_yes {p : Prop} [Decidable p] (h : p) : one p = 1 := if_pos h
theorem one_no {p : Prop} [Decidable p] (h : ¬ p) : one p = 0 := if_neg h
theorem one_bounds (p : Prop) [Decidable p] : 0 ≤ one p ∧ one p ≤ 1 := by unfold one; split <;> omega

theorem od_cons (a : Arc3) (l : List Arc3) (v : Int) : od (a :: l) v = od l v + one (v = a.1) := by
  unfold od one
  rw [List.countP_cons]
  by_cases e : a.1 = v
  · simp [e]
  · simp [e, show ¬ v = a.1 from fun h => e h.symm]
theorem idg_cons (a : Arc3) (l : List Arc3) (v : Int) : idg (a :: l) v = idg l v + one (v = a.2.1) := by
  unfold idg one
  rw [List.countP_cons]
  by_cases e : a.2.1 = v
  · simp [e]
  · simp [e, show ¬ v = a.2.1 from fun h => e h.symm]
theorem od_append (l m : List Arc3) (v : Int) : od (l ++ m) v = od l v + od m v := by
  unfold od; rw [List.countP_append]; simp
theorem idg_append (l m : List Arc3) (v : Int) : idg (l ++ m) v = idg l v + idg m v := by
  unfold idg; rw [List.countP_append]; simp
theorem od_turn (l : List Arc3) (v : Int) : od (l.map turnA) v = idg l v := by
  unfold od idg; rw [List.countP_map]; rfl
theorem idg_turn (l : List Arc3) (v : Int) : idg (l.map turnA) v = od l v := by
  unfold od idg; rw [List.countP_map]; rfl
theorem od_nonneg (l : List Arc3) (v : Int) : 0 ≤ od l v := by unfold od; omega
theorem idg_nonneg (l : List Arc3) (v : Int) : 0 ≤ idg l v := by unfold idg; omega
theorem od_pos {l : List Arc3} {v : Int} (h : 0 < od l v) : ∃ a ∈ l, a.1 = v := by
  unfold od at h
  have : 0 < l.countP (fun a => decide (a.1 = v)) := by omega
  obtain ⟨a, ha, e⟩ := List.countP_pos_iff.1 this
  exact ⟨a, ha, by simpa using e⟩
theorem idg_pos {l : List Arc3} {v : Int} (h : 0 < idg l v) : ∃ a ∈ l, a.2.1 = v := by
  unfold idg at h
  have : 0 < l.countP (fun a => decide (a.2.1 = v)) := by omega
  obtain ⟨a, ha, e⟩ := List.countP_pos_iff.1 this
  exact ⟨a, ha, by simpa using e⟩

/-- from each node as many arcs lead as to it, but that one more leads from s and one more to t -/
def Bal (l : List Arc3) (s t : Int) : Prop := ∀ v, od l v - idg l v = one (v = s) - one (v = t)

/-- all arcs lie in one part -/
def Conn (l : List Arc3) : Prop := ∀ a ∈ l, ∀ b ∈ l, Jn l a.1 b.1

/-- what Can tells -/
def CanIs (l : List Arc3) (k : Int) : Prop :=
  (k = 2 ∧ Conn l ∧ ∀ v, od l v = idg l v) ∨ (k = 1 ∧ Conn l ∧ ∃ s t, s ≠ t ∧ Bal l s t) ∨ (k = 0 ∧ ¬ (Conn l ∧ ∃ s t, Bal l s t))

theorem bal_same {l : List Arc3} (h : ∀ v, od l v = idg l v) (s : Int) : Bal l s s := fun v => by have := h v; omega
theorem same_bal {l : List Arc3} {s : Int} (h : Bal l s s) : ∀ v, od l v = idg l v := fun v => by have := h v; omega
theorem bal_ne {l : List Arc3} {s t : Int} (h : Bal l s t) (hst : s ≠ t) (hs : ∀ v, od l v = idg l v) : False := by
  have := h s; have := hs s
  rw [one_yes rfl, one_no hst] at *
  omega

theorem CanIs.unique {l : List Arc3} {j k : Int} (h : CanIs l j) (g : CanIs l k) : j = k := by
  rcases h with ⟨rfl, c, hd⟩ | ⟨rfl, c, s, t, hst, hb⟩ | ⟨rfl, hn⟩ <;> rcases g with ⟨rfl, c', hd'⟩ | ⟨rfl, c', s', t', hst', hb'⟩ | ⟨rfl, hn'⟩
  · rfl
  · exact (bal_ne hb' hst' hd).elim
  · exact absurd ⟨c, 0, 0, bal_same hd 0⟩ hn'
  · exact (bal_ne hb hst hd').elim
  · rfl
  · exact absurd ⟨c, s, t, hb⟩ hn'
  · exact absurd ⟨c', 0, 0, bal_same hd' 0⟩ hn
  · exact absurd ⟨c', s', t', hb'⟩ hn
  · rfl

theorem CanIs.some {l : List Arc3} {k : Int} (h : CanIs l k) (hk : k ≠ 0) : Conn l ∧ ∃ s t, Bal l s t := by
  rcases h with ⟨_, c, hd⟩ | ⟨_, c, s, t, _, hb⟩ | ⟨rfl, _⟩
  · exact ⟨c, 0, 0, bal_same hd 0⟩
  · exact ⟨c, s, t, hb⟩
  · exact absurd rfl hk

theorem CanIs.range {l : List Arc3} {k : Int} (h : CanIs l k) : 0 ≤ k ∧ k ≤ 2 := by
  rcases h with ⟨rfl, _⟩ | ⟨rfl, _⟩ | ⟨rfl, _⟩ <;> omega

theorem CanIs.mk {l : List Arc3} (hc : Conn l) {s t : Int} (hb : Bal l s t) {k : Int} (h : CanIs l k) : (k = 2 ∧ s = t) ∨ (k = 1 ∧ s ≠ t) := by
  by_cases e : s = t
  · subst e; exact Or.inl ⟨h.unique (Or.inl ⟨rfl, hc, same_bal hb⟩), rfl⟩
  · exact Or.inr ⟨h.unique (Or.inr (Or.inl ⟨rfl, hc, s, t, e, hb⟩)), e⟩

/-- how many arcs begin within a set of nodes -/
theorem count_from (N : Nat) (χ : Int → Bool) (l : List Arc3) (h : ∀ a ∈ l, 0 ≤ a.1 ∧ a.1 < (N : Int)) :
    ((l.countP (fun a => χ a.1) : Nat) : Int) = sumN (fun v => if χ v then od l v else 0) N := by
  induction l with
  | nil => rw [sumN_zero]; · rfl
           intro v _; split <;> rfl
  | cons a r ih =>
    have ha := h a (List.mem_cons_self ..)
    obtain ⟨k, hk⟩ := Int.eq_ofNat_of_zero_le ha.1
    have e : sumN (fun v => if χ v then od (a :: r) v else 0) N = sumN (fun v => (if χ v then od r v else 0) + (if χ v then one ((v : Int) = a.1) else 0)) N := sumN_congr fun v _ => by rw [od_cons]; split <;> omega
    have e2 : sumN (fun v => if χ v then one ((v : Int) = a.1) else 0) N = if χ a.1 then 1 else 0 := by
      rw [sumN_single (k := k) (by omega) (fun v _ hne => by rw [one_no (by omega)]; split <;> rfl), hk, one_yes rfl]
    rw [e, sumN_add, e2, ← ih fun x hx => h x (List.mem_cons_of_mem _ hx), List.countP_cons]
    by_cases c : χ a.1 = true <;> simp [c]

theorem count_to (N : Nat) (χ : Int → Bool) (l : List Arc3) (h : ∀ a ∈ l, 0 ≤ a.2.1 ∧ a.2.1 < (N : Int)) :
    ((l.countP (fun a => χ a.2.1) : Nat) : Int) = sumN (fun v => if χ v then idg l v else 0) N := by
  have := count_from N χ (l.map turnA) (fun a ha => by obtain ⟨x, hx, rfl⟩ := List.mem_map.1 ha; exact h x hx)
  rw [List.countP_map] at this
  simp only [od_turn] at this
  exact this

/-- of a set of nodes: more arcs begin there than end there by as much as of s and t lies in it -/
theorem bal_set (N : Nat) (χ : Int → Bool) {l : List Arc3} (h : ∀ a ∈ l, (0 ≤ a.1 ∧ a.1 < (N : Int)) ∧ (0 ≤ a.2.1 ∧ a.2.1 < (N : Int))) {s t : Int} (hb : Bal l s t) (hs : 0 ≤ s ∧ s < (N : Int)) (ht : 0 ≤ t ∧ t < (N : Int)) :
    ((l.countP (fun a => χ a.1) : Nat) : Int) - ((l.countP (fun a => χ a.2.1) : Nat) : Int) = one (χ s = true) - one (χ t = true) := by
  rw [count_from N χ l fun a ha => (h a ha).1, count_to N χ l fun a ha => (h a ha).2, ← sumN_sub]
  obtain ⟨i, rfl⟩ := Int.eq_ofNat_of_zero_le hs.1
  obtain ⟨j, rfl⟩ := Int.eq_ofNat_of_zero_le ht.1
  have e : sumN (fun v => (if χ v then od l v else 0) - (if χ v then idg l v else 0)) N = sumN (fun v => (if χ v then one ((v : Int) = i) else 0) - (if χ v then one ((v : Int) = j) else 0)) N := sumN_congr fun v _ => by
    have := hb v
    split <;> omega
  rw [e, sumN_sub, sumN_single (k := i) (by omega) (fun v _ hne => by rw [one_no (by omega)]; split <;> rfl), sumN_single (k := j) (by omega) (fun v _ hne => by rw [one_no (by omega)]; split <;> rfl), one_yes rfl, one_yes rfl]
  rfl

theorem count_back {l : List Arc3} {p q : Arc3 → Bool} (h : ∀ a ∈ l, p a = true → q a = true) (hc : l.countP q ≤ l.countP p) : ∀ a ∈ l, q a = true → p a = true := by
  induction l with
  | nil => intro a ha; cases ha
  | cons x r ih =>
    have hr : r.countP p ≤ r.countP q := List.countP_mono_left fun a ha => h a (List.mem_cons_of_mem _ ha)
    rw [List.countP_cons, List.countP_cons] at hc
    have hx := h x (List.mem_cons_self ..)
    intro a ha hq
    have key : r.countP q ≤ r.countP p ∧ (q x = true → p x = true) := by
      by_cases c1 : p x = true
      · have c2 := hx c1
        simp only [c1, c2, if_true] at hc
        exact ⟨by omega, fun _ => c1⟩
      · by_cases c2 : q x = true
        · simp [c1, c2] at hc; omega
        · simp [c1, c2] at hc; exact ⟨hc, fun e => absurd e c2⟩
    rcases List.mem_cons.1 ha with rfl | ha
    · exact key.2 hq
    · exact ih (fun a ha => h a (List.mem_cons_of_mem _ ha)) key.1 a ha hq

/-! ### Chains of arcs by their numbers -/

def ChN (l : List Arc3) : Int → List Nat → Int → Prop
  | s, [], t => s = t
  | s, k :: r, t => k < l.length ∧ (at3 l k).1 = s ∧ ChN l (at3 l k).2.1 r t

theorem ChN.deg {l : List Arc3} : ∀ {K : List Nat} {s t : Int}, ChN l s K t → ∀ v, od (K.map (at3 l)) v - idg (K.map (at3 l)) v = one (v = s) - one (v = t)
  | [], s, t, h, v => by have : s = t := h; subst this; simp [od, idg]
  | k :: r, s, t, ⟨_, e, h⟩, v => by
    have := h.deg v
    rw [List.map_cons, od_cons, idg_cons]
    subst e
    omega

theorem ChN.append {l : List Arc3} : ∀ {K : List Nat} {s x : Int}, ChN l s K x → ∀ {M : List Nat} {t : Int}, ChN l x M t → ChN l s (K ++ M) t
  | [], s, x, h, M, t, g => by have : s = x := h; subst this; exact g
  | k :: r, s, x, ⟨h1, h2, h3⟩, M, t, g => ⟨h1, h2, h3.append g⟩

theorem ChN.snoc {l : List Arc3} : ∀ {K : List Nat} {k : Nat} {s x : Int}, ChN l s (K ++ [k]) x → k < l.length ∧ ChN l s K (at3 l k).1 ∧ (at3 l k).2.1 = x
  | [], k, s, x, ⟨h1, h2, h3⟩ => ⟨h1, h2.symm, h3⟩
  | j :: r, k, s, x, ⟨h1, h2, h3⟩ => by
    have := ChN.snoc (K := r) h3
    exact ⟨this.1, ⟨h1, h2, this.2.1⟩, this.2.2⟩

theorem nodup_sub_len : ∀ (A B : List Nat), A.Nodup → (∀ x ∈ A, x ∈ B) → A.length ≤ B.length
  | [], B, _, _ => by simp
  | a :: r, B, hn, h => by
    rw [List.nodup_cons] at hn
    have ha := h a (List.mem_cons_self ..)
    have h1 := nodup_sub_len r (B.erase a) hn.2 fun x hx => (List.mem_erase_of_ne (fun (e : x = a) => hn.1 (e ▸ hx))).2 (h x (List.mem_cons_of_mem _ hx))
    rw [List.length_erase_of_mem ha] at h1
    have := List.length_pos_of_mem ha
    simp only [List.length_cons]; omega

theorem list_range (l : List Arc3) : l = (List.range l.length).map (at3 l) := by
  apply List.ext_getElem (by simp)
  intro i h1 h2
  simp [at3_lt l i h1]

theorem count_sub {l : List Arc3} {K : List Nat} (p : Arc3 → Bool) (hn : K.Nodup) (hm : ∀ j ∈ K, j < l.length) : (K.map (at3 l)).countP p ≤ l.countP p := by
  conv => rhs; rw [list_range l]
  rw [List.countP_map, List.countP_map, List.countP_eq_length_filter, List.countP_eq_length_filter]
  refine nodup_sub_len _ _ (hn.filter _) fun x hx => ?_
  rw [List.mem_filter] at hx ⊢
  exact ⟨List.mem_range.2 (hm x hx.1), hx.2⟩

theorem count_all {l : List Arc3} {K : List Nat} (p : Arc3 → Bool) (hn : K.Nodup) (hm : ∀ j ∈ K, j < l.length) (h : ∀ j, j < l.length → p (at3 l j) = true → j ∈ K) : (K.map (at3 l)).countP p = l.countP p := by
  refine Nat.le_antisymm (count_sub p hn hm) ?_
  conv => lhs; rw [list_range l]
  rw [List.countP_map, List.countP_map, List.countP_eq_length_filter, List.countP_eq_length_filter]
  refine nodup_sub_len _ _ (List.nodup_range.filter _) fun x hx => ?_
  rw [List.mem_filter] at hx ⊢
  exact ⟨h x (List.mem_range.1 hx.1) hx.2, hx.2⟩

/-- where nothing leads on, one stands where what has its place begins -/
theorem stuck {l : List Arc3} {B P : List Nat} {s t c x : Int} (hB : ChN l s B x) (hP : ChN l c P t) (hn : (B ++ P).Nodup) (hm : ∀ j ∈ B ++ P, j < l.length)
    (hst : ∀ j, j < l.length → (at3 l j).1 = x → j ∈ B ++ P) (hbal : Bal l s t) : x = c := by
  have h1 := hB.deg x
  have h2 := hP.deg x
  have h3 : od ((B ++ P).map (at3 l)) x = od l x := by
    unfold od
    rw [count_all (l := l) _ hn hm fun j hj e => hst j hj (by simpa using e)]
  have h4 : idg ((B ++ P).map (at3 l)) x ≤ idg l x := by
    unfold idg
    have := count_sub (l := l) (fun a => decide (a.2.1 = x)) hn hm
    omega
  have h5 := hbal x
  rw [List.map_append, od_append] at h3
  rw [List.map_append, idg_append] at h4
  rw [one_yes (p := x = x) rfl] at h1
  by_cases e : x = c
  · exact e
  · rw [one_no e] at h2; omega

/-- where one has come back to the first node, and nothing leads on, all is gone -/
theorem all_gone {N : Nat} {l : List Arc3} {P : List Nat} {s t : Int} (hl : ∀ a ∈ l, (0 ≤ a.1 ∧ a.1 < (N : Int)) ∧ (0 ≤ a.2.1 ∧ a.2.1 < (N : Int)))
    (hst : ∀ j, j < l.length → (at3 l j).1 = s → j ∈ P) (hm : ∀ j ∈ P, j < l.length) (hex : ∀ k ∈ P, ∀ j, j < l.length → (at3 l j).1 = (at3 l k).2.1 → j ∈ P)
    (hbal : Bal l s t) (hc : Conn l) (hs : ∃ a ∈ l, a.1 = s) : ∀ j, j < l.length → j ∈ P := by
  obtain ⟨a0, ha0, es⟩ := hs
  have hsN : 0 ≤ s ∧ s < (N : Int) := by rw [← es]; exact (hl a0 ha0).1
  have htN : 0 ≤ t ∧ t < (N : Int) := by
    by_cases e : s = t
    · rw [← e]; exact hsN
    · have := hbal t
      rw [one_no (fun h => e h.symm), one_yes rfl] at this
      have h0 := od_nonneg l t
      obtain ⟨a, ha, ea⟩ := idg_pos (l := l) (v := t) (by omega)
      rw [← ea]; exact (hl a ha).2
  let χ : Int → Bool := fun v => decide (v = s) || P.any fun k => decide ((at3 l k).2.1 = v)
  have hχ : ∀ v, χ v = true ↔ v = s ∨ ∃ k ∈ P, (at3 l k).2.1 = v := by
    intro v; simp [χ]
  have out : ∀ j, j < l.length → χ (at3 l j).1 = true → j ∈ P := by
    intro j hj e
    rcases (hχ _).1 e with e | ⟨k, hk, e⟩
    · exact hst j hj e
    · exact hex k hk j hj e.symm
  have step : ∀ a ∈ l, χ a.1 = true → χ a.2.1 = true := by
    intro a ha e
    obtain ⟨j, hj, rfl⟩ := List.getElem_of_mem ha
    rw [← at3_lt l j hj] at e ⊢
    exact (hχ _).2 (Or.inr ⟨j, out j hj e, rfl⟩)
  have hcount := bal_set N χ hl hbal hsN htN
  rw [one_yes ((hχ s).2 (Or.inl rfl))] at hcount
  have h1 := one_bounds (χ t = true)
  have back := count_back (l := l) (p := fun a => χ a.1) (q := fun a => χ a.2.1) step (by omega)
  have joined : ∀ {u v : Int}, Jn l u v → (χ u = true ↔ χ v = true) := fun h =>
    Jn.keeps (fun u v => χ u = true ↔ χ v = true) (fun _ => Iff.rfl) (fun _ _ h => h.symm) (fun _ _ _ h g => h.trans g) (fun a ha => ⟨step a ha, back a ha⟩) h
  intro j hj
  refine out j hj ((joined (hc a0 ha0 (at3 l j) (at3_mem l j hj))).1 ?_)
  rw [es]; exact (hχ s).2 (Or.inl rfl)

/-! ### What order keeps -/

structure OI (l : List Arc3) (s t : Int) (B P : List Nat) (x : Int) : Prop where
  nd : (B ++ P).Nodup
  lt : ∀ j ∈ B ++ P, j < l.length
  ex : ∀ k ∈ P, ∀ j, j < l.length → (at3 l j).1 = (at3 l k).2.1 → j ∈ B ++ P
  back : ChN l s B x
  ch : ∃ c, ChN l c P t

theorem OI.start (l : List Arc3) (s t : Int) : OI l s t [] [] s := ⟨by simp, by simp, by simp, rfl, t, rfl⟩

theorem OI.push {l : List Arc3} {s t x : Int} {B P : List Nat} (h : OI l s t B P x) {k : Nat} (hk : k < l.length) (hf : (at3 l k).1 = x) (hg : k ∉ B ++ P) : OI l s t (B ++ [k]) P (at3 l k).2.1 := by
  have hmem : ∀ j, j ∈ (B ++ [k]) ++ P ↔ j = k ∨ j ∈ B ++ P := fun j => by simp; constructor <;> rintro (h | h | h) <;> simp [h]
  refine ⟨?_, fun j hj => ?_, fun i hi j hj e => (hmem j).2 (Or.inr (h.ex i hi j hj e)), h.back.append ⟨hk, hf, rfl⟩, h.ch⟩
  · have hp : ((B ++ [k]) ++ P).Perm (k :: (B ++ P)) := by
      rw [List.append_assoc]
      exact List.perm_middle
    rw [hp.nodup_iff]
    exact List.nodup_cons.2 ⟨hg, h.nd⟩
  · rcases (hmem j).1 hj with rfl | hj
    · exact hk
    · exact h.lt j hj

theorem OI.len {l : List Arc3} {s t x : Int} {B P : List Nat} (h : OI l s t B P x) : B.length + P.length ≤ l.length := by
  have := nodup_bound l.length (B ++ P) h.nd h.lt
  simpa using this

theorem OI.pop {N : Nat} {l : List Arc3} {s t x : Int} {B P : List Nat} (h : OI l s t B P x) (hl : ∀ a ∈ l, (0 ≤ a.1 ∧ a.1 < (N : Int)) ∧ (0 ≤ a.2.1 ∧ a.2.1 < (N : Int)))
    (hst : ∀ j, j < l.length → (at3 l j).1 = x → j ∈ B ++ P) (hbal : Bal l s t) (hc : Conn l) (hs : ∃ a ∈ l, a.1 = s) (hP : P.length < l.length) :
    ∃ B0 k, B = B0 ++ [k] ∧ k < l.length ∧ OI l s t B0 (k :: P) (at3 l k).1 := by
  obtain ⟨c, hch⟩ := h.ch
  have hxc := stuck h.back hch h.nd h.lt hst hbal
  rcases List.eq_nil_or_concat B with rfl | ⟨B0, k, rfl⟩
  · exfalso
    have hb : s = x := h.back
    subst hb
    have hall := all_gone hl (by simpa using hst) (by simpa using h.lt) (by simpa using h.ex) hbal hc hs
    have := nodup_sub_len (List.range l.length) P List.nodup_range fun j hj => hall j (List.mem_range.1 hj)
    simp at this; omega
  · rw [List.concat_eq_append] at *
    obtain ⟨hk, h1, h2⟩ := h.back.snoc
    have hmem : ∀ j, j ∈ B0 ++ k :: P ↔ j ∈ (B0 ++ [k]) ++ P := fun j => by simp
    refine ⟨B0, k, rfl, hk, ?_, fun j hj => h.lt j ((hmem j).1 hj), fun i hi j hj e => (hmem j).2 ?_, h1, (at3 l k).1, hk, rfl, ?_⟩
    · have := h.nd; rwa [List.append_assoc] at this
    · rcases List.mem_cons.1 hi with rfl | hi
      · exact hst j hj (e.trans h2)
      · exact h.ex i hi j hj e
    · rw [h2, hxc]; exact hch

/-- all arcs, each once, one behind the other -/
structure TrailIs (l : List Arc3) (s t : Int) (K : List Nat) : Prop where
  nd : K.Nodup
  lt : ∀ j ∈ K, j < l.length
  len : K.length = l.length
  ch : ChN l s K t

theorem OI.done {l : List Arc3} {s t x : Int} {B P : List Nat} (h : OI l s t B P x) (hbal : Bal l s t) (hP : P.length = l.length) : TrailIs l s t P := by
  have hlen := h.len
  have hB : B = [] := List.length_eq_zero_iff.1 (by omega)
  subst hB
  have hall : ∀ j, j < l.length → j ∈ P := by
    intro j hj
    refine Decidable.byContradiction fun hn => ?_
    have := nodup_bound l.length (j :: P) (List.nodup_cons.2 ⟨hn, by simpa using h.nd⟩) (fun i hi => by
      rcases List.mem_cons.1 hi with rfl | hi
      · exact hj
      · exact h.lt i (by simpa using hi))
    simp at this; omega
  obtain ⟨c, hch⟩ := h.ch
  have hb : s = x := h.back
  have hxc := stuck h.back hch h.nd h.lt (fun j hj _ => by simpa using hall j hj) hbal
  refine ⟨by simpa using h.nd, fun j hj => h.lt j (by simpa using hj), hP, ?_⟩
  rw [hb, hxc]; exact hch

end Go.Proofs.Ytamckjbddnocpaa
