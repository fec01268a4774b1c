/- Plain facts on the code of a tree, arc by arc: which arcs are left, and whose turn it is. -/
import Derived.Test.YtamckjbddnocpaaDecM
namespace Go.Proofs.Ytamckjbddnocpaa
set_option linter.unusedVariables false

theorem CodeIs.perm : ∀ {l : List Nat} {E F : List Arc3}, E.Perm F → CodeIs E l → CodeIs F l
  | [], E, F, hp, h => by
    have h : E.length = 1 := h
    show F.length = 1
    rw [← hp.length_eq]; exact h
  | x :: r, E, F, hp, ⟨v, E1, a, E2, hE, ha, hd, hmin, hC⟩ => by
    have hm : a ∈ F := hp.mem_iff.1 (by rw [hE]; simp)
    obtain ⟨F1, F2, hF⟩ := List.append_of_mem hm
    have hq : (E1 ++ E2).Perm (F1 ++ F2) := by
      have p0 : (E1 ++ a :: E2).Perm (F1 ++ a :: F2) := by rw [← hE, ← hF]; exact hp
      have p1 : (a :: (E1 ++ E2)).Perm (a :: (F1 ++ F2)) := (List.perm_middle.symm.trans p0).trans List.perm_middle
      exact p1.cons_inv
    exact ⟨v, F1, a, F2, hF, ha, by rw [← degN_perm hp v]; exact hd, fun u hu => by rw [← degN_perm hp u]; exact hmin u hu, CodeIs.perm hq hC⟩

/-- the arcs that are not gone -/
def restG : List Arc3 → (Nat → Bool) → List Arc3
  | [], _ => []
  | a :: E, g => (if g 0 then [] else [a]) ++ restG E (fun i => g (i + 1))

def setG (g : Nat → Bool) (k : Nat) : Nat → Bool := fun i => if i = k then true else g i
theorem setG_succ (g : Nat → Bool) (k : Nat) : (fun i => setG g (k + 1) (i + 1)) = setG (fun i => g (i + 1)) k := by
  funext i; unfold setG; simp

theorem restG_all : ∀ (E : List Arc3), restG E (fun _ => false) = E
  | [] => rfl
  | a :: E => by unfold restG; rw [restG_all E]; rfl

theorem at3_zero (a : Arc3) (E : List Arc3) : at3 (a :: E) 0 = a := rfl
theorem at3_succ (a : Arc3) (E : List Arc3) (k : Nat) : at3 (a :: E) (k + 1) = at3 E k := rfl

theorem restG_set : ∀ {E : List Arc3} {g : Nat → Bool} {k : Nat}, k < E.length → g k = false → ∃ R1 R2, restG E g = R1 ++ at3 E k :: R2 ∧ restG E (setG g k) = R1 ++ R2
  | [], _, _, h, _ => absurd h (Nat.not_lt_zero _)
  | a :: E, g, 0, _, h => by
    refine ⟨[], restG E (fun i => g (i + 1)), ?_, ?_⟩
    · rw [restG, h]; rfl
    · rw [restG]
      have : (fun i => setG g 0 (i + 1)) = fun i => g (i + 1) := by funext i; unfold setG; simp
      rw [this, show setG g 0 0 = true from rfl]; rfl
  | a :: E, g, k + 1, hk, h => by
    obtain ⟨R1, R2, h1, h2⟩ := restG_set (E := E) (g := fun i => g (i + 1)) (k := k) (by simpa using hk) h
    refine ⟨(if g 0 then [] else [a]) ++ R1, R2, ?_, ?_⟩
    · rw [restG, h1, at3_succ, List.append_assoc]
    · rw [restG, setG_succ, h2, List.append_assoc]
      have : setG g (k + 1) 0 = g 0 := by unfold setG; simp
      rw [this]

theorem restG_mem : ∀ {E : List Arc3} {g : Nat → Bool} {a : Arc3}, a ∈ restG E g → ∃ k, k < E.length ∧ g k = false ∧ at3 E k = a
  | [], _, _, h => by cases h
  | b :: E, g, a, h => by
    unfold restG at h
    rcases List.mem_append.1 h with h | h
    · cases hg : g 0
      · rw [hg] at h
        simp at h
        exact ⟨0, by simp, hg, by rw [at3_zero]; exact h.symm⟩
      · rw [hg] at h; simp at h
    · obtain ⟨k, h1, h2, h3⟩ := restG_mem h
      exact ⟨k + 1, by simpa using h1, h2, by rw [at3_succ]; exact h3⟩

/-- an arc stands at a node -/
def atN (a : Arc3) (v : Nat) : Bool := decide (a.1 = (v : Int)) || decide (a.2.1 = (v : Int))
theorem atN_joins {a : Arc3} {v : Nat} (h : atN a v = true) (hn : ∃ f t : Nat, a.1 = (f : Int) ∧ a.2.1 = (t : Int)) : ∃ y, Joins a v y := by
  obtain ⟨f, t, h1, h2⟩ := hn
  unfold atN at h
  rw [Bool.or_eq_true, decide_eq_true_iff, decide_eq_true_iff] at h
  rcases h with h | h
  · exact ⟨t, Or.inl ⟨h, h2⟩⟩
  · exact ⟨f, Or.inr ⟨h1, h⟩⟩
theorem Joins.atN {a : Arc3} {v x : Nat} (h : Joins a v x) : atN a v = true := by
  unfold Go.Proofs.Ytamckjbddnocpaa.atN
  rw [Bool.or_eq_true, decide_eq_true_iff, decide_eq_true_iff]
  rcases h with h | h
  · exact Or.inl h.1
  · exact Or.inr h.2

theorem first_of {p : Nat → Prop} [DecidablePred p] : ∀ {n : Nat}, p n → ∃ k, k ≤ n ∧ p k ∧ ∀ j, j < k → ¬ p j
  | 0, h => ⟨0, Nat.le_refl _, h, fun j hj => absurd hj (Nat.not_lt_zero _)⟩
  | n + 1, h => by
    by_cases hex : ∃ m, m ≤ n ∧ p m
    · obtain ⟨m, hm, hp⟩ := hex
      have key : ∀ d, ∀ m, m ≤ d → p m → ∃ k, k ≤ m ∧ p k ∧ ∀ j, j < k → ¬ p j := by
        intro d
        induction d with
        | zero => intro m hm hp; exact ⟨m, Nat.le_refl _, hp, fun j hj => absurd hj (by omega)⟩
        | succ d ih =>
          intro m hm hp
          by_cases hs : ∃ j, j < m ∧ p j
          · obtain ⟨j, hj, hpj⟩ := hs
            obtain ⟨k, h1, h2, h3⟩ := ih j (by omega) hpj
            exact ⟨k, by omega, h2, h3⟩
          · exact ⟨m, Nat.le_refl _, hp, fun j hj hpj => hs ⟨j, hj, hpj⟩⟩
      obtain ⟨k, h1, h2, h3⟩ := key m m (Nat.le_refl _) hp
      exact ⟨k, by omega, h2, h3⟩
    · exact ⟨n + 1, Nat.le_refl _, h, fun j hj hp => hex ⟨j, by omega, hp⟩⟩

/-- one step of the code -/
theorem code_step {E : List Arc3} {g : Nat → Bool} {x : Nat} {r : List Nat} (hC : CodeIs (restG E g) (x :: r)) (hn : ∀ a ∈ E, ∃ f t : Nat, a.1 = (f : Int) ∧ a.2.1 = (t : Int)) :
    ∃ v k, degN (restG E g) v = 1 ∧ (∀ u, u < v → degN (restG E g) u ≠ 1) ∧ k < E.length ∧ g k = false ∧ atN (at3 E k) v = true ∧ (∀ j, j < k → g j = true ∨ atN (at3 E j) v = false) ∧
      Joins (at3 E k) v x ∧ v ≠ x ∧ CodeIs (restG E (setG g k)) r ∧ ∀ u, degN (restG E (setG g k)) u = degN (restG E g) u - one (u = v) - one (u = x) := by
  obtain ⟨v, E1, a, E2, hE, ha, hd, hmin, hR⟩ := hC
  obtain ⟨m, hm1, hm2, hm3⟩ := restG_mem (E := E) (g := g) (a := a) (by rw [hE]; simp)
  have hpm : (g m = false ∧ atN (at3 E m) v = true) := ⟨hm2, by rw [hm3]; exact ha.atN⟩
  obtain ⟨k, hk, ⟨hk1, hk2⟩, hk3⟩ := first_of (p := fun j => g j = false ∧ atN (at3 E j) v = true) hpm
  have hkl : k < E.length := by omega
  obtain ⟨R1, R2, h1, h2⟩ := restG_set hkl hk1
  obtain ⟨y, hy⟩ := atN_joins hk2 (hn _ (at3_mem E k hkl))
  have hp : (E1 ++ a :: E2).Perm (R1 ++ at3 E k :: R2) := by rw [← hE, ← h1]
  have hab : a = at3 E k := one_arc hp ha hy (by rw [← hE]; exact hd)
  have hJ : Joins (at3 E k) v x := by rw [← hab]; exact ha
  have hq : (E1 ++ E2).Perm (R1 ++ R2) := by
    rw [← hab] at hp
    have p1 : (a :: (E1 ++ E2)).Perm (a :: (R1 ++ R2)) := (List.perm_middle.symm.trans hp).trans List.perm_middle
    exact p1.cons_inv
  have hdeg : ∀ u, degN (restG E (setG g k)) u = degN (restG E g) u - one (u = v) - one (u = x) := fun u => by
    rw [h1, h2, degN_append, degN_append, degN_cons, hJ.ev]; omega
  have hvx : v ≠ x := fun e => by
    have := hdeg v
    rw [hd, one_yes rfl, one_yes e] at this
    have := degN_nonneg (restG E (setG g k)) v
    omega
  refine ⟨v, k, hd, hmin, hkl, hk1, hk2, fun j hj => ?_, hJ, hvx, by rw [h2]; exact hR.perm hq, hdeg⟩
  have := hk3 j hj
  cases hgj : g j
  · right
    cases hat : atN (at3 E j) v
    · rfl
    · exact absurd ⟨hgj, hat⟩ this
  · exact Or.inl rfl

theorem degN_le (E : List Arc3) (v : Nat) : degN E v ≤ 2 * E.length := by
  unfold degN od idg
  have h1 := List.countP_le_length (p := fun a : Arc3 => decide (a.1 = (v : Int))) (l := E)
  have h2 := List.countP_le_length (p := fun a : Arc3 => decide (a.2.1 = (v : Int))) (l := E)
  omega

theorem restG_le : ∀ (E : List Arc3) (g : Nat → Bool), (restG E g).length ≤ E.length
  | [], _ => Nat.le_refl _
  | a :: E, g => by
    have := restG_le E (fun i => g (i + 1))
    unfold restG
    cases g 0 <;> simp <;> omega

theorem codeIs_len : ∀ {l : List Nat} {E : List Arc3}, CodeIs E l → E.length = l.length + 1
  | [], _, h => h
  | x :: r, E, ⟨v, E1, a, E2, hE, _, _, _, hC⟩ => by
    have := codeIs_len hC
    rw [hE]; simp at *; omega

end Go.Proofs.Ytamckjbddnocpaa
