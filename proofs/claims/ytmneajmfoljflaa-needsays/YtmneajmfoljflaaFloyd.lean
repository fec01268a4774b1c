/- Plain: going round three nodes finds the least number of arcs of a walk. -/
import Derived.Test.YtmneajmfoljflaaWMath
namespace Go.Proofs.Ytmneajmfoljflaa
set_option linter.unusedVariables false

/-- without an end -/
def noEnd : Int := 1099511627776

/-- a walk all of whose inner nodes are below m -/
def WI (l : List Arc3) (m : Int) (i : Int) : Nat → Int → Prop
  | 0, k => k = i
  | 1, k => ∃ a ∈ l, a.1 = i ∧ a.2.1 = k
  | d + 2, k => ∃ a ∈ l, WI l m i (d + 1) a.1 ∧ a.1 < m ∧ a.2.1 = k

theorem WI.ext {l : List Arc3} {m i : Int} {d : Nat} {a : Arc3} (h : WI l m i d a.1) (ha : a ∈ l) (hu : d = 0 ∨ a.1 < m) : WI l m i (d + 1) a.2.1 := by
  cases d with
  | zero => exact ⟨a, ha, h, rfl⟩
  | succ d => exact ⟨a, ha, h, by rcases hu with h | h <;> omega, rfl⟩

theorem WI.split {l : List Arc3} {m i : Int} : ∀ {d : Nat} {k : Int}, WI l (m + 1) i d k → WI l m i d k ∨ ∃ d1 d2, WI l m i d1 m ∧ WI l m m d2 k ∧ d1 + d2 ≤ d
  | 0, _, h => Or.inl h
  | 1, _, h => Or.inl h
  | d + 2, k, ⟨a, ha, hw, hlt, hk⟩ => by
    subst hk
    have ih := WI.split hw
    by_cases e : a.1 < m
    · rcases ih with h | ⟨d1, d2, h1, h2, h3⟩
      · exact Or.inl (h.ext ha (Or.inr e))
      · exact Or.inr ⟨d1, d2 + 1, h1, h2.ext ha (Or.inr e), by omega⟩
    · have e' : a.1 = m := by omega
      have one : WI l m m 1 a.2.1 := ⟨a, ha, e', rfl⟩
      rcases ih with h | ⟨d1, d2, h1, h2, h3⟩
      · rw [e'] at h; exact Or.inr ⟨d + 1, 1, h, one, by omega⟩
      · exact Or.inr ⟨d1, 1, h1, one, by omega⟩

theorem Wk.inner {N : Int} {l : List Arc3} (hl : ∀ a ∈ l, a.1 < N) {i : Int} : ∀ {d : Nat} {k : Int}, Wk l i d k → WI l N i d k
  | 0, _, h => h
  | d + 1, _, ⟨a, ha, hw, hk⟩ => by
    subst hk
    exact (Wk.inner hl hw).ext ha (Or.inr (hl a ha))

/-- a table of numbers at the beginning: no arc, one arc -/
structure IsInit (N : Nat) (l : List Arc3) (M : Nat → Nat → Int) : Prop where
  diag : ∀ i, i < N → M i i = 0
  bnd : ∀ i k, i < N → k < N → 0 ≤ M i k ∧ M i k ≤ noEnd
  one : ∀ i k, i < N → k < N → (∃ c, ((i : Int), (k : Int), c) ∈ l) → M i k ≤ 1
  snd : ∀ i k, i < N → k < N → M i k < noEnd → Wk l i (M i k).toNat k

def M0 : Nat → Nat → Int := fun i j => if i = j then 0 else noEnd

theorem init_nil (N : Nat) : IsInit N [] M0 := by
  refine ⟨fun i _ => by simp [M0], fun i k _ _ => ?_, fun i k _ _ ⟨c, h⟩ => (by cases h), fun i k _ _ h => ?_⟩
  · unfold M0 noEnd; split <;> omega
  · unfold M0 at h ⊢
    by_cases e : i = k
    · subst e; simp; rfl
    · rw [if_neg e] at h; omega

theorem init_step {N : Nat} {l : List Arc3} {M : Nat → Nat → Int} (h : IsInit N l M) (f t : Nat) (c : Int) (hf : f < N) (ht : t < N) :
    IsInit N (l ++ [((f : Int), (t : Int), c)]) (fun a b => if a = f ∧ b = t then min (M f t) 1 else M a b) := by
  have sub : ∀ a ∈ l, a ∈ l ++ [((f : Int), (t : Int), c)] := fun a ha => List.mem_append.2 (Or.inl ha)
  have new : ((f : Int), (t : Int), c) ∈ l ++ [((f : Int), (t : Int), c)] := List.mem_append.2 (Or.inr (List.mem_singleton.2 rfl))
  have b0 := h.bnd f t hf ht
  refine ⟨fun i hi => ?_, fun i k hi hk => ?_, fun i k hi hk ⟨c', hc⟩ => ?_, fun i k hi hk hlt => ?_⟩
  · by_cases e : i = f ∧ i = t
    · obtain ⟨e1, e2⟩ := e
      subst e1; subst e2
      simp only [and_self, if_true]
      have := h.diag i hi
      omega
    · rw [if_neg e]; exact h.diag i hi
  · by_cases e : i = f ∧ k = t
    · rw [if_pos e]; have : noEnd = 1099511627776 := rfl; omega
    · rw [if_neg e]; exact h.bnd i k hi hk
  · by_cases e : i = f ∧ k = t
    · rw [if_pos e]; omega
    · rw [if_neg e]
      rcases List.mem_append.1 hc with hc | hc
      · exact h.one i k hi hk ⟨c', hc⟩
      · have := List.mem_singleton.1 hc
        simp only [Prod.mk.injEq] at this
        exact absurd ⟨by omega, by omega⟩ e
  · by_cases e : i = f ∧ k = t
    · rw [if_pos e] at hlt ⊢
      obtain ⟨rfl, rfl⟩ := e
      by_cases c2 : M i k ≤ 1
      · rw [show min (M i k) 1 = M i k by omega] at hlt ⊢
        exact (h.snd i k hi hk hlt).mono sub
      · rw [show min (M i k) 1 = 1 by omega]
        exact ⟨_, new, rfl, rfl⟩
    · rw [if_neg e] at hlt ⊢
      exact (h.snd i k hi hk hlt).mono sub

def fl (M : Nat → Nat → Int) (m : Nat) : Nat → Nat → Int := fun i k => min (M i k) (M i m + M m k)

def flo (M : Nat → Nat → Int) : Nat → Nat → Nat → Int
  | 0 => M
  | m + 1 => fl (flo M m) m

theorem flo_ok {N : Nat} {l : List Arc3} {M : Nat → Nat → Int} (h : IsInit N l M) : ∀ m, m ≤ N →
    (∀ i, i < N → flo M m i i = 0) ∧ (∀ i k, i < N → k < N → 0 ≤ flo M m i k ∧ flo M m i k ≤ noEnd) ∧ (∀ i k, i < N → k < N → flo M m i k < noEnd → Wk l i (flo M m i k).toNat k)
  | 0, _ => ⟨h.diag, h.bnd, h.snd⟩
  | m + 1, hm => by
    obtain ⟨h1, h2, h3⟩ := flo_ok h m (by omega)
    refine ⟨fun i hi => ?_, fun i k hi hk => ?_, fun i k hi hk hlt => ?_⟩
    · show min _ _ = _
      have := h1 i hi
      have := h2 i m hi (by omega)
      have := h2 m i (by omega) hi
      omega
    · show 0 ≤ min _ _ ∧ min _ _ ≤ _
      have := h2 i k hi hk
      have := h2 i m hi (by omega)
      have := h2 m k (by omega) hk
      omega
    · have e : flo M (m + 1) i k = min (flo M m i k) (flo M m i m + flo M m m k) := rfl
      have b1 := h2 i m hi (by omega)
      have b2 := h2 m k (by omega) hk
      have b3 := h2 i k hi hk
      by_cases c : flo M m i k ≤ flo M m i m + flo M m m k
      · rw [e, show min (flo M m i k) (flo M m i m + flo M m m k) = flo M m i k by omega] at hlt ⊢
        exact h3 i k hi hk hlt
      · rw [e, show min (flo M m i k) (flo M m i m + flo M m m k) = flo M m i m + flo M m m k by omega] at hlt ⊢
        have w1 := h3 i m hi (by omega) (by omega)
        have w2 := h3 m k (by omega) hk (by omega)
        have := w1.trans w2
        rwa [show (flo M m i m).toNat + (flo M m m k).toNat = (flo M m i m + flo M m m k).toNat by omega] at this

theorem flo_col {N : Nat} {l : List Arc3} {M : Nat → Nat → Int} (h : IsInit N l M) {m : Nat} (hm : m < N) : (∀ i, i < N → flo M (m + 1) i m = flo M m i m) ∧ (∀ k, k < N → flo M (m + 1) m k = flo M m m k) := by
  obtain ⟨h1, h2, _⟩ := flo_ok h m (by omega)
  have d := h1 m hm
  constructor
  · intro i hi
    show min _ (_ + _) = _
    rw [d]; omega
  · intro k hk
    show min _ (_ + _) = _
    rw [d]; omega

/-- on the way: what is reckoned already, and what isn't -/
def mixM (M : Nat → Nat → Int) (m i k a b : Nat) : Int := if a < i ∨ (a = i ∧ b < k) then flo M (m + 1) a b else flo M m a b

theorem mix_here (M : Nat → Nat → Int) (m i k : Nat) : mixM M m i k i k = flo M m i k := by unfold mixM; rw [if_neg (by omega)]
theorem mix_col {N : Nat} {l : List Arc3} {M : Nat → Nat → Int} (h : IsInit N l M) {m i k : Nat} (hm : m < N) (hi : i < N) (hk : k < N) : mixM M m i k i m = flo M m i m ∧ mixM M m i k m k = flo M m m k := by
  obtain ⟨h1, h2⟩ := flo_col h hm
  unfold mixM
  constructor
  · split
    · exact h1 i hi
    · rfl
  · split
    · exact h2 k hk
    · rfl
theorem mix_next (M : Nat → Nat → Int) (m i k a b : Nat) : (if a = i ∧ b = k then min (flo M m i k) (flo M m i m + flo M m m k) else mixM M m i k a b) = mixM M m i (k + 1) a b := by
  by_cases e : a = i ∧ b = k
  · obtain ⟨rfl, rfl⟩ := e
    unfold mixM
    rw [if_pos ⟨rfl, rfl⟩, if_pos (by omega)]; rfl
  · rw [if_neg e]
    unfold mixM
    by_cases c : a < i ∨ (a = i ∧ b < k)
    · rw [if_pos c, if_pos (by omega)]
    · rw [if_neg c, if_neg (by omega)]
theorem mix_row (M : Nat → Nat → Int) (m i N a b : Nat) (hb : b < N) : mixM M m i N a b = mixM M m (i + 1) 0 a b := by
  unfold mixM
  by_cases c : a < i ∨ (a = i ∧ b < N)
  · rw [if_pos c, if_pos (by omega)]
  · rw [if_neg c, if_neg (by omega)]
theorem mix_start (M : Nat → Nat → Int) (m a b : Nat) : mixM M m 0 0 a b = flo M m a b := by unfold mixM; rw [if_neg (by omega)]
theorem mix_end (M : Nat → Nat → Int) (m N a b : Nat) (ha : a < N) : mixM M m N 0 a b = flo M (m + 1) a b := by unfold mixM; rw [if_pos (by omega)]

theorem flo_le {N : Nat} {l : List Arc3} {M : Nat → Nat → Int} (h : IsInit N l M) (hl : ∀ a ∈ l, (0 ≤ a.1 ∧ a.1 < (N : Int)) ∧ (0 ≤ a.2.1 ∧ a.2.1 < (N : Int))) : ∀ m, m ≤ N → ∀ (i k d : Nat), i < N → k < N → WI l m i d k → flo M m i k ≤ d
  | 0, _, i, k, d, hi, hk, hw => by
    match d, hw with
    | 0, hw =>
      have : (k : Int) = i := hw
      have : k = i := by omega
      subst this
      have := h.diag k hk
      show M k k ≤ _
      omega
    | 1, ⟨a, ha, e1, e2⟩ =>
      obtain ⟨f, t, c⟩ := a
      simp only at e1 e2
      subst e1; subst e2
      exact h.one i k hi hk ⟨c, ha⟩
    | d + 2, ⟨a, ha, _, hlt, _⟩ =>
      have := (hl a ha).1.1
      exact absurd hlt (by simp; omega)
  | m + 1, hm, i, k, d, hi, hk, hw => by
    have ih := flo_le h hl m (by omega)
    have e : flo M (m + 1) i k = min (flo M m i k) (flo M m i m + flo M m m k) := rfl
    rw [e]
    rw [show (((m + 1 : Nat)) : Int) = (m : Int) + 1 by omega] at hw
    rcases hw.split with hw | ⟨d1, d2, w1, w2, hd⟩
    · have := ih i k d hi hk hw; omega
    · have := ih i m d1 hi (by omega) w1
      have := ih m k d2 (by omega) hk w2
      omega

theorem least_walk {l : List Arc3} {s v : Int} {k : Nat} (h : Wk l s k v) : ∃ d, Wk l s d v ∧ ∀ j, Wk l s j v → d ≤ j := by
  induction k using Nat.strongRecOn with
  | _ k ih =>
    by_cases c : ∃ j, j < k ∧ Wk l s j v
    · obtain ⟨j, hj, hw⟩ := c; exact ih j hj hw
    · exact ⟨k, h, fun j hj => Nat.le_of_not_lt fun hlt => c ⟨j, hlt, hj⟩⟩

theorem far_there (N : Nat) (l : List Arc3) (s : Int) : ∃ F, FarIs N l s F := by
  have each : ∀ v : Nat, ∃ x : Int, (x = -1 ∧ ∀ k, ¬ Wk l s k v) ∨ (∃ d : Nat, x = d ∧ Wk l s d v ∧ ∀ k, Wk l s k v → d ≤ k) := by
    intro v
    by_cases c : ∃ k, Wk l s k v
    · obtain ⟨k, hk⟩ := c
      obtain ⟨d, hd, hm⟩ := least_walk hk
      exact ⟨d, Or.inr ⟨d, rfl, hd, hm⟩⟩
    · exact ⟨-1, Or.inl ⟨rfl, fun k hk => c ⟨k, hk⟩⟩⟩
  refine ⟨(List.range N).map fun v => Classical.choose (each v), by simp, fun v hv => ?_⟩
  have e : ati ((List.range N).map fun v => Classical.choose (each v)) v = Classical.choose (each v) := by rw [ati_lt _ _ (by simpa using hv)]; simp
  rw [e]
  exact Classical.choose_spec (each v)

/-- what the table holds in the end -/
theorem flo_far {N : Nat} {l : List Arc3} {M : Nat → Nat → Int} (h : IsInit N l M) (hN : N ≤ 12) (hl : ∀ a ∈ l, (0 ≤ a.1 ∧ a.1 < (N : Int)) ∧ (0 ≤ a.2.1 ∧ a.2.1 < (N : Int))) {i : Nat} (hi : i < N) {F : List Int} (hF : FarIs N l i F) {k : Nat} (hk : k < N) :
    flo M N i k = if ati F k < 0 then noEnd else ati F k := by
  obtain ⟨_, h2, h3⟩ := flo_ok h N (Nat.le_refl _)
  have b := h2 i k hi hk
  rcases hF.all k hk with ⟨e, n⟩ | ⟨d, e, w, m⟩
  · rw [if_pos (by omega)]
    by_cases c : flo M N i k < noEnd
    · exact absurd (h3 i k hi hk c) (n _)
    · omega
  · have hlt := hF.lt hl hk
    have le := flo_le h hl N (Nat.le_refl _) i k d hi hk (w.inner fun a ha => (hl a ha).1.2)
    have := m _ (h3 i k hi hk (by unfold noEnd; omega))
    rw [if_neg (by omega)]
    omega

end Go.Proofs.Ytmneajmfoljflaa
