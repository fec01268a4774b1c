/- Plain facts on sides: two sides, each arc from one to the other. -/
import Derived.Test.YtmneajmfoljflaaFloyd
namespace Go.Proofs.Ytmneajmfoljflaa
set_option linter.unusedVariables false

/-- sides, the least node of all that are joined having side 0 -/
structure SidesIs (N : Nat) (l : List Arc3) (S : List Int) : Prop where
  len : S.length = N
  two : ∀ v : Nat, v < N → ati S v = 0 ∨ ati S v = 1
  arc : ∀ (f t : Nat) (c : Int), ((f : Int), (t : Int), c) ∈ l → ati S f ≠ ati S t
  root : ∀ v : Nat, v < N → (∀ u : Nat, Jn l u v → v ≤ u) → ati S v = 0

theorem SidesIs.walk {N : Nat} {l : List Arc3} {S : List Int} (h : SidesIs N l S) (hl : ∀ a ∈ l, (0 ≤ a.1 ∧ a.1 < (N : Int)) ∧ (0 ≤ a.2.1 ∧ a.2.1 < (N : Int))) {u : Nat} (hu : u < N) :
    ∀ {k v : Nat}, Wk (both l) u k v → v < N ∧ ati S v = (ati S u + k) % 2
  | 0, v, hv => by
    have : (v : Int) = u := hv
    have : v = u := by omega
    subst this
    exact ⟨hu, by rcases h.two v hu with e | e <;> rw [e] <;> rfl⟩
  | k + 1, v, ⟨a, ha, hw, e⟩ => by
    obtain ⟨f, t, c⟩ := a
    simp only at hw e
    subst e
    have hn : (0 ≤ f ∧ f < (N : Int)) ∧ v < N ∧ ∀ (x y : Nat), f = x → (v : Int) = y → ati S x ≠ ati S y := by
      rcases List.mem_append.1 ha with ha | ha
      · have q := hl _ ha
        simp only at q
        refine ⟨q.1, by omega, fun x y e1 e2 => ?_⟩
        subst e1
        have : y = v := by omega
        subst this
        exact h.arc x y c ha
      · obtain ⟨b, hb, e⟩ := List.mem_map.1 ha
        obtain ⟨f', t', c'⟩ := b
        simp only [turnA, Prod.mk.injEq] at e
        obtain ⟨e1, e2, e3⟩ := e
        subst e1; subst e2; subst e3
        have q := hl _ hb
        simp only at q
        refine ⟨q.2, by omega, fun x y e1 e2 => ?_⟩
        subst e1
        have : y = v := by omega
        subst this
        exact fun e => h.arc y x c' hb e.symm
    obtain ⟨⟨h0, h1⟩, hv, hne⟩ := hn
    obtain ⟨f, rfl⟩ := Int.eq_ofNat_of_zero_le h0
    have ih := h.walk hl hu hw
    have hd := hne f v rfl rfl
    refine ⟨hv, ?_⟩
    rcases h.two f ih.1 with e1 | e1 <;> rcases h.two v hv with e2 | e2
    · exact absurd (e1.trans e2.symm) hd
    · rw [e2]; have := ih.2; rw [e1] at this; omega
    · rw [e2]; have := ih.2; rw [e1] at this; omega
    · exact absurd (e1.trans e2.symm) hd

/-- by how far it is from the least one that is joined -/
structure ByFar (N : Nat) (l : List Arc3) (S : List Int) : Prop where
  len : S.length = N
  all : ∀ v : Nat, v < N → ∃ p d : Nat, p < N ∧ (∀ u : Nat, Jn l u v → p ≤ u) ∧ Wk (both l) p d v ∧ (∀ j, Wk (both l) p j v → d ≤ j) ∧ ati S v = (d : Int) % 2

theorem SidesIs.eq {N : Nat} {l : List Arc3} {S T : List Int} (h : SidesIs N l S) (hT : ByFar N l T) (hl : ∀ a ∈ l, (0 ≤ a.1 ∧ a.1 < (N : Int)) ∧ (0 ≤ a.2.1 ∧ a.2.1 < (N : Int))) : S = T := by
  refine ext_ati (by rw [h.len, hT.len]) fun v hv => ?_
  rw [h.len] at hv
  obtain ⟨p, d, hp, hm, hw, _, e⟩ := hT.all v hv
  have q := h.walk hl hp hw
  have r := h.root p hp (fun u hu => hm u (hu.trans ⟨d, hw⟩))
  rw [q.2, r, e]
  omega

theorem ByFar.sides {N : Nat} {l : List Arc3} {T : List Int} (hT : ByFar N l T) (ha : ∀ (f t : Nat) (c : Int), ((f : Int), (t : Int), c) ∈ l → ati T f ≠ ati T t) : SidesIs N l T := by
  refine ⟨hT.len, fun v hv => ?_, ha, fun v hv hr => ?_⟩
  · obtain ⟨p, d, _, _, _, _, e⟩ := hT.all v hv
    rw [e]; omega
  · obtain ⟨p, d, hp, hm, hw, hd, e⟩ := hT.all v hv
    have h1 := hm v (Jn.refl _ _)
    have h2 := hr p ⟨d, hw⟩
    have : p = v := by omega
    subst this
    have := hd 0 rfl
    rw [e]; omega

end Go.Proofs.Ytmneajmfoljflaa
