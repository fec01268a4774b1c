/- Plain: a shortest way goes through no node twice. -/
import Derived.Test.YtgmdacobbeoobaaIsWay
import Derived.Test.YtgmdacobbeoobaaFloyd
namespace Go.Proofs.Ytgmdacobbeoobaa
set_option linter.unusedVariables false

theorem Chain.walk {l : List Arc3} : ∀ {s : Int} {P : List Int} {t : Int}, Chain l s P t → Wk l s P.length t
  | s, [], t, h => by have : s = t := h; exact this.symm
  | s, k :: r, t, ⟨j, e, hj, h1, h2⟩ => by
    have := Wk.cons (at3_mem l j hj) (Chain.walk h2)
    rw [h1] at this
    exact this

theorem Chain.app {l : List Arc3} : ∀ {s : Int} {P Q : List Int} {t : Int}, Chain l s (P ++ Q) t → ∃ u, Chain l s P u ∧ Chain l u Q t
  | s, [], Q, t, h => ⟨s, rfl, h⟩
  | s, k :: r, Q, t, ⟨j, e, hj, h1, h2⟩ => by
    obtain ⟨u, a, b⟩ := Chain.app h2
    exact ⟨u, ⟨j, e, hj, h1, a⟩, b⟩

/-- the nodes that are come to -/
def nodesOf (l : List Arc3) (s : Int) (P : List Int) : List Int := s :: P.map (fun k => (at3 l k.toNat).2.1)

theorem Chain.last {l : List Arc3} : ∀ {s : Int} {P : List Int} {t : Int}, Chain l s P t → ati (nodesOf l s P) P.length = t
  | s, [], t, h => by have : s = t := h; simpa [nodesOf, ati] using this
  | s, k :: r, t, ⟨j, e, hj, h1, h2⟩ => by
    have := Chain.last h2
    subst e
    simpa [nodesOf, ati] using this

theorem nodes_take (l : List Arc3) (s : Int) (P : List Int) (i : Nat) (hi : i ≤ P.length) : ati (nodesOf l s P) i = ati (nodesOf l s (P.take i)) (P.take i).length := by
  have e : (P.take i).length = i := by simp; omega
  rw [e]
  unfold nodesOf ati
  cases i with
  | zero => rfl
  | succ i => simp

theorem Chain.at {l : List Arc3} {s : Int} {P : List Int} {t : Int} (h : Chain l s P t) {i : Nat} (hi : i ≤ P.length) : Wk l s i (ati (nodesOf l s P) i) ∧ Wk l (ati (nodesOf l s P) i) (P.length - i) t := by
  have e := List.take_append_drop i P
  rw [← e] at h
  obtain ⟨u, a, b⟩ := Chain.app h
  have hu : ati (nodesOf l s P) i = u := by rw [nodes_take l s P i hi]; exact a.last
  have w1 := a.walk
  have w2 := b.walk
  rw [List.length_take, Nat.min_eq_left hi] at w1
  rw [List.length_drop] at w2
  rw [hu]
  exact ⟨w1, w2⟩

theorem Chain.plain {l : List Arc3} {s : Int} {P : List Int} {t : Int} (h : Chain l s P t) (hm : ∀ k, Wk l s k t → P.length ≤ k) {i j : Nat} (hij : i < j) (hj : j ≤ P.length) : ati (nodesOf l s P) i ≠ ati (nodesOf l s P) j := by
  intro e
  have w1 := (h.at (i := i) (by omega)).1
  have w2 := (h.at hj).2
  rw [← e] at w2
  have := hm _ (w1.trans w2)
  omega

theorem Chain.ix {l : List Arc3} : ∀ {s : Int} {P : List Int} {t : Int}, Chain l s P t → ∀ i, i < P.length → ∃ j : Nat, ati P i = j ∧ j < l.length
  | s, k :: r, t, ⟨j, e, hj, h1, h2⟩, 0, _ => ⟨j, by simp [ati, e], hj⟩
  | s, k :: r, t, ⟨j, e, hj, h1, h2⟩, i + 1, hi => by
    obtain ⟨j', e', hj'⟩ := Chain.ix h2 i (by simpa using hi)
    exact ⟨j', by simpa [ati] using e', hj'⟩

theorem nodes_length (l : List Arc3) (s : Int) (P : List Int) : (nodesOf l s P).length = P.length + 1 := by simp [nodesOf]

theorem nodes_succ (l : List Arc3) (s : Int) (P : List Int) (i j : Nat) (hi : i < P.length) (e : ati P i = j) : ati (nodesOf l s P) (i + 1) = (at3 l j).2.1 := by
  rw [ati_lt _ _ hi] at e
  simp [nodesOf, ati, hi, e]

theorem short_lt {N : Nat} {l : List Arc3} {s : Int} {t k : Nat} (hl : ∀ a ∈ l, (0 ≤ a.1 ∧ a.1 < (N : Int)) ∧ (0 ≤ a.2.1 ∧ a.2.1 < (N : Int))) (ht : t < N) (hw : Wk l s k t) (hm : ∀ j, Wk l s j t → k ≤ j) : k < N := by
  obtain ⟨F, hF⟩ := far_there N l s
  have := hF.lt hl ht
  rcases hF.all t ht with ⟨_, n⟩ | ⟨d, e, w, m⟩
  · exact absurd hw (n _)
  · have := hm _ w; omega

end Go.Proofs.Ytgmdacobbeoobaa
