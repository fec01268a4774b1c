/- A way along arcs that have something left, until a node comes again: plain facts. -/
import Derived.Test.YthlcbhbjngcnkaaSplitT
namespace Go.Proofs.Ythlcbhbjngcnkaa
set_option linter.unusedVariables false

/-- arcs K gone from s, by the nodes V -/
structure FolIs (N : Nat) (l : List Arc3) (F : List Int) (s : Int) (K : List Nat) (V : List Int) : Prop where
  len : V.length = K.length + 1
  first : ati V 0 = s
  lt : ∀ v ∈ V, 0 ≤ v ∧ v < (N : Int)
  nd : V.Nodup
  arcs : ∀ i, i < K.length → K.getD i 0 < l.length ∧ (at3 l (K.getD i 0)).1 = ati V i ∧ (at3 l (K.getD i 0)).2.1 = ati V (i + 1) ∧ 0 < ati F (K.getD i 0)

theorem ati_snoc_old {V : List Int} {u : Int} {i : Nat} (h : i < V.length) : ati (V ++ [u]) i = ati V i := by
  rw [ati_lt _ _ (by simp; omega), ati_lt _ _ h, List.getElem_append_left h]
theorem ati_snoc_new {V : List Int} {u : Int} : ati (V ++ [u]) V.length = u := by
  rw [ati_lt _ _ (by simp)]; simp
theorem getD_snoc_old {K : List Nat} {k i : Nat} (h : i < K.length) : (K ++ [k]).getD i 0 = K.getD i 0 := by
  simp [List.getD, List.getElem?_append_left h]
theorem getD_snoc_new {K : List Nat} {k : Nat} : (K ++ [k]).getD K.length 0 = k := by simp [List.getD]

theorem FolIs.start {N : Nat} {l : List Arc3} {F : List Int} {s : Int} (hs : 0 ≤ s ∧ s < (N : Int)) : FolIs N l F s [] [s] :=
  ⟨rfl, rfl, fun v hv => by rw [List.mem_singleton] at hv; subst hv; exact hs, List.nodup_cons.2 ⟨List.not_mem_nil, List.nodup_nil⟩, fun i hi => absurd hi (Nat.not_lt_zero _)⟩

/-- all the arcs, and one more -/
structure FolOn (l : List Arc3) (F : List Int) (s : Int) (K : List Nat) (V : List Int) (u : Int) : Prop where
  len : V.length = K.length
  nd : V.Nodup
  arcs : ∀ i, i < K.length → K.getD i 0 < l.length ∧ (at3 l (K.getD i 0)).1 = ati V i ∧ (at3 l (K.getD i 0)).2.1 = (if i + 1 < K.length then ati V (i + 1) else u) ∧ 0 < ati F (K.getD i 0)

theorem FolIs.on {N : Nat} {l : List Arc3} {F : List Int} {s : Int} {K : List Nat} {V : List Int} (h : FolIs N l F s K V) {k : Nat} (hk : k < l.length) (hf : (at3 l k).1 = ati V K.length) (hp : 0 < ati F k) : FolOn l F s (K ++ [k]) V (at3 l k).2.1 := by
  refine ⟨by rw [h.len, List.length_append, List.length_singleton], h.nd, fun i hi => ?_⟩
  rw [List.length_append, List.length_singleton] at hi ⊢
  by_cases e : i < K.length
  · obtain ⟨h1, h2, h3, h4⟩ := h.arcs i e
    rw [getD_snoc_old e, if_pos (by omega)]
    exact ⟨h1, h2, h3, h4⟩
  · have : i = K.length := by omega
    subst this
    rw [getD_snoc_new, if_neg (by omega)]
    exact ⟨hk, hf, rfl, hp⟩
theorem FolOn.next {N : Nat} {l : List Arc3} {F : List Int} {s : Int} {K : List Nat} {V : List Int} {u : Int} (h : FolOn l F s K V u) (hV : ∀ v ∈ V, 0 ≤ v ∧ v < (N : Int)) (hs : ati V 0 = s) (hK : 0 < K.length) (hu : 0 ≤ u ∧ u < (N : Int)) (hn : u ∉ V) : FolIs N l F s K (V ++ [u]) := by
  refine ⟨by rw [List.length_append, h.len, List.length_singleton], by rw [ati_snoc_old (by rw [h.len]; exact hK)]; exact hs, fun v hv => ?_, ?_, fun i hi => ?_⟩
  · rcases List.mem_append.1 hv with hv | hv
    · exact hV v hv
    · rw [List.mem_singleton] at hv; subst hv; exact hu
  · rw [List.nodup_append]
    refine ⟨h.nd, List.nodup_cons.2 ⟨List.not_mem_nil, List.nodup_nil⟩, fun a ha b hb e => ?_⟩
    rw [List.mem_singleton] at hb
    subst e; subst hb; exact hn ha
  · obtain ⟨h1, h2, h3, h4⟩ := h.arcs i hi
    refine ⟨h1, by rw [ati_snoc_old (by rw [h.len]; exact hi)]; exact h2, ?_, h4⟩
    rw [h3]
    by_cases e : i + 1 < K.length
    · rw [if_pos e, ati_snoc_old (by rw [h.len]; exact e)]
    · have : i + 1 = V.length := by rw [h.len]; omega
      rw [if_neg e, this, ati_snoc_new]

theorem nodup_from {l : List Arc3} {K : List Nat} {V : List Int} (hl : K.length ≤ V.length) (hn : V.Nodup) (h : ∀ i, i < K.length → (at3 l (K.getD i 0)).1 = ati V i) : K.Nodup := by
  rw [List.nodup_iff_pairwise_ne, List.pairwise_iff_getElem]
  intro i j hi hj hij e
  have h1 := h i hi
  have h2 := h j hj
  have e1 : K.getD i 0 = K[i] := by simp [hi]
  have e2 : K.getD j 0 = K[j] := by simp [hj]
  rw [e1] at h1
  rw [e2, ← e, h1, ati_lt _ _ (by omega), ati_lt _ _ (by omega)] at h2
  exact absurd h2 (List.pairwise_iff_getElem.1 (List.nodup_iff_pairwise_ne.1 hn) i j (by omega) (by omega) hij)

theorem drop_cons {K : List Nat} {i : Nat} (h : i < K.length) : K.drop i = K.getD i 0 :: K.drop (i + 1) := by
  rw [List.drop_eq_getElem_cons h]; simp [h]
theorem way_drop {l : List Arc3} {K : List Nat} {V : Nat → Int} (h : ∀ i, i < K.length → K.getD i 0 < l.length ∧ (at3 l (K.getD i 0)).1 = V i ∧ (at3 l (K.getD i 0)).2.1 = V (i + 1)) : ∀ m i, i + m = K.length → Way l (V i) (K.drop i) (V K.length)
  | 0, i, hi => by
    rw [Nat.add_zero] at hi
    subst hi
    rw [List.drop_length]; rfl
  | m + 1, i, hi => by
    rw [drop_cons (by omega)]
    obtain ⟨h1, h2, h3⟩ := h i (by omega)
    refine ⟨h1, h2, ?_⟩
    rw [h3]
    exact way_drop h m (i + 1) (by omega)

theorem FolIs.way {N : Nat} {l : List Arc3} {F : List Int} {s : Int} {K : List Nat} {V : List Int} (h : FolIs N l F s K V) : Way l s K (ati V K.length) ∧ K.Nodup ∧ ∀ k ∈ K, 0 < ati F k := by
  refine ⟨?_, nodup_from (by rw [h.len]; omega) h.nd fun i hi => (h.arcs i hi).2.1, fun k hk => ?_⟩
  · have := way_drop (V := ati V) (fun i hi => ⟨(h.arcs i hi).1, (h.arcs i hi).2.1, (h.arcs i hi).2.2.1⟩) K.length 0 (by omega)
    rwa [h.first, List.drop_zero] at this
  · obtain ⟨i, hi, e⟩ := List.mem_iff_getElem.1 hk
    have := (h.arcs i hi).2.2.2
    have e1 : K.getD i 0 = K[i] := by simp [hi]
    rwa [e1, e] at this
theorem FolIs.ends {N : Nat} {l : List Arc3} {F : List Int} {s : Int} {K : List Nat} {V : List Int} (h : FolIs N l F s K V) : (K = [] → ati V K.length = s) ∧ (K ≠ [] → ati V K.length ≠ s) := by
  refine ⟨fun e => by subst e; exact h.first, fun e e2 => ?_⟩
  have hp : 0 < K.length := List.length_pos_iff.2 e
  have hl := h.len
  rw [← h.first, ati_lt _ _ (by omega), ati_lt _ _ (by omega)] at e2
  exact absurd e2.symm (List.pairwise_iff_getElem.1 (List.nodup_iff_pairwise_ne.1 h.nd) 0 K.length (by omega) (by omega) hp)
theorem FolIs.bound {N : Nat} {l : List Arc3} {F : List Int} {s : Int} {K : List Nat} {V : List Int} (h : FolIs N l F s K V) : K.length + 1 ≤ N := by
  rw [← h.len]
  have hn : (V.map Int.toNat).Nodup := by
    rw [List.nodup_iff_pairwise_ne, List.pairwise_iff_getElem]
    intro i j hi hj hij e
    rw [List.length_map] at hi hj
    rw [List.getElem_map, List.getElem_map] at e
    have h1 := h.lt _ (List.getElem_mem hi)
    have h2 := h.lt _ (List.getElem_mem hj)
    exact absurd (show V[i] = V[j] by omega) (List.pairwise_iff_getElem.1 (List.nodup_iff_pairwise_ne.1 h.nd) i j hi hj hij)
  have := List.Nodup.length_le_of_subset (l₂ := List.range N) hn (fun x hx => by
    obtain ⟨v, hv, rfl⟩ := List.mem_map.1 hx
    have := h.lt v hv
    exact List.mem_range.2 (by omega))
  simpa using this

/-- closed: from where the node was to its end -/
theorem FolOn.round {l : List Arc3} {F : List Int} {s : Int} {K : List Nat} {V : List Int} {u : Int} (h : FolOn l F s K V u) {i : Nat} (hi : i < K.length) (hu : ati V i = u) : Way l u (K.drop i) u ∧ (K.drop i).Nodup ∧ K.drop i ≠ [] ∧ ∀ k ∈ K.drop i, 0 < ati F k := by
  have hn : K.Nodup := nodup_from (by rw [h.len]; omega) h.nd fun i hi => (h.arcs i hi).2.1
  refine ⟨?_, hn.sublist (List.drop_sublist _ _), fun e => ?_, fun k hk => ?_⟩
  · have := way_drop (l := l) (K := K) (V := fun j => if j < K.length then ati V j else u) (fun j hj => by
      obtain ⟨h1, h2, h3, _⟩ := h.arcs j hj
      exact ⟨h1, by rw [if_pos hj]; exact h2, h3⟩) (K.length - i) i (by omega)
    rwa [if_pos hi, if_neg (by omega), hu] at this
  · have := congrArg List.length e
    rw [List.length_drop, List.length_nil] at this
    omega
  · obtain ⟨j, hj, e⟩ := List.mem_iff_getElem.1 (List.mem_of_mem_drop hk)
    have := (h.arcs j hj).2.2.2
    have e1 : K.getD j 0 = K[j] := by simp [hj]
    rwa [e1, e] at this

/-- what follow tells -/
structure FolSays (l : List Arc3) (F : List Int) (s : Int) (K : List Nat) (b : Bool) : Prop where
  nd : K.Nodup
  pos : ∀ k ∈ K, 0 < ati F k
  some : b = true → K ≠ []
  round : b = true → ∃ u, Way l u K u
  way : b = false → ∃ u, Way l s K u ∧ Dead l F u ∧ (K = [] → u = s) ∧ (K ≠ [] → u ≠ s)
theorem FolSays.ofWay {N : Nat} {l : List Arc3} {F : List Int} {s : Int} {K : List Nat} {V : List Int} (h : FolIs N l F s K V) (hd : Dead l F (ati V K.length)) : FolSays l F s K false := by
  obtain ⟨h1, h2, h3⟩ := h.way
  exact ⟨h2, h3, (fun e => by cases e), (fun e => by cases e), fun _ => ⟨_, h1, hd, h.ends⟩⟩
theorem FolSays.ofRound {l : List Arc3} {F : List Int} {s : Int} {K : List Nat} {V : List Int} {u : Int} (h : FolOn l F s K V u) {i : Nat} (hi : i < K.length) (hu : ati V i = u) : FolSays l F s (K.drop i) true := by
  obtain ⟨h1, h2, h3, h4⟩ := h.round hi hu
  exact ⟨h2, h4, fun _ => h3, fun _ => ⟨u, h1⟩, (fun e => by cases e)⟩

end Go.Proofs.Ythlcbhbjngcnkaa
