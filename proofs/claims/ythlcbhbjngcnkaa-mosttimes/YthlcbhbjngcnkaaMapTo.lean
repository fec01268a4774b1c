/- Lists of which the first so many are changed: arcs, numbers. -/
import Derived.Test.YthlcbhbjngcnkaaBase
namespace Go.Proofs.Ythlcbhbjngcnkaa
set_option linter.unusedVariables false

def mapTo (c : Arc3 → Arc3) (l : List Arc3) (k : Nat) : List Arc3 := (l.take k).map c ++ l.drop k
theorem mapTo_len (c : Arc3 → Arc3) (l : List Arc3) (k : Nat) : (mapTo c l k).length = l.length := by simp [mapTo]; omega
theorem mapTo_zero (c : Arc3 → Arc3) (l : List Arc3) : mapTo c l 0 = l := by simp [mapTo]
theorem mapTo_all (c : Arc3 → Arc3) (l : List Arc3) : mapTo c l l.length = l.map c := by simp [mapTo]
theorem mapTo_at (c : Arc3 → Arc3) (l : List Arc3) (k i : Nat) (hk : k ≤ l.length) (hi : i < l.length) : at3 (mapTo c l k) i = if i < k then c (at3 l i) else at3 l i := by
  rw [at3_lt _ _ (by rw [mapTo_len]; exact hi), at3_lt l i hi]
  by_cases h : i < k
  · rw [if_pos h]
    simp only [mapTo]
    rw [List.getElem_append_left (by simp; omega)]
    simp
  · rw [if_neg h]
    simp only [mapTo]
    rw [List.getElem_append_right (by simp; omega)]
    simp only [List.getElem_drop, List.length_map, List.length_take]
    congr 1
    omega
/-- one more: what is stored at k -/
theorem mapTo_next (c : Arc3 → Arc3) (l : List Arc3) (k : Nat) (hk : k < l.length) (hc : ∀ a, (c a).1 = a.1 ∧ (c a).2.1 = a.2.1) : ∀ j, j < (mapTo c l k).length → at3 (mapTo c l (k + 1)) j = if j = k then ((at3 (mapTo c l k) k).1, (at3 (mapTo c l k) k).2.1, (c (at3 l k)).2.2) else at3 (mapTo c l k) j := by
  intro j hj
  rw [mapTo_len] at hj
  rw [mapTo_at c l (k + 1) j (by omega) hj, mapTo_at c l k j (by omega) hj, mapTo_at c l k k (by omega) hk, if_neg (Nat.lt_irrefl k)]
  by_cases e : j = k
  · subst e
    rw [if_pos (by omega), if_pos rfl, ← (hc (at3 l j)).1, ← (hc (at3 l j)).2]
  · by_cases e2 : j < k
    · rw [if_pos (by omega), if_neg e, if_pos e2]
    · rw [if_neg (by omega), if_neg e, if_neg e2]

/-- two lists of numbers, added up to k -/
def addTo (f g : List Int) (k : Nat) : List Int := (List.range f.length).map fun i => if i < k then ati f i + ati g i else ati f i
theorem addTo_len (f g : List Int) (k : Nat) : (addTo f g k).length = f.length := by simp [addTo]
theorem addTo_at (f g : List Int) (k : Nat) {i : Nat} (hi : i < f.length) : ati (addTo f g k) i = if i < k then ati f i + ati g i else ati f i := by
  rw [ati_lt _ _ (by rw [addTo_len]; exact hi)]
  simp [addTo]
theorem ext_at {f g : List Int} (hl : f.length = g.length) (h : ∀ i, i < f.length → ati f i = ati g i) : f = g := by
  refine List.ext_getElem hl fun i h1 h2 => ?_
  have := h i h1
  rwa [ati_lt _ _ h1, ati_lt _ _ h2] at this
theorem addTo_zero (f g : List Int) : addTo f g 0 = f := ext_at (addTo_len f g 0) fun i hi => by
  rw [addTo_len] at hi
  rw [addTo_at f g 0 hi, if_neg (Nat.not_lt_zero _)]
theorem addTo_next (f g : List Int) (k : Nat) (hk : k < f.length) : ∀ j, j < f.length → ati (addTo f g (k + 1)) j = if j = k then ati f k + ati g k else ati (addTo f g k) j := by
  intro j hj
  rw [addTo_at f g _ hj, addTo_at f g _ hj]
  by_cases e : j = k
  · subst e; rw [if_pos (by omega), if_pos rfl]
  · by_cases e2 : j < k
    · rw [if_pos (by omega), if_neg e, if_pos e2]
    · rw [if_neg (by omega), if_neg e, if_neg e2]

end Go.Proofs.Ythlcbhbjngcnkaa
