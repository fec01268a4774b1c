/- Tables made of rows: with two rows changed, turned, with a row more: plain facts for DetRows. -/
import Derived.Test.YtamckjbddnocpabTDet
import Derived.Test.YtamckjbddnocpabMat
namespace Go.Proofs.Ytamckjbddnocpab
open Go.RowKit
set_option linter.unusedVariables false

/-- column j of a table, as a row -/
def col (l : List RowV) (j : Nat) : List Int := (List.range l.length).map fun y => mtx l y j
theorem col_len (l : List RowV) (j : Nat) : (col l j).length = l.length := by simp [col]
theorem col_at (l : List RowV) {j y : Nat} (h : y < l.length) : ati (col l j) y = mtx l y j := by
  rw [ati_lt _ _ (by rw [col_len]; exact h)]; simp [col]

/-- a table by its rows -/
def tab (n : Nat) (f : Nat → RowV) : List RowV := (List.range n).map f
theorem tab_len (n : Nat) (f : Nat → RowV) : (tab n f).length = n := by simp [tab]
theorem tab_at {n : Nat} (f : Nat → RowV) {j : Nat} (h : j < n) : atr (tab n f) j = f j := by
  rw [atr_lt _ _ (by rw [tab_len]; exact h)]; simp [tab]
theorem tab_mtx {n : Nat} (f : Nat → RowV) {i : Nat} (k : Nat) (h : i < n) : mtx (tab n f) i k = ati (f i).l k := by
  unfold mtx; rw [tab_at f h]
theorem tab_in {w : World} {g n cap : Nat} {f : Nat → RowV} {h : Nat → Value} (hr : w.rowIs g 22 cap h) (hv : ∀ j, j < n → h j = (f j).val) (ha : ∀ j, j < n → (f j).At w) (hc : n ≤ cap) (hm : cap ≤ maxLen) :
    RowsIn w (some ⟨g, 0, none⟩) cap (tab n f) := by
  refine ⟨fun i hi => ?_, by rw [tab_len]; exact hc, hm, fun e => by cases e⟩
  rw [tab_len] at hi
  refine ⟨g, 0, rfl, hr.lt, ?_, by rw [tab_at f hi]; exact ha i hi⟩
  rw [Nat.zero_add, hr.cell (by omega), hv i hi, tab_at f hi]

/-- the two numbers, changed -/
def sw (I K j : Nat) : Nat := if j = I then K else if j = K then I else j
theorem sw_lt {I K j n : Nat} (hI : I < n) (hK : K < n) (hj : j < n) : sw I K j < n := by unfold sw; split <;> (try split) <;> omega

theorem swapT {l : List RowV} (he : detErr l = 0) {I K : Nat} (hI : I < l.length) (hK : K < l.length) :
    detErr (tab l.length fun j => atr l (sw I K j)) = 0 ∧ detV (tab l.length fun j => atr l (sw I K j)) = if I = K then detV l else - detV l := by
  obtain ⟨h7, hlen, hent⟩ := detErr_ok he
  have hE : detErr (tab l.length fun j => atr l (sw I K j)) = 0 := by
    refine detErr_mk (by rw [tab_len]; exact h7) (fun i hi => ?_) (fun i k hi hk => ?_)
    · rw [tab_len] at hi ⊢
      rw [tab_at _ hi]; exact hlen _ (sw_lt hI hK hi)
    · rw [tab_len] at hi hk
      rw [tab_mtx _ _ hi]; exact hent _ k (sw_lt hI hK hi) hk
  refine ⟨hE, ?_⟩
  rw [detV_ok hE, detV_ok he, tab_len]
  by_cases e : I = K
  · rw [if_pos e]
    refine det_congr fun i k hi hk => ?_
    rw [tab_mtx _ _ hi]
    have : sw I K i = i := by unfold sw; subst e; split <;> omega
    rw [this]; rfl
  · rw [if_neg e, ← det_swap (mtx l) hI hK e]
    refine det_congr fun i k hi hk => ?_
    rw [tab_mtx _ _ hi]
    by_cases e1 : i = I
    · subst e1
      rw [two_row1 _ e]; simp [sw, mtx]
    · by_cases e2 : i = K
      · subst e2
        rw [two_row2]; simp [sw, mtx, e1]
      · rw [two_else _ e1 e2]; simp [sw, mtx, e1, e2]

theorem turnT {l : List RowV} (he : detErr l = 0) {V : Nat → RowV} (hV : ∀ j, j < l.length → (V j).l = col l j) :
    detErr (tab l.length V) = 0 ∧ detV (tab l.length V) = detV l := by
  obtain ⟨h7, hlen, hent⟩ := detErr_ok he
  have hm : ∀ i k, i < l.length → k < l.length → mtx (tab l.length V) i k = mtx l k i := fun i k hi hk => by
    rw [tab_mtx _ _ hi, hV i hi, col_at l hk]
  have hE : detErr (tab l.length V) = 0 := by
    refine detErr_mk (by rw [tab_len]; exact h7) (fun i hi => ?_) (fun i k hi hk => ?_)
    · rw [tab_len] at hi ⊢
      rw [tab_at _ hi, hV i hi, col_len]
    · rw [tab_len] at hi hk
      rw [hm i k hi hk]; exact hent k i hk hi
  refine ⟨hE, ?_⟩
  rw [detV_ok hE, detV_ok he, tab_len, ← det_turn l.length (mtx l)]
  exact det_congr fun i k hi hk => hm i k hi hk

/-- row I with row K added to it -/
def addL (l : List RowV) (I K : Nat) : List Int := (List.range l.length).map fun j => mtx l I j + if I ≠ K ∧ j < l.length then mtx l K j else 0
theorem addL_len (l : List RowV) (I K : Nat) : (addL l I K).length = l.length := by simp [addL]
theorem addL_at (l : List RowV) (I K : Nat) {j : Nat} (h : j < l.length) : ati (addL l I K) j = mtx l I j + if I ≠ K ∧ j < l.length then mtx l K j else 0 := by
  rw [ati_lt _ _ (by rw [addL_len]; exact h)]; simp [addL]

theorem addT {l : List RowV} (he : detErr l = 0) {I K : Nat} (hI : I < l.length) (hK : K < l.length) {r : RowV} (hr : r.l = addL l I K) :
    detErr (tab l.length fun j => if j = I then r else atr l j) ≠ 0 ∨ detErr (tab l.length fun j => if j = I then r else atr l j) = 0 ∧ detV (tab l.length fun j => if j = I then r else atr l j) = detV l := by
  by_cases hE : detErr (tab l.length fun j => if j = I then r else atr l j) = 0
  · refine Or.inr ⟨hE, ?_⟩
    rw [detV_ok hE, detV_ok he, tab_len]
    by_cases e : I = K
    · refine det_congr fun i k hi hk => ?_
      rw [tab_mtx _ _ hi]
      by_cases e1 : i = I
      · subst e1
        simp only [if_true]
        rw [hr, addL_at l _ _ hk]; simp [e]
      · simp only [e1, if_false]; rfl
    · rw [← det_more (mtx l) hI hK e 1]
      refine det_congr fun i k hi hk => ?_
      rw [tab_mtx _ _ hi]
      by_cases e1 : i = I
      · subst e1
        rw [setRow_at]
        simp only [if_true]
        rw [hr, addL_at l _ _ hk]; simp [e, hk]
      · rw [setRow_ne _ _ e1]
        simp only [e1, if_false]; rfl
  · exact Or.inl hE

/-- how great it can be -/
theorem detV_abs {l : List RowV} (he : detErr l = 0) : -24106163760 ≤ detV l ∧ detV l ≤ 24106163760 := by
  obtain ⟨h7, hlen, hent⟩ := detErr_ok he
  have := det_abs 9 l.length (mtx l) fun i k hi hk => by have := hent i k hi hk; omega
  have h2 : ∀ j, j ≤ 7 → fact j * 9 ^ j ≤ 24106163760 := by decide
  have h3 := h2 _ h7
  rw [detV_ok he]
  omega

end Go.Proofs.Ytamckjbddnocpab
