/- Plain facts on how many trees: KIRCHHOFF's table, an arc less, its ends being one. -/
import Derived.Test.YtamckjbddnocpaaDMath
import Derived.Test.YtamckjbddnocpaaEMath
namespace Go.Proofs.Ytamckjbddnocpaa
set_option linter.unusedVariables false

/-! ### Determinants by lists of numbers -/

/-- rows I, columns J -/
def d2 (M : Mtx) (I J : List Nat) : Int := det I.length (fun i j => M (I.getD i 0) (J.getD j 0))
def dd (M : Mtx) (I : List Nat) : Int := d2 M I I

theorem d2_congr {M N : Mtx} {I J : List Nat} (hl : I.length = J.length) (h : ∀ i ∈ I, ∀ j ∈ J, M i j = N i j) : d2 M I J = d2 N I J :=
  det_congr fun i k hi hk => h _ (by simp [hi]) _ (by simp [← hl, hk])

theorem d2_turn (M : Mtx) {I J : List Nat} (hl : I.length = J.length) : d2 M I J = d2 (turnM M) J I := by
  unfold d2
  rw [← det_turn, hl]; rfl

/-- two rows side by side changed -/
theorem d2_adj (M : Mtx) (p : List Nat) (x y : Nat) (r J : List Nat) : d2 M (p ++ x :: y :: r) J = - d2 M (p ++ y :: x :: r) J := by
  have e := adj_swap (n := (p ++ x :: y :: r).length) (fun i j => M ((p ++ x :: y :: r).getD i 0) (J.getD j 0)) (r := p.length) (by simp) (fun j => M x (J.getD j 0)) (fun j => M y (J.getD j 0))
  have g0 : ∀ (a b : Nat), (p ++ a :: b :: r).getD p.length 0 = a := fun a b => by simp
  have g1 : ∀ (a b : Nat), (p ++ a :: b :: r).getD (p.length + 1) 0 = b := fun a b => by simp
  have gx : ∀ (a b i : Nat), i ≠ p.length → i ≠ p.length + 1 → (p ++ a :: b :: r).getD i 0 = (p ++ x :: y :: r).getD i 0 := fun a b i h1 h2 => by
    by_cases c : i < p.length
    · simp [List.getElem?_append_left, c]
    · obtain ⟨d, rfl⟩ : ∃ d, i = p.length + 2 + d := ⟨i - p.length - 2, by omega⟩
      have : p.length + 2 + d - p.length = d + 2 := by omega
      simp only [List.getD_eq_getElem?_getD]
      rw [List.getElem?_append_right (by omega), List.getElem?_append_right (by omega), this]
      rfl
  have two_is : ∀ (a b : Nat), two (fun i j => M ((p ++ x :: y :: r).getD i 0) (J.getD j 0)) p.length (p.length + 1) (fun j => M a (J.getD j 0)) (fun j => M b (J.getD j 0)) = fun i j => M ((p ++ a :: b :: r).getD i 0) (J.getD j 0) := fun a b => by
    funext i j
    by_cases c0 : i = p.length
    · subst c0; rw [two_row1 _ (by omega), g0]
    · by_cases c1 : i = p.length + 1
      · subst c1; rw [two_row2, g1]
      · rw [two_else _ c0 c1, gx a b i c0 c1]
  rw [two_is x y, two_is y x] at e
  unfold d2
  rw [e]
  simp

theorem dd_adj (M : Mtx) (p : List Nat) (x y : Nat) (r : List Nat) : dd M (p ++ x :: y :: r) = dd M (p ++ y :: x :: r) := by
  unfold dd
  rw [d2_adj, d2_turn M (by simp), d2_adj, d2_turn (turnM M) (by simp)]
  show - - d2 M _ _ = _
  omega

theorem dd_perm (M : Mtx) {A B : List Nat} (h : A.Perm B) : ∀ p, dd M (p ++ A) = dd M (p ++ B) := by
  induction h with
  | nil => intro p; rfl
  | cons x _ ih => intro p; have := ih (p ++ [x]); simpa using this
  | swap x y l => intro p; exact dd_adj M p y x l
  | trans _ _ h1 h2 => intro p; rw [h1 p, h2 p]

theorem dd_map {M N : Mtx} (φ : Nat → Nat) {I : List Nat} (h : ∀ i ∈ I, ∀ j ∈ I, M i j = N (φ i) (φ j)) : dd M I = dd N (I.map φ) := by
  unfold dd d2
  rw [List.length_map]
  refine det_congr fun i k hi hk => ?_
  have e1 : (I.map φ).getD i 0 = φ (I.getD i 0) := by simp [hi]
  have e2 : (I.map φ).getD k 0 = φ (I.getD k 0) := by simp [hk]
  rw [e1, e2]
  exact h _ (by simp [hi]) _ (by simp [hk])

/-- the first row of a table whose other rows are R -/
theorem d2_row (M : Mtx) (x : Nat) (R J : List Nat) : d2 M (x :: R) J = det (R.length + 1) (setRow (fun i j => M ((0 :: R).getD i 0) (J.getD j 0)) 0 (fun j => M x (J.getD j 0))) := by
  unfold d2
  refine det_congr fun i k hi hk => ?_
  cases i with
  | zero => rw [setRow_at]; rfl
  | succ i => rw [setRow_ne _ _ (by omega)]; rfl

/-- where all rows add up to nothing one stands for another, but for the sign -/
theorem d2_other (M : Mtx) {x y : Nat} {R J : List Nat} (hl : J.length = R.length + 1) (h : ∀ c ∈ J, M x c + M y c + (R.map fun r => M r c).sum = 0) : d2 M (y :: R) J = - d2 M (x :: R) J := by
  have key : ∀ (S : List Nat), (∀ s ∈ S, s ∈ R) → det (R.length + 1) (setRow (fun i j => M ((0 :: R).getD i 0) (J.getD j 0)) 0 (fun j => (S.map fun r => M r (J.getD j 0)).sum)) = 0 := by
    intro S
    induction S with
    | nil =>
      intro _
      have := det_scale (n := R.length + 1) (fun i j => M ((0 :: R).getD i 0) (J.getD j 0)) (r := 0) (by omega) 0 (fun _ => 0)
      simpa using this
    | cons s S ih =>
      intro hS
      have e1 := det_add (n := R.length + 1) (fun i j => M ((0 :: R).getD i 0) (J.getD j 0)) (r := 0) (by omega) (fun j => M s (J.getD j 0)) (fun j => (S.map fun r => M r (J.getD j 0)).sum)
      simp only [List.map_cons, List.sum_cons]
      rw [e1, ih fun r hr => hS r (List.mem_cons_of_mem _ hr)]
      obtain ⟨i, hi, ei⟩ := List.getElem_of_mem (hS s (List.mem_cons_self ..))
      rw [det_alike (r := 0) (s := i + 1) (by omega) (by omega) (by omega) fun k _ => ?_]
      · rfl
      · rw [setRow_at, setRow_ne _ _ (by omega)]
        simp [hi, ei]
  have e0 : det (R.length + 1) (setRow (fun i j => M ((0 :: R).getD i 0) (J.getD j 0)) 0 (fun j => M x (J.getD j 0) + (M y (J.getD j 0) + (R.map fun r => M r (J.getD j 0)).sum))) = 0 := by
    have e : det (R.length + 1) (setRow (fun i j => M ((0 :: R).getD i 0) (J.getD j 0)) 0 (fun j => M x (J.getD j 0) + (M y (J.getD j 0) + (R.map fun r => M r (J.getD j 0)).sum))) =
        det (R.length + 1) (setRow (fun i j => M ((0 :: R).getD i 0) (J.getD j 0)) 0 (fun j => (([] : List Nat).map fun r => M r (J.getD j 0)).sum)) := by
      refine det_congr fun i k hi hk => ?_
      by_cases c : i = 0
      · subst c
        rw [setRow_at, setRow_at]
        have := h (J.getD k 0) (by simp [show k < J.length by omega])
        simp only [List.map_nil, List.sum_nil]
        omega
      · rw [setRow_ne _ _ c, setRow_ne _ _ c]
    rw [e]
    exact key [] (by simp)
  rw [det_add (n := R.length + 1) _ (by omega) (fun j => M x (J.getD j 0)) (fun j => M y (J.getD j 0) + (R.map fun r => M r (J.getD j 0)).sum),
    det_add (n := R.length + 1) _ (by omega) (fun j => M y (J.getD j 0)) (fun j => (R.map fun r => M r (J.getD j 0)).sum), key R (fun _ h => h), ← d2_row, ← d2_row] at e0
  omega

/-- whichever is left out, it is the same -/
theorem dd_other (M : Mtx) (hs : ∀ i j, M i j = M j i) {x y : Nat} {R : List Nat} (h : ∀ c ∈ x :: y :: R, M x c + M y c + (R.map fun r => M r c).sum = 0) : dd M (y :: R) = dd M (x :: R) := by
  have hM : turnM M = M := by funext i j; exact hs j i
  unfold dd
  rw [d2_other M (x := x) (y := y) (by simp) fun c hc => h c (List.mem_cons_of_mem _ hc), d2_turn M (by simp), hM,
    d2_other M (x := x) (y := y) (by simp) fun c hc => h c (by rcases List.mem_cons.1 hc with hc | hc <;> simp [hc])]
  omega

/-- a row with one 1 and nothing else -/
theorem det_unit (n : Nat) (M : Mtx) : det (n + 1) (setRow M 0 (fun j => if j = 0 then 1 else 0)) = det n (fun i j => M (i + 1) (j + 1)) := by
  rw [det_succ, sumN_single (k := 0) (by omega) fun j _ hj => ?_]
  · rw [minor_set0, setRow_at]
    have : minor M 0 = fun i j => M (i + 1) (j + 1) := by funext i k; simp only [minor, skip_zero]
    rw [this]; simp [sgn]
  · rw [setRow_at, if_neg hj]; simp

end Go.Proofs.Ytamckjbddnocpaa
