/- Plain facts on package push: the steps by which something could go, one by one; the least height that they lead to. -/
import Derived.Test.YtgmifepfbcgfbaaPuC
namespace Go.Proofs.Ytgmifepfbcgfbaa
set_option linter.unusedVariables false

/-- a step: from where, to where, how much -/
def dirS (l : List Arc3) (f : List Int) (k : Nat) (b : Bool) : Arc3 := ((frmN l k b : Int), (towN l k b : Int), room l f k b)
/-- the first so many steps: along an arc, back along it, along the next one .. -/
def stepsC (l : List Arc3) (f : List Int) : Nat → List Arc3
  | 0 => []
  | m + 1 => stepsC l f m ++ if 0 < room l f (m / 2) (decide (m % 2 = 1)) then [dirS l f (m / 2) (decide (m % 2 = 1))] else []
theorem steps_len (l : List Arc3) (f : List Int) : ∀ m, (stepsC l f m).length ≤ m
  | 0 => Nat.le_refl _
  | m + 1 => by
    have := steps_len l f m
    unfold stepsC
    rw [List.length_append]
    split
    · simp; omega
    · simp; omega
theorem steps_mem {l : List Arc3} {f : List Int} {x : Arc3} : ∀ {m : Nat}, x ∈ stepsC l f m ↔ ∃ j, j < m ∧ 0 < room l f (j / 2) (decide (j % 2 = 1)) ∧ x = dirS l f (j / 2) (decide (j % 2 = 1))
  | 0 => ⟨fun h => absurd h List.not_mem_nil, fun ⟨j, h, _⟩ => absurd h (Nat.not_lt_zero _)⟩
  | m + 1 => by
    unfold stepsC
    rw [List.mem_append, steps_mem]
    constructor
    · rintro (⟨j, h1, h2, h3⟩ | h)
      · exact ⟨j, by omega, h2, h3⟩
      · split at h
        · next hr => exact ⟨m, by omega, hr, List.mem_singleton.1 h⟩
        · exact absurd h List.not_mem_nil
    · rintro ⟨j, h1, h2, h3⟩
      by_cases e : j = m
      · subst e; rw [if_pos h2]; exact Or.inr (List.mem_singleton.2 h3)
      · exact Or.inl ⟨j, by omega, h2, h3⟩
theorem steps_all {l : List Arc3} {f : List Int} {x : Arc3} : x ∈ stepsC l f (2 * l.length) ↔ ∃ (k : Nat) (b : Bool), k < l.length ∧ 0 < room l f k b ∧ x = dirS l f k b := by
  rw [steps_mem]
  constructor
  · rintro ⟨j, h1, h2, h3⟩
    exact ⟨j / 2, _, by omega, h2, h3⟩
  · rintro ⟨k, b, h1, h2, h3⟩
    cases b
    · refine ⟨2 * k, by omega, ?_⟩
      have e1 : 2 * k / 2 = k := by omega
      have e2 : decide (2 * k % 2 = 1) = false := decide_eq_false (by omega)
      rw [e1, e2]; exact ⟨h2, h3⟩
    · refine ⟨2 * k + 1, by omega, ?_⟩
      have e1 : (2 * k + 1) / 2 = k := by omega
      have e2 : decide ((2 * k + 1) % 2 = 1) = true := decide_eq_true (by omega)
      rw [e1, e2]; exact ⟨h2, h3⟩
theorem steps_fwd (l : List Arc3) (f : List Int) (k : Nat) : stepsC l f (2 * k + 1) = stepsC l f (2 * k) ++ if 0 < room l f k false then [dirS l f k false] else [] := by
  have e1 : 2 * k / 2 = k := by omega
  have e2 : decide (2 * k % 2 = 1) = false := decide_eq_false (by omega)
  show stepsC l f (2 * k) ++ (if 0 < room l f (2 * k / 2) (decide (2 * k % 2 = 1)) then [dirS l f (2 * k / 2) (decide (2 * k % 2 = 1))] else []) = _
  rw [e1, e2]
theorem steps_back (l : List Arc3) (f : List Int) (k : Nat) : stepsC l f (2 * (k + 1)) = stepsC l f (2 * k + 1) ++ if 0 < room l f k true then [dirS l f k true] else [] := by
  have e1 : (2 * k + 1) / 2 = k := by omega
  have e2 : decide ((2 * k + 1) % 2 = 1) = true := decide_eq_true (by omega)
  show stepsC l f (2 * k + 1) ++ (if 0 < room l f ((2 * k + 1) / 2) (decide ((2 * k + 1) % 2 = 1)) then [dirS l f ((2 * k + 1) / 2) (decide ((2 * k + 1) % 2 = 1))] else []) = _
  rw [e1, e2]

/-- the least height to which the first i steps lead from a node; x where none does -/
structure LowIs (L : List Arc3) (h : List Int) (v : Nat) (x : Int) (i : Nat) (m : Int) : Prop where
  le : m ≤ x
  least : ∀ j, j < i → (at3 L j).1 = (v : Int) → m ≤ ati h (at3 L j).2.1.toNat
  is : m = x ∨ ∃ j, j < i ∧ (at3 L j).1 = (v : Int) ∧ m = ati h (at3 L j).2.1.toNat
theorem LowIs.start (L : List Arc3) (h : List Int) (v : Nat) (x : Int) : LowIs L h v x 0 x :=
  ⟨Int.le_refl _, fun j hj => absurd hj (Nat.not_lt_zero _), Or.inl rfl⟩
theorem LowIs.no {L : List Arc3} {h : List Int} {v : Nat} {x : Int} {i : Nat} {m : Int} (H : LowIs L h v x i m) (e : (at3 L i).1 ≠ (v : Int)) : LowIs L h v x (i + 1) m :=
  ⟨H.le, fun j hj hv => by
    by_cases e2 : j = i
    · subst e2; exact absurd hv e
    · exact H.least j (by omega) hv, H.is.imp id fun ⟨j, h1, h2, h3⟩ => ⟨j, by omega, h2, h3⟩⟩
theorem LowIs.yes {L : List Arc3} {h : List Int} {v : Nat} {x : Int} {i : Nat} {m : Int} (H : LowIs L h v x i m) (e : (at3 L i).1 = (v : Int)) : LowIs L h v x (i + 1) (min m (ati h (at3 L i).2.1.toNat)) := by
  refine ⟨by have := H.le; omega, fun j hj hv => ?_, ?_⟩
  · by_cases e2 : j = i
    · subst e2; exact Int.min_le_right _ _
    · have := H.least j (by omega) hv; omega
  · by_cases c : m ≤ ati h (at3 L i).2.1.toNat
    · rw [Int.min_eq_left c]
      exact H.is.imp id fun ⟨j, h1, h2, h3⟩ => ⟨j, by omega, h2, h3⟩
    · rw [Int.min_eq_right (by omega)]
      exact Or.inr ⟨i, by omega, e, rfl⟩

/-- the least of all: by it a node may be lifted, or not -/
theorem LowIs.bound {N s t : Nat} {l : List Arc3} {f h : List Int} (H : PushOk N s t l f h) {v : Nat} {m : Int} {i : Nat} (L : LowIs (stepsC l f (2 * l.length)) h v (2 * (N : Int)) i m) (hi : i ≤ (stepsC l f (2 * l.length)).length) : 0 ≤ m ∧ m ≤ 2 * (N : Int) := by
  refine ⟨?_, L.le⟩
  rcases L.is with rfl | ⟨j, h1, h2, rfl⟩
  · omega
  · have hm : at3 (stepsC l f (2 * l.length)) j ∈ stepsC l f (2 * l.length) := at3_mem _ _ (by omega)
    obtain ⟨k, b, hk, hr, he⟩ := steps_all.1 hm
    rw [he]
    have := (H.high (towN l k b) (ends_lt H.net hk b).2).1
    simpa [dirS] using this
theorem LowIs.lift {N s t : Nat} {l : List Arc3} {f h : List Int} (H : PushOk N s t l f h) {v : Nat} (hv : v < N) {m : Int} (L : LowIs (stepsC l f (2 * l.length)) h v (2 * (N : Int)) (stepsC l f (2 * l.length)).length m) {x : Int} :
    CanLift N s t l f h v x ↔ x = m + 1 ∧ BusyN s t l f v ∧ ati h v < m + 1 ∧ m + 1 ≤ 2 * (N : Int) := by
  have hto : ∀ u, StepTo l f v u → m ≤ ati h u := by
    rintro u ⟨k, b, hk, e1, e2, hr⟩
    obtain ⟨j, hj, he⟩ := List.mem_iff_getElem.1 (steps_all.2 ⟨k, b, hk, hr, rfl⟩)
    have hat : at3 (stepsC l f (2 * l.length)) j = dirS l f k b := by rw [at3_lt _ _ hj, he]
    have := L.least j hj (by rw [hat]; simp [dirS, e1])
    rw [hat] at this
    simpa [dirS, e2] using this
  have hof : m + 1 ≤ 2 * (N : Int) → ∃ u, StepTo l f v u ∧ m = ati h u := by
    intro hle
    rcases L.is with rfl | ⟨j, h1, h2, h3⟩
    · omega
    · obtain ⟨k, b, hk, hr, he⟩ := steps_all.1 (at3_mem (stepsC l f (2 * l.length)) j h1)
      rw [he] at h2 h3
      refine ⟨towN l k b, ⟨k, b, hk, ?_, rfl, hr⟩, by simpa [dirS] using h3⟩
      have : (frmN l k b : Int) = v := h2
      omega
  constructor
  · intro C
    obtain ⟨u, hu, he⟩ := C.way.some
    have h1 := hto u hu
    have h2 := C.top
    obtain ⟨u', hu', he'⟩ := hof (by omega)
    have h3 := C.way.least u' hu'
    have hx : x = m + 1 := by omega
    exact ⟨hx, C.busy, by have := C.up; omega, by omega⟩
  · rintro ⟨rfl, h1, h2, h3⟩
    obtain ⟨u, hu, he⟩ := hof h3
    exact ⟨hv, h1, ⟨⟨u, hu, by rw [he]⟩, fun u' hu' => by have := hto u' hu'; omega⟩, h2, h3⟩

end Go.Proofs.Ytgmifepfbcgfbaa
