/- Contracts of package tree: checkRow, Det. -/
import Derived.Test.YtamckjbddnocpaaTExp
namespace Go.Proofs.Ytamckjbddnocpaa
open Go.RowKit
set_option linter.unusedVariables false

def okEntry (x : Int) : Bool := decide (-9 ≤ x ∧ x ≤ 9)
def rowErr (n : Nat) (r : List Int) : Int := if r.length ≠ n then 3 else if r.all okEntry then 0 else 1
def rowsErr (n : Nat) : List RowV → Int
  | [] => 0
  | r :: rs => if rowErr n r.l = 0 then rowsErr n rs else rowErr n r.l
def detErr (l : List RowV) : Int := if 7 < l.length then 2 else rowsErr l.length l

/-- what Det tells -/
def detV (l : List RowV) : Int := if detErr l = 0 then det l.length (mtx l) else 0
theorem detV_ok {l : List RowV} (h : detErr l = 0) : detV l = det l.length (mtx l) := if_pos h
theorem detV_err {l : List RowV} (h : detErr l ≠ 0) : detV l = 0 := if_neg h

theorem rowErr_ok {n : Nat} {r : List Int} (h : rowErr n r = 0) : r.length = n ∧ ∀ x ∈ r, -9 ≤ x ∧ x ≤ 9 := by
  unfold rowErr at h
  by_cases e : r.length ≠ n
  · rw [if_pos e] at h; cases h
  · rw [if_neg e] at h
    by_cases e2 : r.all okEntry = true
    · refine ⟨Decidable.not_not.1 e, fun x hx => ?_⟩
      exact of_decide_eq_true (List.all_eq_true.1 e2 x hx)
    · rw [if_neg e2] at h; cases h

theorem rowErr_mk {n : Nat} {r : List Int} (h1 : r.length = n) (h2 : ∀ x ∈ r, -9 ≤ x ∧ x ≤ 9) : rowErr n r = 0 := by
  unfold rowErr
  have h3 : r.all okEntry = true := List.all_eq_true.2 fun x hx => decide_eq_true (h2 x hx)
  rw [if_neg (fun h => h h1), if_pos h3]

theorem rowsErr_ok {n : Nat} : ∀ {l : List RowV}, rowsErr n l = 0 → ∀ r ∈ l, rowErr n r.l = 0
  | [], _, _, hr => by cases hr
  | r :: rs, h, x, hx => by
    unfold rowsErr at h
    by_cases e : rowErr n r.l = 0
    · rw [if_pos e] at h
      rcases List.mem_cons.1 hx with rfl | hx
      · exact e
      · exact rowsErr_ok h x hx
    · rw [if_neg e] at h; exact absurd h e

theorem rowsErr_mk {n : Nat} : ∀ {l : List RowV}, (∀ r ∈ l, rowErr n r.l = 0) → rowsErr n l = 0
  | [], _ => rfl
  | r :: rs, h => by
    unfold rowsErr
    rw [if_pos (h r (by simp))]
    exact rowsErr_mk fun x hx => h x (by simp [hx])

/-- the first row that has an error -/
theorem rowsErr_at {n : Nat} : ∀ {l : List RowV} {k : Nat}, k < l.length → (∀ j, j < k → rowErr n (atr l j).l = 0) → rowErr n (atr l k).l ≠ 0 → rowsErr n l = rowErr n (atr l k).l
  | [], _, h, _, _ => absurd h (Nat.not_lt_zero _)
  | r :: rs, 0, _, _, h => by unfold rowsErr; exact if_neg h
  | r :: rs, k + 1, hk, h0, h => by
    unfold rowsErr
    rw [if_pos (show rowErr n r.l = 0 from h0 0 (by omega))]
    exact rowsErr_at (by simpa using hk) (fun j hj => h0 (j + 1) (by omega)) h

theorem detErr_ok {l : List RowV} (h : detErr l = 0) : l.length ≤ 7 ∧ (∀ i, i < l.length → (atr l i).l.length = l.length) ∧ ∀ i k, i < l.length → k < l.length → -9 ≤ mtx l i k ∧ mtx l i k ≤ 9 := by
  unfold detErr at h
  by_cases e : 7 < l.length
  · rw [if_pos e] at h; cases h
  · rw [if_neg e] at h
    have hr := fun i (hi : i < l.length) => rowErr_ok (rowsErr_ok h _ (atr_mem l i hi))
    exact ⟨by omega, fun i hi => (hr i hi).1, fun i k hi hk => (hr i hi).2 _ (ati_mem _ _ (by rw [(hr i hi).1]; exact hk))⟩

theorem detErr_mk {l : List RowV} (h1 : l.length ≤ 7) (h2 : ∀ i, i < l.length → (atr l i).l.length = l.length) (h3 : ∀ i k, i < l.length → k < l.length → -9 ≤ mtx l i k ∧ mtx l i k ≤ 9) : detErr l = 0 := by
  unfold detErr
  rw [if_neg (by omega)]
  refine rowsErr_mk fun r hr => ?_
  obtain ⟨i, hi, rfl⟩ := List.mem_iff_getElem.1 hr
  have e := atr_lt l i hi
  have h2 := h2 i hi
  rw [e] at h2
  refine rowErr_mk h2 fun x hx => ?_
  obtain ⟨k, hk, rfl⟩ := List.mem_iff_getElem.1 hx
  have h3 := h3 i k hi (by omega)
  unfold mtx at h3
  rw [e, ati_lt _ _ hk] at h3
  exact h3

set_option maxHeartbeats 400000 in
theorem checkRow_any (n : Nat) (hn : n ≤ 7) (ao : Option Addr) (cap : Nat) (l : List Int) (w : World) (hm : l.length ≤ maxLen) (hA : IntsAt w ao l) :
    Calls Try.prog 24 #[.slice ao l.length cap, .int .i64 (n : Int)] w fun e w' => w' = w ∧ e = .returned (.int .i64 (rowErr n l)) := by
  unfold maxLen at hm
  by_cases hl : l.length = n
  · have HE : Hid (rowErr n l = if l.all okEntry then 0 else 1) := by rw [Hid, rowErr, if_neg (fun h => h hl)]
    have hne : ((l.length : Int) != (n : Int)) = false := by simp [hl]
    generalize rowErr n l = E at *
    clear hl
    go_enter Try.func24, Try.ntmps24
    go_wp2
    go_loop [13] (fun i => ∃ k : Nat, k ≤ l.length ∧ i = .int .i64 k ∧ Hid (∀ j, j < k → okEntry (ati l j) = true)) (fun i => l.length - (intOf i).toNat)
    case atStart => exact ⟨0, Nat.zero_le _, rfl, fun j hj => absurd hj (Nat.not_lt_zero _)⟩
    case round =>
      obtain ⟨k, hk, rfl, hall⟩ := hrel
      by_cases hlt : k < l.length
      · have hmem := ati_mem l k hlt
        obtain ⟨b, off, rfl, hb, c0⟩ := hA k hlt
        by_cases hok : okEntry (ati l k) = true
        · have hr : -9 ≤ ati l k ∧ ati l k ≤ 9 := of_decide_eq_true hok
          have HN : Hid (∀ j, j < k + 1 → okEntry (ati l j) = true) := fun j hj => by
            by_cases e : j = k
            · rw [e]; exact hok
            · exact hall.out j (by omega)
          clear hok hmem hall
          generalize ati l k = x at *
          go_wp2
          go_round
          case rel => exact ⟨k + 1, by omega, by go_num, HN⟩
          case measure => simp [intOf]; omega
        · have hx : E = 1 := by
            rw [HE.out, if_neg (fun h => hok (List.all_eq_true.1 h _ hmem))]
          have hr : ¬ (-9 ≤ ati l k ∧ ati l k ≤ 9) := fun h => hok (decide_eq_true h)
          clear hok hmem hall HE
          subst hx
          generalize ati l k = x at *
          by_cases h1 : x < -9
          · clear hr
            go_wp2
            go_ret
            exact ⟨rfl, rfl⟩
          · have h2 : 9 < x := by omega
            clear hr
            go_wp2
            go_ret
            exact ⟨rfl, rfl⟩
      · have hx : E = 0 := by
          rw [HE.out, if_pos (List.all_eq_true.2 fun x hx => ?_)]
          obtain ⟨j, hj, rfl⟩ := List.mem_iff_getElem.1 hx
          have := hall.out j (by omega)
          rwa [ati_lt l j hj] at this
        subst hx
        go_wp2
        go_ret
        exact ⟨rfl, rfl⟩
  · have HE : rowErr n l = 3 := by rw [rowErr, if_pos hl]
    rw [HE]
    have hne : ((l.length : Int) != (n : Int)) = true := by simp; omega
    clear hl HE
    go_enter Try.func24, Try.ntmps24
    go_wp2
    go_ret
    exact ⟨rfl, rfl⟩

set_option maxHeartbeats 400000 in
theorem Det_any (ao : Option Addr) (cap : Nat) (l : List RowV) (w : World) (hR : RowsIn w ao cap l) :
    Calls Try.prog 7 #[.slice ao l.length cap] w fun e w' => w' = w ∧ e = .returned (.tuple #[.int .i64 (detV l), .int .i64 (detErr l)]) := by
  have hm := Nat.le_trans hR.le hR.max
  unfold maxLen at hm
  by_cases h7 : 7 < l.length
  · have HE : detErr l = 2 := by rw [detErr, if_pos h7]
    rw [detV_err (by rw [HE]; decide), HE]
    clear HE hR
    go_enter Try.func7, Try.ntmps7
    go_wp2
    go_ret2
    exact ⟨rfl, rfl⟩
  · have HE : Hid (detErr l = rowsErr l.length l) := by rw [Hid, detErr, if_neg h7]
    have HR : Hid (RowsAt w ao l) := hR.rows
    clear hR
    go_enter Try.func7, Try.ntmps7
    go_wp2
    go_loopw [12] (fun i wr => ∃ k : Nat, k ≤ l.length ∧ i = .int .i64 k ∧ Hid (∀ j, j < k → rowErr l.length (atr l j).l = 0) ∧ Is w wr) (fun i _ => l.length - (intOf i).toNat)
    case atStart => exact ⟨0, Nat.zero_le _, rfl, fun j hj => absurd hj (Nat.not_lt_zero _), Is.rfl _⟩
    case round =>
      obtain ⟨k, hk, rfl, hall, hw⟩ := hrel
      have hw : wr = w := hw
      subst hw
      by_cases hlt : k < l.length
      · obtain ⟨b, off, rfl, hb, c0, hat⟩ := HR.out k hlt
        have hcall := checkRow_any l.length (by omega) (atr l k).ao (atr l k).cap (atr l k).l wr (Nat.le_trans hat.le hat.max) hat.ints
        unfold RowV.val at c0
        by_cases hok : rowErr l.length (atr l k).l = 0
        · have HN : Hid (∀ j, j < k + 1 → rowErr l.length (atr l j).l = 0) := fun j hj => by
            by_cases e : j = k
            · rw [e]; exact hok
            · exact hall.out j (by omega)
          rw [hok] at hcall
          have hne : ((0 : Int) != 0) = false := rfl
          clear hok hat hall
          generalize (atr l k).l.length = rn at *
          generalize (atr l k).ao = ra at *
          generalize (atr l k).cap = rc at *
          go_wp2_with (go_at_call 24; refine (hcall).mono ?_; rintro e w' ⟨hw1, rfl⟩; subst hw1)
          go_roundw
          case rel => exact ⟨k + 1, by omega, by go_num, HN, Is.rfl _⟩
          case measure => simp [intOf]; omega
        · have HX : Hid (detErr l = rowErr l.length (atr l k).l) := by rw [Hid, HE.out, rowsErr_at hlt hall.out hok]
          have hne : (rowErr l.length (atr l k).l != 0) = true := by simpa using hok
          have HY : Hid (rowErr l.length (atr l k).l ≠ 0) := hok
          clear hok hat hall
          generalize rowErr l.length (atr l k).l = E at *
          generalize (atr l k).l.length = rn at *
          generalize (atr l k).ao = ra at *
          generalize (atr l k).cap = rc at *
          go_wp2_with (go_at_call 24; refine (hcall).mono ?_; rintro e w' ⟨hw1, rfl⟩; subst hw1)
          go_ret2
          exact ⟨rfl, by rw [detV_err (by rw [HX.out]; exact HY.out), HX.out]; rfl⟩
      · have hkl : k = l.length := by omega
        have he : detErr l = 0 := by
          rw [HE.out]
          refine rowsErr_mk fun r hr => ?_
          obtain ⟨j, hj, rfl⟩ := List.mem_iff_getElem.1 hr
          have := hall.out j (by omega)
          rwa [atr_lt l j hj] at this
        obtain ⟨d1, d2, d3⟩ := detErr_ok he
        have hcall := expand_any l.length d1 ao cap l wr rfl HR.out d2 (fun i k hi hk => by have := d3 i k hi hk; omega) l.length 0 0 (by omega) (by omega) (by rw [cols_zero]; simp)
        rw [cols_zero, dx_all] at hcall
        have HZ : Hid (detErr l = 0) := he
        have HV : Hid (detV l = det l.length (mtx l)) := detV_ok he
        clear he d1 d2 d3 hall
        generalize det l.length (mtx l) = D at *
        go_wp2_with (go_at_call 25; refine (hcall).mono ?_; rintro e w' ⟨hw1, rfl⟩; subst hw1)
        go_ret2
        exact ⟨rfl, by rw [HV.out, HZ.out]; rfl⟩

end Go.Proofs.Ytamckjbddnocpaa
