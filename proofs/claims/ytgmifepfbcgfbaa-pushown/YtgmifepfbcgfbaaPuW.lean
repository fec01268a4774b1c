/- Plain facts on package push: each step makes a number less, that is below 40000 at first: so it comes to its end. -/
import Derived.Test.YtgmifepfbcgfbaaPuG
namespace Go.Proofs.Ytgmifepfbcgfbaa
set_option linter.unusedVariables false

def phiN (s t : Nat) (l : List Arc3) (f h : List Int) (v : Nat) : Int := if v ≠ s ∧ v ≠ t ∧ gone l (ati f) v < 0 then ati h v else 0
def lowN (l : List Arc3) (f h : List Int) (k : Nat) : Int := min (if 0 < room l f k false then ati h (towN l k false) else 24) (if 0 < room l f k true then ati h (towN l k true) else 24)
def workN (N s t : Nat) (l : List Arc3) (f h : List Int) : Int := sumN (phiN s t l f h) N + 23 * sumN (fun k => 24 - lowN l f h k) l.length + 2 * sumN (fun v => 24 - ati h v) N

theorem sum_bump {f g : Nat → Int} {n v : Nat} {d : Int} (hv : v < n) (h : ∀ i, i < n → g i ≤ f i + if i = v then d else 0) : sumN g n ≤ sumN f n + d := by
  have h1 := sumN_mono h
  rw [sumN_add, sumN_single (f := fun i => if i = v then d else 0) hv (fun i _ hne => if_neg hne), if_pos rfl] at h1
  exact h1
theorem sum_bound {f : Nat → Int} {c : Int} : ∀ {n : Nat}, (∀ i, i < n → 0 ≤ f i ∧ f i ≤ c) → 0 ≤ sumN f n ∧ sumN f n ≤ c * n
  | 0, _ => by simp [sumN]
  | n + 1, h => by
    have ih := sum_bound (f := f) (c := c) (n := n) fun i hi => h i (by omega)
    have h1 := h n (by omega)
    have e : c * ((n + 1 : Nat) : Int) = c * n + c := by rw [Int.natCast_add, Int.mul_add]; simp
    show 0 ≤ sumN f n + f n ∧ sumN f n + f n ≤ _
    rw [e]; omega

theorem Reach.hgt {N s t : Nat} {l : List Arc3} {f h : List Int} (H : Reach N s t l f h) {v : Nat} (hv : v < N) : 0 ≤ ati h v ∧ ati h v ≤ 23 := by
  obtain ⟨_, _, _, _, hN, _⟩ := H.ok.st
  have h1 := H.ok.high v hv
  have h2 := H.low v hv
  omega
theorem low_bound {N s t : Nat} {l : List Arc3} {f h : List Int} (H : Reach N s t l f h) {k : Nat} (hk : k < l.length) : 0 ≤ lowN l f h k ∧ lowN l f h k ≤ 24 := by
  have h1 := H.hgt (ends_lt H.ok.net hk false).2
  have h2 := H.hgt (ends_lt H.ok.net hk true).2
  unfold lowN
  split <;> split <;> omega
theorem work_bound {N s t : Nat} {l : List Arc3} {f h : List Int} (H : Reach N s t l f h) : 0 ≤ workN N s t l f h ∧ workN N s t l f h ≤ 40000 := by
  obtain ⟨_, _, _, _, hN, hl⟩ := H.ok.st
  have b1 := sum_bound (f := phiN s t l f h) (c := 23) (n := N) fun v hv => by
    have := H.hgt hv
    unfold phiN; split <;> omega
  have b2 := sum_bound (f := fun k => 24 - lowN l f h k) (c := 24) (n := l.length) fun k hk => by
    have := low_bound H hk; omega
  have b3 := sum_bound (f := fun v => 24 - ati h v) (c := 24) (n := N) fun v hv => by
    have := H.hgt hv; omega
  unfold workN
  omega

theorem work_lift {N s t : Nat} {l : List Arc3} {f h : List Int} (H : Reach N s t l f h) {v : Nat} {x : Int} (C : CanLift N s t l f h v x) : workN N s t l f (h.set v x) + 1 ≤ workN N s t l f h := by
  have hvh : v < h.length := by rw [H.ok.hlen]; exact C.lt
  have K := reach_lift H C
  have hup := C.up
  have b1 := sum_bump (f := phiN s t l f h) (g := phiN s t l f (h.set v x)) (d := x - ati h v) C.lt fun i hi => by
    unfold phiN
    rw [ati_set hvh]
    by_cases e : i = v
    · subst e
      have hb := C.busy
      unfold BusyN at hb
      rw [if_pos hb, if_pos hb, if_pos rfl, if_pos rfl]; omega
    · rw [if_neg e, if_neg e]; omega
  have b2 := sumN_mono (f := fun k => 24 - lowN l f (h.set v x) k) (g := fun k => 24 - lowN l f h k) (n := l.length) fun k hk => by
    have h1 := lift_up H.ok C (towN l k false)
    have h2 := lift_up H.ok C (towN l k true)
    unfold lowN
    split <;> split <;> omega
  have b3 := sum_bump (f := fun v => 24 - ati h v) (g := fun u => 24 - ati (h.set v x) u) (d := -(x - ati h v)) C.lt fun i hi => by
    rw [ati_set hvh]
    by_cases e : i = v
    · subst e; rw [if_pos rfl, if_pos rfl]; omega
    · rw [if_neg e, if_neg e]; omega
  unfold workN
  omega

theorem work_send {N s t : Nat} {l : List Arc3} {f h : List Int} (H : Reach N s t l f h) {k : Nat} {b : Bool} (C : CanSend s t l f h k b) : workN N s t l (sentF f k b (amtN l f k b)) h + 1 ≤ workN N s t l f h := by
  have hk := C.lt
  have hkf : k < f.length := by rw [H.ok.flen]; exact hk
  obtain ⟨a1, a2, a3⟩ := amt_is C
  obtain ⟨hvN, huN⟩ := ends_lt H.ok.net hk b
  have hgt := C.high
  have hv := H.hgt hvN
  have hu := H.hgt huN
  have hne : frmN l k b ≠ towN l k b := fun e => by rw [e] at hgt; omega
  have hgone := sent_gone (f := f) H.ok.net H.ok.flen hk b (amtN l f k b)
  have hbusy := C.busy
  unfold BusyN at hbusy
  by_cases hsat : amtN l f k b = room l f k b
  · have b1 := sum_bump (f := phiN s t l f h) (g := phiN s t l (sentF f k b (amtN l f k b)) h) (d := ati h (towN l k b)) huN fun i hi => by
      have hi' := H.hgt hi
      unfold phiN
      rw [hgone i]
      by_cases e : i = towN l k b
      · subst e
        rw [if_pos rfl]
        split <;> split <;> omega
      · rw [if_neg e, if_neg (Ne.symm e)]
        by_cases e2 : frmN l k b = i
        · subst e2
          rw [if_pos rfl, if_pos hbusy]
          split <;> omega
        · rw [if_neg e2]; simp
    have b2 := sum_bump (f := fun i => 24 - lowN l f h i) (g := fun i => 24 - lowN l (sentF f k b (amtN l f k b)) h i) (d := -1) hk fun i hi => by
      unfold lowN
      rw [room_sent hkf, room_sent hkf]
      by_cases e : i = k
      · subst e
        rw [if_pos rfl, if_pos rfl, if_pos rfl]
        have hr0 := room_nonneg H.ok hk (!b)
        cases b
        · have f2 : towN l i true = frmN l i false := rfl
          simp only [Bool.not_false] at hr0
          rw [f2]
          simp only [if_true, Bool.false_eq_true, if_false]
          rw [if_neg (by omega), if_pos (by omega), if_pos (by omega)]
          split <;> omega
        · have f2 : towN l i false = frmN l i true := rfl
          simp only [Bool.not_true] at hr0
          rw [f2]
          simp only [if_true, Bool.true_eq_false, if_false]
          rw [if_pos (by omega), if_neg (by omega), if_pos (c := 0 < room l f i true) (by omega)]
          split <;> omega
      · rw [if_neg e, if_neg e, if_neg e]; omega
    unfold workN
    omega
  · have hall : amtN l f k b = -gone l (ati f) (frmN l k b) := by unfold amtN at hsat ⊢; omega
    have hlt : amtN l f k b < room l f k b := by omega
    have b1 := sumN_mono (f := phiN s t l (sentF f k b (amtN l f k b)) h) (g := fun i => phiN s t l f h i + ((if i = towN l k b then ati h (towN l k b) else 0) + (if i = frmN l k b then -ati h (frmN l k b) else 0))) (n := N) fun i hi => by
      have hi' := H.hgt hi
      unfold phiN
      rw [hgone i]
      by_cases e : i = towN l k b
      · subst e
        rw [if_pos rfl, if_pos rfl, if_neg (Ne.symm hne)]
        split <;> split <;> omega
      · rw [if_neg e, if_neg (Ne.symm e)]
        by_cases e2 : frmN l k b = i
        · subst e2
          rw [if_pos rfl, if_pos rfl, if_pos hbusy, if_neg (by omega)]; omega
        · rw [if_neg e2, if_neg (Ne.symm e2)]; simp
    rw [sumN_add, sumN_add, sumN_single (f := fun i => if i = towN l k b then ati h (towN l k b) else 0) huN (fun i _ hne => if_neg hne), if_pos rfl,
      sumN_single (f := fun i => if i = frmN l k b then -ati h (frmN l k b) else 0) hvN (fun i _ hne => if_neg hne), if_pos rfl] at b1
    have b2 := sumN_mono (f := fun i => 24 - lowN l (sentF f k b (amtN l f k b)) h i) (g := fun i => 24 - lowN l f h i) (n := l.length) fun i hi => by
      unfold lowN
      rw [room_sent hkf, room_sent hkf]
      by_cases e : i = k
      · subst e
        rw [if_pos rfl, if_pos rfl]
        have hr0 := room_nonneg H.ok hk (!b)
        cases b
        · have f2 : towN l i true = frmN l i false := rfl
          simp only [Bool.not_false] at hr0
          rw [f2]
          simp only [if_true, Bool.false_eq_true, if_false]
          rw [if_pos (by omega), if_pos (c := 0 < room l f i false) (by omega)]
          split <;> split <;> omega
        · have f2 : towN l i false = frmN l i true := rfl
          simp only [Bool.not_true] at hr0
          rw [f2]
          simp only [if_true, Bool.true_eq_false, if_false]
          rw [if_pos (c := 0 < room l f i true - amtN l f i true) (by omega), if_pos (c := 0 < room l f i true) (by omega)]
          split <;> split <;> omega
      · rw [if_neg e, if_neg e]; omega
    unfold workN
    omega

end Go.Proofs.Ytgmifepfbcgfbaa
