/- Plain facts on package push: a net on its way; what New, Send, Lift make of it is right. -/
import Derived.Test.YtgmifepfbcgfbaaMostF
namespace Go.Proofs.Ytgmifepfbcgfbaa
set_option linter.unusedVariables false

/-- from where an arc, or back along it; to where; how much more can go -/
def frmN (l : List Arc3) (k : Nat) (b : Bool) : Nat := if b then (at3 l k).2.1.toNat else (at3 l k).1.toNat
def towN (l : List Arc3) (k : Nat) (b : Bool) : Nat := if b then (at3 l k).1.toNat else (at3 l k).2.1.toNat
def room (l : List Arc3) (f : List Int) (k : Nat) (b : Bool) : Int := if b then ati f k else (at3 l k).2.2 - ati f k

/-- P30 -/
structure PushOk (N s t : Nat) (l : List Arc3) (f h : List Int) : Prop where
  net : netErr N s t l = 0
  flen : f.length = l.length
  hlen : h.length = N
  bnd : ∀ k, k < l.length → 0 ≤ ati f k ∧ ati f k ≤ (at3 l k).2.2
  wait : ∀ v : Nat, v < N → v ≠ s → gone l (ati f) v ≤ 0
  high : ∀ v : Nat, v < N → 0 ≤ ati h v ∧ ati h v ≤ 2 * (N : Int)
  src : ati h s = N
  snk : ati h t = 0
  down : ∀ (k : Nat) (b : Bool), k < l.length → 0 < room l f k b → ati h (frmN l k b) ≤ ati h (towN l k b) + 1

/-- more waits there than goes on -/
def BusyN (s t : Nat) (l : List Arc3) (f : List Int) (v : Nat) : Prop := v ≠ s ∧ v ≠ t ∧ gone l (ati f) v < 0

theorem PushOk.st {N s t : Nat} {l : List Arc3} {f h : List Int} (H : PushOk N s t l f h) : s < N ∧ t < N ∧ s ≠ t ∧ 1 ≤ N ∧ N ≤ 12 ∧ l.length ≤ 60 := by
  obtain ⟨h1, h2, h3, h4⟩ := net_ok H.net
  obtain ⟨h5, h6, _⟩ := err_ok h1
  exact ⟨by omega, by omega, fun e => h4 (by rw [e]), by omega, by omega, h6⟩
theorem arc_at {N s t : Nat} {l : List Arc3} (hE : netErr N s t l = 0) {k : Nat} (hk : k < l.length) : (at3 l k).1 = (frmN l k false : Int) ∧ (at3 l k).2.1 = (towN l k false : Int) ∧ frmN l k false < N ∧ towN l k false < N ∧ 0 ≤ (at3 l k).2.2 ∧ (at3 l k).2.2 ≤ 10000 := by
  obtain ⟨⟨p1, p2⟩, ⟨p3, p4⟩⟩ := net_nodes hE _ (at3_mem l k hk)
  unfold frmN towN
  refine ⟨by simp; omega, by simp; omega, by simp; omega, by simp; omega, (err_ok (net_ok hE).1).2.2 _ (at3_mem l k hk) |>.2.2⟩
theorem frm_not (l : List Arc3) (k : Nat) (b : Bool) : frmN l k (!b) = towN l k b := by cases b <;> rfl
theorem tow_not (l : List Arc3) (k : Nat) (b : Bool) : towN l k (!b) = frmN l k b := by cases b <;> rfl
theorem ends_lt {N s t : Nat} {l : List Arc3} (hE : netErr N s t l = 0) {k : Nat} (hk : k < l.length) (b : Bool) : frmN l k b < N ∧ towN l k b < N := by
  obtain ⟨_, _, h1, h2, _⟩ := arc_at hE hk
  cases b
  · exact ⟨h1, h2⟩
  · exact ⟨h2, h1⟩
theorem ati_set {f : List Int} {k : Nat} (hk : k < f.length) (y : Int) (i : Nat) : ati (f.set k y) i = if i = k then y else ati f i := by
  unfold ati
  rw [List.getD_eq_getElem?_getD, List.getD_eq_getElem?_getD, List.getElem?_set]
  by_cases e : k = i
  · subst e; simp [hk]
  · rw [if_neg e, if_neg (Ne.symm e)]

/-- so much more goes along an arc, or so much less -/
def sentF (f : List Int) (k : Nat) (b : Bool) (y : Int) : List Int := f.set k (ati f k + if b then -y else y)
theorem sent_len (f : List Int) (k : Nat) (b : Bool) (y : Int) : (sentF f k b y).length = f.length := by unfold sentF; rw [List.length_set]
theorem sent_at {f : List Int} {k : Nat} (hk : k < f.length) (b : Bool) (y : Int) (i : Nat) : ati (sentF f k b y) i = if i = k then ati f k + (if b then -y else y) else ati f i := ati_set hk _ i
theorem sent_gone {N s t : Nat} {l : List Arc3} {f : List Int} (hE : netErr N s t l = 0) (hf : f.length = l.length) {k : Nat} (hk : k < l.length) (b : Bool) (y : Int) (u : Nat) :
    gone l (ati (sentF f k b y)) u = gone l (ati f) u + ((if frmN l k b = u then y else 0) - (if towN l k b = u then y else 0)) := by
  have e : gone l (ati (sentF f k b y)) u = gone l (fun i => if i = k then ati f k + (if b then -y else y) else ati f i) u := gone_congr (fun i hi => sent_at (by omega) b y i) u
  obtain ⟨h1, h2, _⟩ := arc_at hE hk
  rw [e, gone_set (F := ati f) hk, h1, h2]
  have i1 : ((frmN l k false : Int) = (u : Int)) ↔ frmN l k false = u := by omega
  have i2 : ((towN l k false : Int) = (u : Int)) ↔ towN l k false = u := by omega
  cases b
  · simp only [i1, i2, Bool.false_eq_true, if_false]
  · simp only [i1, i2, if_true]
    have e1 : frmN l k true = towN l k false := rfl
    have e2 : towN l k true = frmN l k false := rfl
    rw [e1, e2]
    split <;> split <;> omega
theorem room_sent {l : List Arc3} {f : List Int} {k : Nat} (hk : k < f.length) (b : Bool) (y : Int) (i : Nat) (c : Bool) :
    room l (sentF f k b y) i c = if i = k then (if b = c then room l f k b - y else room l f k c + y) else room l f i c := by
  unfold room
  rw [sent_at hk]
  by_cases e : i = k
  · subst e
    rw [if_pos rfl, if_pos rfl]
    cases b <;> cases c <;> simp <;> omega
  · rw [if_neg e, if_neg e]
theorem room_nonneg {N s t : Nat} {l : List Arc3} {f h : List Int} (H : PushOk N s t l f h) {k : Nat} (hk : k < l.length) (b : Bool) : 0 ≤ room l f k b := by
  have := H.bnd k hk
  unfold room; cases b <;> simp <;> omega

/-! ### New -/

def newF (s : Nat) (l : List Arc3) : List Int := l.map fun a => if a.1 = (s : Int) ∧ a.2.1 ≠ (s : Int) then a.2.2 else 0
def newH (N s : Nat) : List Int := (List.replicate N 0).set s (N : Int)
theorem newF_at (s : Nat) (l : List Arc3) {k : Nat} (hk : k < l.length) : ati (newF s l) k = if (at3 l k).1 = (s : Int) ∧ (at3 l k).2.1 ≠ (s : Int) then (at3 l k).2.2 else 0 := by
  unfold newF
  rw [ati_lt _ _ (by rw [List.length_map]; exact hk), List.getElem_map, at3_lt _ _ hk]
theorem ati_zero (n k : Nat) : ati (List.replicate n 0) k = 0 := by
  by_cases h : k < n
  · simp [ati, h]
  · simp [ati, show (List.replicate n (0 : Int))[k]? = none from List.getElem?_eq_none (by rw [List.length_replicate]; omega)]
theorem newH_at {N s : Nat} (hs : s < N) (v : Nat) : ati (newH N s) v = if v = s then (N : Int) else 0 := by
  unfold newH
  rw [ati_set (by rw [List.length_replicate]; exact hs), ati_zero]
theorem new_ok {N s t : Nat} {l : List Arc3} (hE : netErr N s t l = 0) : PushOk N s t l (newF s l) (newH N s) := by
  obtain ⟨hge, hs, ht, hst⟩ := net_ok hE
  have hsN : s < N := by omega
  refine ⟨hE, by unfold newF; rw [List.length_map], by unfold newH; rw [List.length_set, List.length_replicate], fun k hk => ?_, fun v hv hne => ?_, fun v hv => ?_, ?_, ?_, fun k b hk hr => ?_⟩
  · obtain ⟨_, _, _, _, h1, _⟩ := arc_at hE hk
    rw [newF_at s l hk]
    split <;> omega
  · have : 0 ≤ sumN (fun i => -((if (at3 l i).1 = (v : Int) then ati (newF s l) i else 0) - (if (at3 l i).2.1 = (v : Int) then ati (newF s l) i else 0))) l.length := sumN_nonneg fun i hi => by
      obtain ⟨_, _, _, _, h1, _⟩ := arc_at hE hi
      rw [newF_at s l hi]
      by_cases c : (at3 l i).1 = (s : Int) ∧ (at3 l i).2.1 ≠ (s : Int)
      · rw [if_pos c, c.1, if_neg (by omega)]
        split <;> omega
      · rw [if_neg c]; simp
    rw [sumN_neg] at this
    unfold gone goneK
    omega
  · rw [newH_at hsN]; split <;> omega
  · rw [newH_at hsN, if_pos rfl]
  · rw [newH_at hsN, if_neg (by omega)]
  · obtain ⟨h1, h2, h3, h4, h5, h6⟩ := arc_at hE hk
    rw [newH_at hsN, newH_at hsN]
    unfold room at hr
    rw [newF_at s l hk] at hr
    cases b
    · simp only [Bool.false_eq_true, if_false] at hr
      by_cases c : frmN l k false = s
      · by_cases c2 : towN l k false = s
        · rw [if_pos c, if_pos c2]; omega
        · rw [h1, h2, if_pos ⟨by omega, by omega⟩] at hr
          omega
      · rw [if_neg c]; split <;> omega
    · simp only [if_true] at hr
      have e1 : frmN l k true = towN l k false := rfl
      have e2 : towN l k true = frmN l k false := rfl
      rw [e1, e2]
      by_cases c : (at3 l k).1 = (s : Int) ∧ (at3 l k).2.1 ≠ (s : Int)
      · rw [if_neg (by rw [h2] at c; omega)]; split <;> omega
      · rw [if_neg c] at hr; omega

/-! ### Send -/

structure CanSend (s t : Nat) (l : List Arc3) (f h : List Int) (k : Nat) (b : Bool) : Prop where
  lt : k < l.length
  busy : BusyN s t l f (frmN l k b)
  high : ati h (frmN l k b) = ati h (towN l k b) + 1
  room : 0 < room l f k b
/-- how much goes -/
def amtN (l : List Arc3) (f : List Int) (k : Nat) (b : Bool) : Int := min (room l f k b) (-gone l (ati f) (frmN l k b))
theorem amt_is {s t : Nat} {l : List Arc3} {f h : List Int} {k : Nat} {b : Bool} (C : CanSend s t l f h k b) : 0 < amtN l f k b ∧ amtN l f k b ≤ room l f k b ∧ amtN l f k b ≤ -gone l (ati f) (frmN l k b) := by
  have h1 := C.room
  have h2 := C.busy.2.2
  unfold amtN; omega
theorem send_ok {N s t : Nat} {l : List Arc3} {f h : List Int} (H : PushOk N s t l f h) {k : Nat} {b : Bool} (C : CanSend s t l f h k b) : PushOk N s t l (sentF f k b (amtN l f k b)) h := by
  obtain ⟨a1, a2, a3⟩ := amt_is C
  have hk := C.lt
  have hkf : k < f.length := by rw [H.flen]; exact hk
  refine ⟨H.net, by rw [sent_len]; exact H.flen, H.hlen, fun i hi => ?_, fun v hv hne => ?_, H.high, H.src, H.snk, fun i c hi hr => ?_⟩
  · have h1 := H.bnd i hi
    rw [sent_at hkf]
    by_cases e : i = k
    · subst e
      rw [if_pos rfl]
      unfold room at a2
      cases b
      · simp only [Bool.false_eq_true, if_false] at a2 ⊢; omega
      · simp only [if_true] at a2 ⊢; omega
    · rw [if_neg e]; exact h1
  · have h1 := H.wait v hv hne
    rw [sent_gone H.net H.flen hk]
    by_cases e : frmN l k b = v
    · rw [e] at a3
      rw [if_pos e]
      split <;> omega
    · rw [if_neg e]
      split <;> omega
  · rw [room_sent hkf] at hr
    by_cases e : i = k
    · subst e
      rw [if_pos rfl] at hr
      by_cases e2 : b = c
      · subst e2; rw [if_pos rfl] at hr; exact H.down i b hi (by omega)
      · have e3 : c = !b := by cases b <;> cases c <;> simp at e2 ⊢
        rw [e3, frm_not, tow_not]
        have := C.high
        omega
    · rw [if_neg e] at hr; exact H.down i c hi hr

/-! ### Lift -/

/-- from a node something could go to another one -/
def StepTo (l : List Arc3) (f : List Int) (v u : Nat) : Prop := ∃ (k : Nat) (b : Bool), k < l.length ∧ frmN l k b = v ∧ towN l k b = u ∧ 0 < room l f k b
structure LiftIs (l : List Arc3) (f h : List Int) (v : Nat) (x : Int) : Prop where
  some : ∃ u, StepTo l f v u ∧ x = ati h u + 1
  least : ∀ u, StepTo l f v u → x ≤ ati h u + 1
structure CanLift (N s t : Nat) (l : List Arc3) (f h : List Int) (v : Nat) (x : Int) : Prop where
  lt : v < N
  busy : BusyN s t l f v
  way : LiftIs l f h v x
  up : ati h v < x
  top : x ≤ 2 * (N : Int)
theorem lift_ok {N s t : Nat} {l : List Arc3} {f h : List Int} (H : PushOk N s t l f h) {v : Nat} {x : Int} (C : CanLift N s t l f h v x) : PushOk N s t l f (h.set v x) := by
  have hvh : v < h.length := by rw [H.hlen]; exact C.lt
  have hv0 := H.high v C.lt
  have hup := C.up
  refine ⟨H.net, H.flen, by rw [List.length_set]; exact H.hlen, H.bnd, H.wait, fun u hu => ?_, ?_, ?_, fun k b hk hr => ?_⟩
  · rw [ati_set hvh]
    split
    · have := C.top; omega
    · exact H.high u hu
  · rw [ati_set hvh, if_neg (fun e => C.busy.1 e.symm)]; exact H.src
  · rw [ati_set hvh, if_neg (fun e => C.busy.2.1 e.symm)]; exact H.snk
  · have h1 := H.down k b hk hr
    rw [ati_set hvh, ati_set hvh]
    by_cases e1 : frmN l k b = v
    · have h2 := C.way.least (towN l k b) ⟨k, b, hk, e1, rfl, hr⟩
      rw [if_pos e1]
      by_cases e2 : towN l k b = v
      · rw [if_pos e2]; omega
      · rw [if_neg e2]; exact h2
    · rw [if_neg e1]
      by_cases e2 : towN l k b = v
      · rw [if_pos e2]; rw [e2] at h1; omega
      · rw [if_neg e2]; exact h1

end Go.Proofs.Ytgmifepfbcgfbaa
