/- Plain facts on a search node by node: who is done, who waits. -/
import Derived.Test.YthlcbhbjngcnkaaMostF
namespace Go.Proofs.Ythlcbhbjngcnkaa
set_option linter.unusedVariables false

structure QInv (N s : Nat) (l : List Arc3) (f : Nat → Int) (G : Nat → Int) (D Q : List Nat) : Prop where
  tree : ∃ rk, TreeIs N s l f G rk
  nod : (D ++ Q).Nodup
  lt : ∀ v ∈ D ++ Q, v < N
  all : ∀ v, v < N → (0 < rmv G v ↔ v ∈ D ++ Q)
/-- between two nodes -/
structure QOut (N s : Nat) (l : List Arc3) (f : Nat → Int) (G : Nat → Int) (D Q : List Nat) : Prop where
  q : QInv N s l f G D Q
  done : ∀ u ∈ D, ClosedK l f G u l.length
/-- at a node, behind k arcs -/
structure QIn (N s : Nat) (l : List Arc3) (f : Nat → Int) (G : Nat → Int) (D : List Nat) (v k : Nat) (Q : List Nat) : Prop where
  q : QInv N s l f G (D ++ [v]) Q
  done : ∀ u ∈ D, ClosedK l f G u l.length
  here : ClosedK l f G v k

theorem QInv.few {N s : Nat} {l : List Arc3} {f : Nat → Int} {G : Nat → Int} {D Q : List Nat} (h : QInv N s l f G D Q) : D.length + Q.length ≤ N := by
  have := List.Nodup.length_le_of_subset (l₂ := List.range N) h.nod (fun x hx => List.mem_range.2 (h.lt x hx))
  simpa using this
theorem QInv.start {N s : Nat} {l : List Arc3} {f : Nat → Int} (hs : s < N) : QInv N s l f (fun j => if j = s * 4 + 3 then 10000 else 0) [] [s] := by
  have hr : ∀ v, rmv (fun j => if j = s * 4 + 3 then 10000 else 0) v = if v = s then 10000 else 0 := fun v => by
    show (if v * 4 + 3 = s * 4 + 3 then (10000 : Int) else 0) = _
    by_cases e : v = s
    · subst e; rw [if_pos rfl, if_pos rfl]
    · rw [if_neg (by omega), if_neg e]
  refine ⟨⟨fun _ => 0, by rw [hr, if_pos rfl]; omega, fun v hv => by rw [hr]; split <;> omega, fun v hv hne hp => ?_⟩, by simp, fun v hv => by simp at hv; omega, fun v hv => ?_⟩
  · rw [hr, if_neg hne] at hp; omega
  · rw [hr]
    by_cases e : v = s <;> simp [e]
/-- the next one -/
theorem QOut.take {N s : Nat} {l : List Arc3} {f : Nat → Int} {G : Nat → Int} {D Q : List Nat} {v : Nat} (h : QOut N s l f G D (v :: Q)) : v < N ∧ 0 < rmv G v ∧ QIn N s l f G D v 0 Q := by
  have e : D ++ [v] ++ Q = D ++ v :: Q := by simp
  have hv : v ∈ D ++ v :: Q := by simp
  refine ⟨h.q.lt v hv, (h.q.all v (h.q.lt v hv)).2 hv, ⟨h.q.tree, by rw [e]; exact h.q.nod, by rw [e]; exact h.q.lt, by rw [e]; exact h.q.all⟩, h.done, fun i hi => absurd hi (Nat.not_lt_zero _)⟩
theorem QIn.out {N s : Nat} {l : List Arc3} {f : Nat → Int} {G : Nat → Int} {D Q : List Nat} {v : Nat} (h : QIn N s l f G D v l.length Q) : QOut N s l f G (D ++ [v]) Q :=
  ⟨h.q, fun u hu => by
    rcases List.mem_append.1 hu with hu | hu
    · exact h.done u hu
    · rw [List.mem_singleton] at hu; subst hu; exact h.here⟩
theorem QOut.found {N s : Nat} {l : List Arc3} {f : Nat → Int} {G : Nat → Int} {D : List Nat} (h : QOut N s l f G D []) : Found N s l f G :=
  ⟨h.q.tree, fun v hv hp => h.done v (by have := (h.q.all v hv).1 hp; simpa using this)⟩
theorem QIn.pos {N s : Nat} {l : List Arc3} {f : Nat → Int} {G : Nat → Int} {D Q : List Nat} {v k : Nat} (h : QIn N s l f G D v k Q) : v < N ∧ 0 < rmv G v := by
  have hv : v ∈ D ++ [v] ++ Q := by simp
  exact ⟨h.q.lt v hv, (h.q.all v (h.q.lt v hv)).2 hv⟩
/-- a node more -/
theorem QIn.add {N s : Nat} {l : List Arc3} {f : Nat → Int} {G : Nat → Int} {D Q : List Nat} {v k u : Nat} {sg room : Int} (h : QIn N s l f G D v k Q) (hu : u < N) (hk : k < l.length) (h0 : ¬ 0 < rmv G u) (hr : 0 < room)
    (hst : (sg = 1 ∧ (at3 l k).1 = v ∧ (at3 l k).2.1 = u ∧ room ≤ (at3 l k).2.2 - f k) ∨ (sg = -1 ∧ (at3 l k).1 = u ∧ (at3 l k).2.1 = v ∧ room ≤ f k)) :
    QIn N s l f (putS G u v k sg (min room (rmv G v))) D v k (Q ++ [u]) ∧ 0 < rmv (putS G u v k sg (min room (rmv G v))) u ∧ (∀ x, 0 < rmv G x → 0 < rmv (putS G u v k sg (min room (rmv G v))) x) := by
  obtain ⟨hv, hp⟩ := h.pos
  obtain ⟨rk, hT⟩ := h.q.tree
  have hm : 0 < min room (rmv G v) := by omega
  have hg : ∀ x, 0 < rmv G x → 0 < rmv (putS G u v k sg (min room (rmv G v))) x := fun x hx => rmv_grows hm hx
  have hnew : u ∉ D ++ [v] ++ Q := fun c => h0 ((h.q.all u hu).2 c)
  refine ⟨⟨⟨⟨_, hT.add hu hv hk h0 hp hr hst⟩, ?_, fun x hx => ?_, fun x hx => ?_⟩, fun x hx => (h.done x hx).grows hg, h.here.grows hg⟩, by rw [putS_3, if_pos rfl]; exact hm, hg⟩
  · rw [← List.append_assoc, List.nodup_append]
    refine ⟨h.q.nod, by simp, fun a ha b hb => ?_⟩
    rw [List.mem_singleton] at hb
    subst hb
    exact fun e => hnew (e ▸ ha)
  · rw [← List.append_assoc] at hx
    rcases List.mem_append.1 hx with hx | hx
    · exact h.q.lt x hx
    · rw [List.mem_singleton] at hx; subst hx; exact hu
  · rw [putS_3, ← List.append_assoc, List.mem_append, ← h.q.all x hx, List.mem_singleton]
    by_cases e : x = u
    · subst e; simp [hm]
    · rw [if_neg e]; simp [e]
theorem QIn.next {N s : Nat} {l : List Arc3} {f : Nat → Int} {G : Nat → Int} {D Q : List Nat} {v k : Nat} (h : QIn N s l f G D v k Q) (h1 : (at3 l k).1 = v → 0 < rmv G (at3 l k).2.1.toNat ∨ f k = (at3 l k).2.2) (h2 : (at3 l k).2.1 = v → 0 < rmv G (at3 l k).1.toNat ∨ f k = 0) : QIn N s l f G D v (k + 1) Q :=
  ⟨h.q, h.done, h.here.next h1 h2⟩

end Go.Proofs.Ythlcbhbjngcnkaa
