/- A net in memory; contracts of graph.CheckNet and of the document's own NetErr, Gone and FlowErr. -/
import Derived.Test.YtmneajmfoljflaaFlM
import Derived.Test.YtmneajmfoljflaaRefErr
import Derived.Test.YtmneajmfoljflaaGErr
namespace Go.Proofs.Ytmneajmfoljflaa
open Go.RowKit
set_option linter.unusedVariables false

/-- a struct of four cells in a block of its own -/
theorem blk4 {w : World} {b : Nat} {x y z u : Value} {t : TypeId} (h : w.heap[b]? = some (.cells #[x, y, z, u] t (0, 0))) :
    w.cell? ⟨b, 0, none⟩ = some x ∧ w.cell? ⟨b, 1, none⟩ = some y ∧ w.cell? ⟨b, 2, none⟩ = some z ∧ w.cell? ⟨b, 3, none⟩ = some u := by
  have r : w.rowIs b t 4 (fun j => if j = 0 then x else if j = 1 then y else if j = 2 then z else u) := ⟨_, h, rfl, fun i hi => by
    match i, hi with
    | 0, _ => rfl
    | 1, _ => rfl
    | 2, _ => rfl
    | 3, _ => rfl⟩
  exact ⟨r.cell (i := 0) (by omega), r.cell (i := 1) (by omega), r.cell (i := 2) (by omega), r.cell (i := 3) (by omega)⟩

theorem blk4z {w : World} {b : Nat} {x y z u : Value} {t : TypeId} (h : w.heap[b]? = some (.cells #[x, y, z, u] t (0, 0))) :
    w.frozen? ⟨b, 0, none⟩ = false ∧ w.frozen? ⟨b, 1, none⟩ = false ∧ w.frozen? ⟨b, 2, none⟩ = false ∧ w.frozen? ⟨b, 3, none⟩ = false := by
  have r : w.rowIs b t 4 (fun j => if j = 0 then x else if j = 1 then y else if j = 2 then z else u) := ⟨_, h, rfl, fun i hi => by
    match i, hi with
    | 0, _ => rfl
    | 1, _ => rfl
    | 2, _ => rfl
    | 3, _ => rfl⟩
  exact ⟨r.frozen 0, r.frozen 1, r.frozen 2, r.frozen 3⟩

set_option maxHeartbeats 400000 in
theorem CheckNet_any (n s t : Int) (ao : Option Addr) (cap : Nat) (l : List Arc3) (w : World) (hm : l.length ≤ maxLen) (hA : ArcsAt w ao l) :
    Calls Try.prog 26 #[.agg #[.int .i64 n, .int .i64 s, .int .i64 t, .slice ao l.length cap]] w fun e w' =>
      e = .returned (.int .i64 (netErr n s t l)) ∧ Below w.heap.size w w' := by
  have hA0 := hA.alloc (.cells #[.int .i64 n, .int .i64 s, .int .i64 t, .slice ao l.length cap] 43)
  have x0 := blk_new w (.cells #[.int .i64 n, .int .i64 s, .int .i64 t, .slice ao l.length cap] 43)
  have HE : Hid (netErr n s t l = if graphErr n 0 l ≠ 0 then graphErr n 0 l else if ¬ ((0 ≤ s ∧ s < n) ∧ (0 ≤ t ∧ t < n)) then 4 else if s = t then 3 else 0) := rfl
  have hc := Check_any n ao cap l _ hm hA0
  generalize graphErr n 0 l = E at *
  clear hA hA0
  go_enter Try.func26, Try.ntmps26
  go_wp2_with fail
  refine hc.mono ?_
  rintro e w1 ⟨rfl, hb1⟩
  simp only [World.size_alloc] at hb1
  have hz1 := hb1.size
  simp only [World.size_alloc] at hz1
  have x1 := blk_below hb1 x0 (by omega)
  obtain ⟨r0, r1, r2, r3⟩ := blk4 x1
  have HB : Hid (Below w.heap.size w w1) := below_in hb1 (by omega)
  clear hc hb1 x0 x1
  by_cases hE : E = 0
  · subst hE
    have h0 : ((0 : Int) != 0) = false := rfl
    rw [if_neg (by simp)] at HE
    by_cases hs : 0 ≤ s ∧ s < n
    · have e1 : isN n s = true := decide_eq_true hs
      by_cases ht : 0 ≤ t ∧ t < n
      · have e2 : isN n t = true := decide_eq_true ht
        rw [if_neg (fun c => c ⟨hs, ht⟩)] at HE
        by_cases hst : s = t
        · subst hst
          rw [if_pos rfl] at HE
          have e3 : (s == s) = true := by simp
          clear hs ht
          go_wp2_with (go_at_call 35; refine (isNode_any _ _ _).mono ?_; rintro e w' ⟨rfl, hw⟩; rw [hw]; clear hw)
          go_ret
          rw [HE.out]
          exact ⟨rfl, HB.out⟩
        · rw [if_neg hst] at HE
          have e3 : (s == t) = false := by simpa using hst
          clear hs ht hst
          go_wp2_with (go_at_call 35; refine (isNode_any _ _ _).mono ?_; rintro e w' ⟨rfl, hw⟩; rw [hw]; clear hw)
          go_ret
          rw [HE.out]
          exact ⟨rfl, HB.out⟩
      · have e2 : isN n t = false := decide_eq_false ht
        rw [if_pos (fun c => ht c.2)] at HE
        clear hs ht
        go_wp2_with (go_at_call 35; refine (isNode_any _ _ _).mono ?_; rintro e w' ⟨rfl, hw⟩; rw [hw]; clear hw)
        go_ret
        rw [HE.out]
        exact ⟨rfl, HB.out⟩
    · have e1 : isN n s = false := decide_eq_false hs
      rw [if_pos (fun c => hs c.1)] at HE
      clear hs
      go_wp2_with (go_at_call 35; refine (isNode_any _ _ _).mono ?_; rintro e w' ⟨rfl, hw⟩; rw [hw]; clear hw)
      go_ret
      rw [HE.out]
      exact ⟨rfl, HB.out⟩
  · have hE' : (E != 0) = true := by simpa using hE
    rw [if_pos hE] at HE
    clear hE
    go_wp2
    go_ret
    rw [HE.out]
    exact ⟨rfl, HB.out⟩



end Go.Proofs.Ytmneajmfoljflaa
