/- A net in memory; contracts of graph.CheckNet and of the document's own NetErr, Gone and FlowErr. -/
import Derived.Test.YtlfhnhfhaifchaaFlM
import Derived.Test.YtlfhnhfhaifchaaRefErr
import Derived.Test.YtlfhnhfhaifchaaGErr
namespace Go.Proofs.Ytlfhnhfhaifchaa
open Go.RowKit
set_option linter.unusedVariables false

/-- a struct of four cells in a block of its own -/
theorem blk4 {w : World} {b : Nat} {x y z u : Value} {t : TypeId} (h : w.heap[b]? = some (.cells #[x, y, z, u] t (0, 0))) :
    w.cell? ⟨b, 0, none⟩ = some x ∧ w.cell? ⟨b, 1, none⟩ = some y ∧ w.cell? ⟨b, 2, none⟩ = some z ∧ w.cell? ⟨b, 3, none⟩ = some u := by
  have r : w.rowIs b t 4 (fun j => if j = 0 then x else if j = 1 then y else if j = 2 then z else u) := ⟨_, h, rfl, fun i hi => by
    match i, hi with
    | 0, _ => rfl
    | 1, _ => rfl
    | 2, _ => rfl
    | 3, _ => rfl⟩
  exact ⟨r.cell (i := 0) (by omega), r.cell (i := 1) (by omega), r.cell (i := 2) (by omega), r.cell (i := 3) (by omega)⟩

theorem blk4z {w : World} {b : Nat} {x y z u : Value} {t : TypeId} (h : w.heap[b]? = some (.cells #[x, y, z, u] t (0, 0))) :
    w.frozen? ⟨b, 0, none⟩ = false ∧ w.frozen? ⟨b, 1, none⟩ = false ∧ w.frozen? ⟨b, 2, none⟩ = false ∧ w.frozen? ⟨b, 3, none⟩ = false := by
  have r : w.rowIs b t 4 (fun j => if j = 0 then x else if j = 1 then y else if j = 2 then z else u) := ⟨_, h, rfl, fun i hi => by
    match i, hi with
    | 0, _ => rfl
    | 1, _ => rfl
    | 2, _ => rfl
    | 3, _ => rfl⟩
  exact ⟨r.frozen 0, r.frozen 1, r.frozen 2, r.frozen 3⟩

set_option maxHeartbeats 400000 in
theorem CheckNet_any (n s t : Int) (ao : Option Addr) (cap : Nat) (l : List Arc3) (w : World) (hm : l.length ≤ maxLen) (hA : ArcsAt w ao l) :
    Calls Try.prog 16 #[.agg #[.int .i64 n, .int .i64 s, .int .i64 t, .slice ao l.length cap]] w fun e w' =>
      e = .returned (.int .i64 (netErr n s t l)) ∧ Below w.heap.size w w' := by
  have hA0 := hA.alloc (.cells #[.int .i64 n, .int .i64 s, .int .i64 t, .slice ao l.length cap] 24)
  have x0 := blk_new w (.cells #[.int .i64 n, .int .i64 s, .int .i64 t, .slice ao l.length cap] 24)
  have HE : Hid (netErr n s t l = if graphErr n 0 l ≠ 0 then graphErr n 0 l else if ¬ ((0 ≤ s ∧ s < n) ∧ (0 ≤ t ∧ t < n)) then 4 else if s = t then 3 else 0) := rfl
  have hc := Check_any n ao cap l _ hm hA0
  generalize graphErr n 0 l = E at *
  clear hA hA0
  go_enter Try.func16, Try.ntmps16
  go_wp2_with fail
  refine hc.mono ?_
  rintro e w1 ⟨rfl, hb1⟩
  simp only [World.size_alloc] at hb1
  have hz1 := hb1.size
  simp only [World.size_alloc] at hz1
  have x1 := blk_below hb1 x0 (by omega)
  obtain ⟨r0, r1, r2, r3⟩ := blk4 x1
  have HB : Hid (Below w.heap.size w w1) := below_in hb1 (by omega)
  clear hc hb1 x0 x1
  by_cases hE : E = 0
  · subst hE
    have h0 : ((0 : Int) != 0) = false := rfl
    rw [if_neg (by simp)] at HE
    by_cases hs : 0 ≤ s ∧ s < n
    · have e1 : isN n s = true := decide_eq_true hs
      by_cases ht : 0 ≤ t ∧ t < n
      · have e2 : isN n t = true := decide_eq_true ht
        rw [if_neg (fun c => c ⟨hs, ht⟩)] at HE
        by_cases hst : s = t
        · subst hst
          rw [if_pos rfl] at HE
          have e3 : (s == s) = true := by simp
          clear hs ht
          go_wp2_with (go_at_call 32; refine (isNode_any _ _ _).mono ?_; rintro e w' ⟨rfl, hw⟩; rw [hw]; clear hw)
          go_ret
          rw [HE.out]
          exact ⟨rfl, HB.out⟩
        · rw [if_neg hst] at HE
          have e3 : (s == t) = false := by simpa using hst
          clear hs ht hst
          go_wp2_with (go_at_call 32; refine (isNode_any _ _ _).mono ?_; rintro e w' ⟨rfl, hw⟩; rw [hw]; clear hw)
          go_ret
          rw [HE.out]
          exact ⟨rfl, HB.out⟩
      · have e2 : isN n t = false := decide_eq_false ht
        rw [if_pos (fun c => ht c.2)] at HE
        clear hs ht
        go_wp2_with (go_at_call 32; refine (isNode_any _ _ _).mono ?_; rintro e w' ⟨rfl, hw⟩; rw [hw]; clear hw)
        go_ret
        rw [HE.out]
        exact ⟨rfl, HB.out⟩
    · have e1 : isN n s = false := decide_eq_false hs
      rw [if_pos (fun c => hs c.1)] at HE
      clear hs
      go_wp2_with (go_at_call 32; refine (isNode_any _ _ _).mono ?_; rintro e w' ⟨rfl, hw⟩; rw [hw]; clear hw)
      go_ret
      rw [HE.out]
      exact ⟨rfl, HB.out⟩
  · have hE' : (E != 0) = true := by simpa using hE
    rw [if_pos hE] at HE
    clear hE
    go_wp2
    go_ret
    rw [HE.out]
    exact ⟨rfl, HB.out⟩

set_option maxHeartbeats 2000000 in
theorem refNetErr_any (n s t : Int) (ao : Option Addr) (cap : Nat) (l : List Arc3) (w : World) (hm : l.length ≤ maxLen) (hA : ArcsAt w ao l) :
    Calls Try.prog 8 #[.agg #[.int .i64 n, .int .i64 s, .int .i64 t, .slice ao l.length cap]] w fun e w' =>
      e = .returned (.int .i64 (netErr n s t l)) ∧ Below w.heap.size w w' := by
  have hA0 := hA.alloc (.cells #[.int .i64 n, .int .i64 s, .int .i64 t, .slice ao l.length cap] 24)
  have x0 := blk_new w (.cells #[.int .i64 n, .int .i64 s, .int .i64 t, .slice ao l.length cap] 24)
  have HE : Hid (netErr n s t l = if graphErr n 0 l ≠ 0 then graphErr n 0 l else if ¬ ((0 ≤ s ∧ s < n) ∧ (0 ≤ t ∧ t < n)) then 4 else if s = t then 3 else 0) := rfl
  have hc := refGraphErr_any n 0 ao cap l _ hm hA0
  generalize graphErr n 0 l = E at *
  clear hA hA0
  go_enter Try.func8, Try.ntmps8
  go_wp2_with fail
  refine hc.mono ?_
  rintro e w1 ⟨rfl, hb1⟩
  simp only [World.size_alloc] at hb1
  have hz1 := hb1.size
  simp only [World.size_alloc] at hz1
  have x1 := blk_below hb1 x0 (by omega)
  obtain ⟨r0, r1, r2, r3⟩ := blk4 x1
  have HB : Hid (Below w.heap.size w w1) := below_in hb1 (by omega)
  clear hc hb1 x0 x1
  have h40 : ((4 : Int) == 0) = false := rfl
  have h00 : ((0 : Int) == 0) = true := rfl
  by_cases hE : E = 0
  · subst hE
    rw [if_neg (by simp)] at HE
    rcases Int.lt_trichotomy s t with q1 | q1 | q1
    · have q2 : ¬ t < s := by omega
      have e3 : (s == t) = false := by simp; omega
      by_cases hs : 0 ≤ s
      · by_cases ht : t < n
        · rw [if_neg (fun c => c ⟨⟨hs, by omega⟩, by omega, ht⟩), if_neg (by omega)] at HE
          go_wp2
          go_ret
          rw [HE.out]
          exact ⟨rfl, HB.out⟩
        · rw [if_pos (fun c => ht c.2.2)] at HE
          go_wp2
          go_ret
          rw [HE.out]
          exact ⟨rfl, HB.out⟩
      · rw [if_pos (fun c => hs c.1.1)] at HE
        go_wp2
        go_ret
        rw [HE.out]
        exact ⟨rfl, HB.out⟩
    · subst q1
      have e3 : (s == s) = true := by simp
      by_cases hs : 0 ≤ s
      · by_cases ht : s < n
        · rw [if_neg (fun c => c ⟨⟨hs, ht⟩, hs, ht⟩), if_pos rfl] at HE
          go_wp2
          go_ret
          rw [HE.out]
          exact ⟨rfl, HB.out⟩
        · rw [if_pos (fun c => ht c.2.2)] at HE
          go_wp2
          go_ret
          rw [HE.out]
          exact ⟨rfl, HB.out⟩
      · rw [if_pos (fun c => hs c.1.1)] at HE
        go_wp2
        go_ret
        rw [HE.out]
        exact ⟨rfl, HB.out⟩
    · have q2 : ¬ s < t := by omega
      have e3 : (s == t) = false := by simp; omega
      by_cases ht : 0 ≤ t
      · by_cases hs : s < n
        · rw [if_neg (fun c => c ⟨⟨by omega, hs⟩, ht, by omega⟩), if_neg (by omega)] at HE
          go_wp2
          go_ret
          rw [HE.out]
          exact ⟨rfl, HB.out⟩
        · rw [if_pos (fun c => hs c.1.2)] at HE
          go_wp2
          go_ret
          rw [HE.out]
          exact ⟨rfl, HB.out⟩
      · rw [if_pos (fun c => ht c.2.1)] at HE
        go_wp2
        go_ret
        rw [HE.out]
        exact ⟨rfl, HB.out⟩
  · have hE' : (E == 0) = false := by simpa using hE
    rw [if_pos hE] at HE
    clear hE
    go_wp2
    go_ret
    rw [HE.out]
    exact ⟨rfl, HB.out⟩

set_option maxHeartbeats 2000000 in
theorem refGone_any (n s t v : Int) (ao af : Option Addr) (cap capf : Nat) (l : List Arc3) (f : List Int) (w : World) (hl60 : l.length ≤ 60) (hfl : f.length = l.length) (hA : ArcsAt w ao l) (hF : IntsAt w af f) (hb : ∀ k, k < l.length → 0 ≤ ati f k ∧ ati f k ≤ 10000) :
    Calls Try.prog 21 #[.agg #[.int .i64 n, .int .i64 s, .int .i64 t, .slice ao l.length cap], .slice af l.length capf, .int .i64 v] w fun e w' =>
      e = .returned (.int .i64 (gone l (ati f) v)) ∧ Below w.heap.size w w' := by
  have hA0 := hA.alloc (.cells #[.int .i64 n, .int .i64 s, .int .i64 t, .slice ao l.length cap] 24)
  have hF0 := hF.alloc (.cells #[.int .i64 n, .int .i64 s, .int .i64 t, .slice ao l.length cap] 24)
  have HF : Hid (IntsAt (w.alloc (.cells #[.int .i64 n, .int .i64 s, .int .i64 t, .slice ao l.length cap] 24)) af f) := hF0
  have HA : Hid (ArcsAt (w.alloc (.cells #[.int .i64 n, .int .i64 s, .int .i64 t, .slice ao l.length cap] 24)) ao l) := hA0
  have Hfl : Hid (f.length = l.length) := hfl
  have HG : Hid (gone l (ati f) v = goneK l (ati f) v l.length) := rfl
  have HD : Hid (∀ k, k ≤ l.length → -600000 ≤ goneK l (ati f) v k ∧ goneK l (ati f) v k ≤ 600000) := fun k hk => by
    have := goneK_bound (l := l) (f := ati f) (v := v) (C := 10000) (by omega) k fun i hi => hb i (by omega)
    omega
  clear hA hA0 hF hF0 hfl
  go_enter Try.func21, Try.ntmps21
  go_wp2
  go_loopw [7, 13] (fun u i wr => ∃ k : Nat, k ≤ l.length ∧ i = .int .i64 k ∧ u = .int .i64 (goneK l (ati f) v k) ∧ Below (w.heap.size + 1) (w.alloc (.cells #[.int .i64 n, .int .i64 s, .int .i64 t, .slice ao l.length cap] 24)) wr) (fun _ i _ => l.length - (intOf i).toNat)
  case atStart => exact ⟨0, Nat.zero_le _, rfl, rfl, Below.refl _ _⟩
  case round =>
    obtain ⟨k, hk, rfl, rfl, hB⟩ := hrel
    have hz := hB.size
    simp only [World.size_alloc] at hz
    by_cases hlt : k < l.length
    · obtain ⟨b, off, rfl, hbb, c0, c1, c2⟩ := HA.out.below hB (by simp) k hlt
      obtain ⟨b2, o2, rfl, hb2, d0⟩ := HF.out.below hB (by simp) k (by rw [Hfl.out]; exact hlt)
      have hbd := hb k hlt
      have hD := HD.out k hk
      have HN : Hid (goneK l (ati f) v (k + 1) = goneK l (ati f) v k + ((if (at3 l k).1 = v then ati f k else 0) - (if (at3 l k).2.1 = v then ati f k else 0))) := goneK_succ _ _ _ _
      generalize goneK l (ati f) v k = x at *
      generalize (at3 l k).1 = p at *
      generalize (at3 l k).2.1 = q at *
      generalize ati f k = y at *
      have w1 : IntKind.i64.wrap (x + y) = x + y := by rw [IntKind.wrap_i64]; omega
      have w2 : IntKind.i64.wrap (x - y) = x - y := by rw [IntKind.wrap_i64]; omega
      have w3 : IntKind.i64.wrap (x + y - y) = x + y - y := by rw [IntKind.wrap_i64]; omega
      by_cases e1 : p = v
      · have e1' : (p == v) = true := by simpa using e1
        rw [if_pos e1] at HN
        by_cases e2 : q = v
        · have e2' : (q == v) = true := by simpa using e2
          rw [if_pos e2] at HN
          clear e1 e2
          go_wp2
          go_roundw
          case rel => exact ⟨k + 1, by omega, by go_num, by rw [HN.out]; go_num, hB.alloc (by omega) _⟩
          case measure => simp [intOf]; omega
        · have e2' : (q == v) = false := by simpa using e2
          rw [if_neg e2] at HN
          clear e1 e2
          go_wp2
          go_roundw
          case rel => exact ⟨k + 1, by omega, by go_num, by rw [HN.out]; go_num, hB.alloc (by omega) _⟩
          case measure => simp [intOf]; omega
      · have e1' : (p == v) = false := by simpa using e1
        rw [if_neg e1] at HN
        by_cases e2 : q = v
        · have e2' : (q == v) = true := by simpa using e2
          rw [if_pos e2] at HN
          clear e1 e2
          go_wp2
          go_roundw
          case rel => exact ⟨k + 1, by omega, by go_num, by rw [HN.out]; go_num, hB.alloc (by omega) _⟩
          case measure => simp [intOf]; omega
        · have e2' : (q == v) = false := by simpa using e2
          rw [if_neg e2] at HN
          clear e1 e2
          go_wp2
          go_roundw
          case rel => exact ⟨k + 1, by omega, by go_num, by rw [HN.out]; go_num, hB.alloc (by omega) _⟩
          case measure => simp [intOf]; omega
    · have hkk : l.length = k := by omega
      subst hkk
      go_wp2
      go_ret
      rw [HG.out]
      exact ⟨rfl, below_in hB (by omega)⟩

end Go.Proofs.Ytlfhnhfhaifchaa
