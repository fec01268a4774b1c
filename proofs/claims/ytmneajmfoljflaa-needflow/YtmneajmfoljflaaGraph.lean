/- Contracts of package graph: isNode, checkArc, checkCaps, Check, CheckLong. -/
import Derived.Test.YtmneajmfoljflaaRows
import Derived.Test.YtmneajmfoljflaaBase
namespace Go.Proofs.Ytmneajmfoljflaa
open Go.RowKit
set_option linter.unusedVariables false

def isN (n v : Int) : Bool := decide (0 ≤ v ∧ v < n)

set_option maxHeartbeats 400000 in
theorem isNode_any (n v : Int) (w : World) :
    Calls Try.prog 35 #[.int .i64 n, .int .i64 v] w fun e w' => e = .returned (.bool (isN n v)) ∧ w' = w := by
  by_cases h0 : 0 ≤ v
  · by_cases h1 : v < n
    · go_enter Try.func35, Try.ntmps35
      go_wp2
      go_ret
      exact ⟨by simp [isN, h0, h1], rfl⟩
    · go_enter Try.func35, Try.ntmps35
      go_wp2
      go_ret
      exact ⟨by simp [isN]; omega, rfl⟩
  · go_enter Try.func35, Try.ntmps35
    go_wp2
    go_ret
    exact ⟨by simp [isN]; omega, rfl⟩

/-- the error of an arc -/
def arcErr (n least f t c : Int) : Int :=
  if isN n f && isN n t then (if least ≤ c ∧ c ≤ 10000 then 0 else 1) else 4

set_option maxHeartbeats 400000 in
theorem checkArc_any (n least f t c : Int) (w : World) :
    Calls Try.prog 41 #[.int .i64 n, .agg #[.int .i64 f, .int .i64 t, .int .i64 c], .int .i64 least] w fun e w' =>
      e = .returned (.int .i64 (arcErr n least f t c)) ∧ Below w.heap.size w w' := by
  rcases hf : isN n f with _ | _ <;> rcases ht : isN n t with _ | _ <;> rcases Int.lt_or_le c least with h1 | h1 <;> rcases Int.lt_or_le 10000 c with h2 | h2
  all_goals
    go_enter Try.func41, Try.ntmps41
    go_wp2_with (go_at_call 35; refine (isNode_any _ _ _).mono ?_; rintro e w' ⟨rfl, rfl⟩)
    go_ret
    refine ⟨?_, (Below.refl _ _).alloc (Nat.le_refl _) _⟩
    first
      | (simp [arcErr, hf, ht]; done)
      | (rw [arcErr, hf, ht]; simp; omega)

def arcsErr (n least : Int) : List Arc3 → Int
  | [] => 0
  | a :: r => if arcErr n least a.1 a.2.1 a.2.2 = 0 then arcsErr n least r else arcErr n least a.1 a.2.1 a.2.2

def graphErr (n least : Int) (l : List Arc3) : Int :=
  if n < 1 ∨ 12 < n then 1 else if 60 < l.length then 2 else arcsErr n least l

theorem arcsErr_append (n least : Int) (l m : List Arc3) (h : arcsErr n least l = 0) : arcsErr n least (l ++ m) = arcsErr n least m := by
  induction l with
  | nil => rfl
  | cons a r ih =>
    simp only [arcsErr, List.cons_append] at h ⊢
    by_cases e : arcErr n least a.1 a.2.1 a.2.2 = 0
    · rw [if_pos e] at h ⊢; exact ih h
    · rw [if_neg e] at h; exact absurd h e

theorem arcsErr_at (n least : Int) (l : List Arc3) (k : Nat) (hk : k < l.length) (h : arcsErr n least (l.take k) = 0) (a : Arc3) (ha : at3 l k = a)
    (he : arcErr n least a.1 a.2.1 a.2.2 ≠ 0) : arcsErr n least l = arcErr n least a.1 a.2.1 a.2.2 := by
  have e : l = l.take k ++ (a :: l.drop (k + 1)) := by
    rw [← ha]
    have := List.take_append_drop k l
    rw [List.drop_eq_getElem_cons hk] at this
    simp [at3_lt, hk]
  rw [e, arcsErr_append _ _ _ _ h, arcsErr, if_neg he]

theorem arcsErr_next (n least : Int) (l : List Arc3) (k : Nat) (hk : k < l.length) (h : arcsErr n least (l.take k) = 0) (a : Arc3) (ha : at3 l k = a)
    (he : arcErr n least a.1 a.2.1 a.2.2 = 0) : arcsErr n least (l.take (k + 1)) = 0 := by
  rw [take_snoc3 l k hk, arcsErr_append _ _ _ _ h, ha, arcsErr, if_pos he]
  rfl

set_option maxHeartbeats 400000 in
theorem checkCaps_any (n least : Int) (ao : Option Addr) (cap : Nat) (l : List Arc3) (w : World) (hm : l.length ≤ maxLen) (hA : ArcsAt w ao l) :
    Calls Try.prog 39 #[.agg #[.int .i64 n, .slice ao l.length cap], .int .i64 least] w fun e w' =>
      e = .returned (.int .i64 (graphErr n least l)) ∧ Below w.heap.size w w' := by
  unfold maxLen at hm
  by_cases h1 : n < 1
  · go_enter Try.func39, Try.ntmps39
    go_wp2
    go_ret
    exact ⟨by simp [graphErr, h1], (Below.refl _ _).alloc (Nat.le_refl _) _⟩
  by_cases h2 : 12 < n
  · go_enter Try.func39, Try.ntmps39
    go_wp2
    go_ret
    exact ⟨by simp [graphErr, h2], (Below.refl _ _).alloc (Nat.le_refl _) _⟩
  by_cases h3 : 60 < l.length
  · go_enter Try.func39, Try.ntmps39
    go_wp2
    go_ret
    have hfin : graphErr n least l = 2 := by rw [graphErr, if_neg (by omega), if_pos h3]
    rw [hfin]; exact ⟨rfl, (Below.refl _ _).alloc (Nat.le_refl _) _⟩
  have HG : Hid (graphErr n least l = arcsErr n least l) := by rw [Hid, graphErr, if_neg (by omega), if_neg h3]
  go_enter Try.func39, Try.ntmps39
  go_wp2
  go_loopw [23] (fun i wr => ∃ k : Nat, k ≤ l.length ∧ i = .int .i64 k ∧ Hid (arcsErr n least (l.take k) = 0) ∧ Below (w.heap.size + 1) (w.alloc (.cells #[.int .i64 n, .slice ao l.length cap] 69)) wr) (fun i _ => l.length - (intOf i).toNat)
  case atStart => exact ⟨0, Nat.zero_le _, rfl, rfl, Below.refl _ _⟩
  case round =>
    obtain ⟨k, hk, rfl, hok, hB⟩ := hrel
    have hz := hB.size
    simp at hz
    have hz' : w.heap.size < wr.heap.size := by omega
    by_cases hlt : k < l.length
    · obtain ⟨b, off, rfl, hb, c0, c1, c2⟩ := (hA.alloc (.cells #[.int .i64 n, .slice ao l.length cap] 69)).below hB (by simp) k hlt
      have g0 : wr.cell? ⟨w.heap.size, 0, none⟩ = some (.int .i64 n) := later hB (newest #[.int .i64 n, .slice (some ⟨b, off, none⟩) l.length cap] 69 0) (by omega)
      generalize ha : at3 l k = a at *
      obtain ⟨f, t, c⟩ := a
      have HA : Hid (at3 l k = (f, t, c)) := ha
      clear ha
      simp at c0 c1 c2
      by_cases he : arcErr n least f t c = 0
      · have hn := arcsErr_next n least l k hlt hok (f, t, c) HA he
        have HN : Hid (arcsErr n least (l.take (k + 1)) = 0) := hn
        clear hn
        go_wp2_with (go_at_call 41; refine (checkArc_any _ _ _ _ _ _).mono ?_; rintro e w' ⟨rfl, hb'⟩)
        go_roundw
        case rel => exact ⟨k + 1, by omega, by go_num, HN, (hB.alloc (by omega) _).trans (hb'.mono (by simp; omega))⟩
        case measure => simp [intOf]; omega
      · have hn := arcsErr_at n least l k hlt hok (f, t, c) HA he
        have HN : Hid (graphErr n least l = arcErr n least f t c) := HG.out.trans hn
        clear hn
        have he' : (arcErr n least f t c != 0) = true := by simpa using he
        go_wp2_with (go_at_call 41; refine (checkArc_any _ _ _ _ _ _).mono ?_; rintro e w' ⟨rfl, hb'⟩)
        go_ret
        rw [HN.out]
        exact ⟨rfl, below_in ((hB.alloc (by omega) _).trans (hb'.mono (by simp; omega))) (by omega)⟩
    · have hkl : k = l.length := by omega
      subst hkl
      rw [List.take_length] at hok
      go_wp2
      go_ret
      rw [HG.out, hok.out]
      exact ⟨rfl, below_in hB (by omega)⟩


set_option maxHeartbeats 400000 in
theorem Check_any (n : Int) (ao : Option Addr) (cap : Nat) (l : List Arc3) (w : World) (hm : l.length ≤ maxLen) (hA : ArcsAt w ao l) :
    Calls Try.prog 34 #[.agg #[.int .i64 n, .slice ao l.length cap]] w fun e w' =>
      e = .returned (.int .i64 (graphErr n 0 l)) ∧ Below w.heap.size w w' := by
  go_enter Try.func34, Try.ntmps34
  go_wp2_with (go_at_call 39; refine (checkCaps_any _ _ _ _ _ _ hm (hA.alloc _)).mono ?_; rintro e w' ⟨rfl, hb'⟩)
  go_ret
  exact ⟨rfl, below_in hb' (by simp)⟩

end Go.Proofs.Ytmneajmfoljflaa
