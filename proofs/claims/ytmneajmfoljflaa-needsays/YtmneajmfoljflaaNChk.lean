/- Package need: isNode, checkArc, Check. -/
import Derived.Test.YtmneajmfoljflaaNeedC
namespace Go.Proofs.Ytmneajmfoljflaa
open Go.RowKit
set_option linter.unusedVariables false

theorem needs_from (n : Int) (l : List Need4) (k : Nat) (hk : k < l.length) : needsErr n (l.drop k) = if need1 n (at4 l k) = 0 then needsErr n (l.drop (k + 1)) else need1 n (at4 l k) := by
  rw [List.drop_eq_getElem_cons hk, ← at4_lt l k hk]
  rfl

set_option maxHeartbeats 400000 in
theorem nIsNode_any (n v : Int) (w : World) :
    Calls Try.prog 32 #[.int .i64 n, .int .i64 v] w fun e w' => e = .returned (.bool (decide (0 ≤ v ∧ v < n))) ∧ w' = w := by
  by_cases h0 : 0 ≤ v
  · by_cases h1 : v < n
    · go_enter Try.func32, Try.ntmps32
      go_wp2
      go_ret
      exact ⟨by simp [h0, h1], rfl⟩
    · go_enter Try.func32, Try.ntmps32
      go_wp2
      go_ret
      exact ⟨by simp; omega, rfl⟩
  · go_enter Try.func32, Try.ntmps32
    go_wp2
    go_ret
    exact ⟨by simp; omega, rfl⟩

set_option maxHeartbeats 1000000 in
theorem nCheckArc_any (n f t lo c : Int) (w : World) :
    Calls Try.prog 23 #[.int .i64 n, .agg #[.int .i64 f, .int .i64 t, .int .i64 lo, .int .i64 c]] w fun e w' =>
      e = .returned (.int .i64 (need1 n (f, t, lo, c))) ∧ Below w.heap.size w w' := by
  rcases hf : decide (0 ≤ f ∧ f < n) with _ | _ <;> rcases ht : decide (0 ≤ t ∧ t < n) with _ | _ <;> rcases Int.lt_or_le lo 0 with h1 | h1 <;> rcases Int.lt_or_le c lo with h2 | h2 <;> rcases Int.lt_or_le 333 c with h3 | h3
  all_goals
    go_enter Try.func23, Try.ntmps23
    go_wp2_with (go_at_call 32; refine (nIsNode_any _ _ _).mono ?_; rintro e w' ⟨rfl, rfl⟩)
  all_goals (try (exfalso; omega))
  all_goals
    go_ret
    refine ⟨?_, (Below.refl _ _).alloc (Nat.le_refl _) _⟩
    simp only [decide_eq_true_eq, decide_eq_false_iff_not] at hf ht
    rw [show need1 n (f, t, lo, c) = if (0 ≤ f ∧ f < n) ∧ (0 ≤ t ∧ t < n) then (if 0 ≤ lo ∧ lo ≤ c ∧ c ≤ 333 then 0 else 1) else 4 from rfl]
    first
      | (rw [if_neg (show ¬ ((0 ≤ f ∧ f < n) ∧ (0 ≤ t ∧ t < n)) from fun k => hf k.1)]; rfl)
      | (rw [if_neg (show ¬ ((0 ≤ f ∧ f < n) ∧ (0 ≤ t ∧ t < n)) from fun k => ht k.2)]; rfl)
      | (rw [if_pos (show (0 ≤ f ∧ f < n) ∧ (0 ≤ t ∧ t < n) from ⟨hf, ht⟩), if_pos (show 0 ≤ lo ∧ lo ≤ c ∧ c ≤ 333 from ⟨h1, h2, h3⟩)]; rfl)
      | (rw [if_pos (show (0 ≤ f ∧ f < n) ∧ (0 ≤ t ∧ t < n) from ⟨hf, ht⟩), if_neg (show ¬ (0 ≤ lo ∧ lo ≤ c ∧ c ≤ 333) by omega)]; rfl)

set_option maxHeartbeats 1000000 in
theorem NCheck_any : NCheckC := by
  intro n ao cap l w hX
  have hm := hX.len
  unfold maxLen at hm
  by_cases h1 : n < 1
  · have hfin : needErr n l = 1 := by rw [needErr, if_pos (Or.inl h1)]
    rw [hfin]
    clear hfin hX
    go_enter Try.func11, Try.ntmps11
    go_wp2
    go_ret
    exact ⟨Below.refl _ _, rfl⟩
  by_cases h2 : 10 < n
  · have hfin : needErr n l = 1 := by rw [needErr, if_pos (Or.inr h2)]
    rw [hfin]
    clear hfin hX
    go_enter Try.func11, Try.ntmps11
    go_wp2
    go_ret
    exact ⟨Below.refl _ _, rfl⟩
  by_cases h3 : 30 < l.length
  · have hfin : needErr n l = 2 := by rw [needErr, if_neg (by omega), if_pos h3]
    rw [hfin]
    clear hfin hX
    go_enter Try.func11, Try.ntmps11
    go_wp2
    go_ret
    exact ⟨Below.refl _ _, rfl⟩
  have HX : Hid (NeedsIn w ao cap l) := hX
  have HG : Hid (needErr n l = needsErr n (l.drop 0)) := by rw [Hid, needErr, if_neg (by omega), if_neg h3]; rfl
  clear hX
  go_enter Try.func11, Try.ntmps11
  go_wp2
  go_loopw [19] (fun i wr => ∃ k : Nat, k ≤ l.length ∧ i = .int .i64 k ∧ Hid (needErr n l = needsErr n (l.drop k)) ∧ Hid (Below w.heap.size w wr)) (fun i _ => l.length - (intOf i).toNat)
  case atStart => exact ⟨0, Nat.zero_le _, rfl, HG, Below.refl _ _⟩
  case round =>
    obtain ⟨k, hk, rfl, HD, HB⟩ := hrel
    have hz := HB.out.size
    by_cases hlt : k < l.length
    · have HK : Hid (k + 1 ≤ l.length) := hlt
      obtain ⟨b, off, rfl, hb, c0, c1, c2, c3⟩ := HX.out.needs.below HB.out (Nat.le_refl _) k hlt
      have hstep := needs_from n l k hlt
      obtain ⟨a, ha⟩ : ∃ a, at4 l k = a := ⟨_, rfl⟩
      rw [ha] at hstep c0 c1 c2 c3
      obtain ⟨f, t, lo, c⟩ := a
      simp only at c0 c1 c2 c3
      obtain ⟨E, hE⟩ : ∃ E, need1 n (f, t, lo, c) = E := ⟨_, rfl⟩
      have hq : ∀ W, Calls Try.prog 23 #[.int .i64 n, .agg #[.int .i64 f, .int .i64 t, .int .i64 lo, .int .i64 c]] W fun e w' =>
          e = .returned (.int .i64 E) ∧ Below W.heap.size W w' := fun W => by rw [← hE]; exact nCheckArc_any n f t lo c W
      rw [hE] at hstep
      clear hE
      by_cases he : E = 0
      · rw [if_pos he] at hstep
        have HN : Hid (needErr n l = needsErr n (l.drop (k + 1))) := HD.out.trans hstep
        clear hstep
        subst he
        go_wp2_with (go_at_call 23; refine (hq _).mono ?_; rintro e w' ⟨rfl, hb'⟩)
        go_roundw
        case rel => exact ⟨k + 1, HK.out, by go_num, HN, (HB.out.alloc hz _).trans (hb'.mono (by simp; omega))⟩
        case measure => have := HK.out; simp [intOf]; omega
      · rw [if_neg he] at hstep
        have HN : Hid (needErr n l = E) := HD.out.trans hstep
        have he' : (E != 0) = true := by simpa using he
        clear hstep he
        go_wp2_with (go_at_call 23; refine (hq _).mono ?_; rintro e w' ⟨rfl, hb'⟩)
        go_ret
        rw [HN.out]
        exact ⟨(HB.out.alloc hz _).trans (hb'.mono (by simp; omega)), rfl⟩
    · have hkk : k = l.length := by omega
      subst hkk
      have HN : Hid (needErr n l = 0) := HD.out.trans (by rw [List.drop_length]; rfl)
      go_wp2
      go_ret
      rw [HN.out]
      exact ⟨HB.out, rfl⟩

end Go.Proofs.Ytmneajmfoljflaa
