/- Contracts of the document's own NeedErr, Strains, Eased. -/
import Derived.Test.YtmneajmfoljflaaNeedC
import Derived.Test.YtmneajmfoljflaaPartM
namespace Go.Proofs.Ytmneajmfoljflaa
open Go.RowKit
set_option linter.unusedVariables false

theorem needs_drop (n : Int) (l : List Need4) (k : Nat) (hk : k < l.length) : needsErr n (l.drop k) = if need1 n (at4 l k) = 0 then needsErr n (l.drop (k + 1)) else need1 n (at4 l k) := by
  rw [List.drop_eq_getElem_cons hk, ← at4_lt l k hk]
  rfl

set_option maxHeartbeats 4000000 in
theorem refNeedErr_any (n : Int) (ao : Option Addr) (cap : Nat) (l : List Need4) (w : World) (hX : NeedsIn w ao cap l) :
    Calls Try.prog 10 #[.int .i64 n, .slice ao l.length cap] w fun e w' => e = .returned (.int .i64 (needErr n l)) ∧ Below w.heap.size w w' := by
  have hm := hX.len
  unfold maxLen at hm
  have HX : Hid (NeedsIn w ao cap l) := hX
  by_cases h1 : n < 1
  · have hfin : needErr n l = 1 := by rw [needErr, if_pos (Or.inl h1)]
    rw [hfin]
    clear hfin hX
    have d1 : decide (n < 1) = true := decide_eq_true h1
    go_enter Try.func10, Try.ntmps10
    go_wp2
    go_ret
    exact ⟨rfl, Below.refl _ _⟩
  by_cases h2 : 10 < n
  · have hfin : needErr n l = 1 := by rw [needErr, if_pos (Or.inr h2)]
    rw [hfin]
    clear hfin hX
    have d1 : decide (n < 1) = false := decide_eq_false h1
    have d2 : decide (10 < n) = true := decide_eq_true h2
    go_enter Try.func10, Try.ntmps10
    go_wp2
    go_ret
    exact ⟨rfl, Below.refl _ _⟩
  by_cases h3 : 30 < l.length
  · have hfin : needErr n l = 2 := by rw [needErr, if_neg (by omega), if_pos h3]
    rw [hfin]
    clear hfin hX
    go_enter Try.func10, Try.ntmps10
    go_wp2
    go_ret
    exact ⟨rfl, Below.refl _ _⟩
  have HG : Hid (needErr n l = needsErr n (l.drop 0)) := by rw [Hid, needErr, if_neg (by omega), if_neg h3]; rfl
  clear hX
  go_enter Try.func10, Try.ntmps10
  go_wp2
  go_loopw [18] (fun i wr => ∃ k : Nat, k ≤ l.length ∧ i = .int .i64 k ∧ Hid (needErr n l = needsErr n (l.drop k)) ∧ Hid (Below w.heap.size w wr)) (fun i _ => l.length - (intOf i).toNat)
  case atStart => exact ⟨0, Nat.zero_le _, rfl, HG, Below.refl _ _⟩
  case round =>
    obtain ⟨k, hk, rfl, HD, HB⟩ := hrel
    have hz := HB.out.size
    by_cases hlt : k < l.length
    · have HK : Hid (k + 1 ≤ l.length) := hlt
      obtain ⟨b, off, rfl, hb, c0, c1, c2, c3⟩ := HX.out.needs.below HB.out (Nat.le_refl _) k hlt
      have hstep := needs_drop n l k hlt
      obtain ⟨a, ha⟩ : ∃ a, at4 l k = a := ⟨_, rfl⟩
      rw [ha] at hstep c0 c1 c2 c3
      obtain ⟨f, t, lo, c⟩ := a
      simp only at c0 c1 c2 c3
      by_cases hbad : (0 ≤ f ∧ f < n) ∧ (0 ≤ t ∧ t < n)
      case neg =>
        have HN : Hid (needErr n l = 4) := HD.out.trans (by
          have e : need1 n (f, t, lo, c) = 4 := by unfold need1; rw [if_neg hbad]
          rw [hstep, e]; rfl)
        clear hstep
        rcases (by omega : (f = t ∧ f < 0) ∨ (f < t ∧ f < 0) ∨ (t < f ∧ t < 0) ∨ (f = t ∧ 0 ≤ f ∧ n ≤ f) ∨ (f < t ∧ 0 ≤ f ∧ n ≤ t) ∨ (t < f ∧ 0 ≤ t ∧ n ≤ f)) with ⟨rfl, q2⟩ | ⟨q1, q2⟩ | ⟨q1, q2⟩ | ⟨rfl, q2, q3⟩ | ⟨q1, q2, q3⟩ | ⟨q1, q2, q3⟩
        all_goals
          clear hbad
          go_wp2
          go_ret
          rw [HN.out]
          exact ⟨rfl, HB.out.alloc hz _⟩
      by_cases hcc : 0 ≤ lo ∧ lo ≤ c ∧ c ≤ 333
      · have e0 : need1 n (f, t, lo, c) = 0 := need1_mk ⟨hbad.1, hbad.2, hcc.1, hcc.2.1, hcc.2.2⟩
        have HN : Hid (needErr n l = needsErr n (l.drop (k + 1))) := HD.out.trans (by rw [hstep, if_pos e0])
        obtain ⟨⟨p1, p2⟩, p3, p4⟩ := hbad
        obtain ⟨k1, k2, k3⟩ := hcc
        clear hstep e0
        rcases (by omega : f = t ∨ f < t ∨ t < f) with rfl | q1 | q1
        all_goals
          go_wp2
          go_roundw
          case rel => exact ⟨k + 1, HK.out, by go_num, HN, HB.out.alloc hz _⟩
          case measure => have := HK.out; simp [intOf]; omega
      · have HN : Hid (needErr n l = 1) := HD.out.trans (by
          have e : need1 n (f, t, lo, c) = 1 := by unfold need1; rw [if_pos hbad, if_neg hcc]
          rw [hstep, e]; rfl)
        obtain ⟨⟨p1, p2⟩, p3, p4⟩ := hbad
        clear hstep
        rcases (by omega : lo < 0 ∨ (0 ≤ lo ∧ c < lo) ∨ (0 ≤ lo ∧ lo ≤ c ∧ 333 < c)) with k1 | ⟨k1, k2⟩ | ⟨k1, k2, k3⟩ <;> rcases (by omega : f = t ∨ f < t ∨ t < f) with rfl | q1 | q1
        all_goals
          clear hcc
          go_wp2
          go_ret
          rw [HN.out]
          exact ⟨rfl, HB.out.alloc hz _⟩
    · have hkk : k = l.length := by omega
      subst hkk
      have HN : Hid (needErr n l = 0) := HD.out.trans (by rw [List.drop_length]; rfl)
      go_wp2
      go_ret
      rw [HN.out]
      exact ⟨rfl, HB.out⟩

set_option maxHeartbeats 4000000 in
set_option maxRecDepth 100000 in
theorem refStrains_any (N : Nat) (side : Int) (hsd : 0 ≤ side ∧ side < 65536) (ao : Option Addr) (cap : Nat) (l : List Need4) (w : World) (hn : needErr N l = 0) (hX : NeedsAt w ao l) :
    Calls Try.prog 13 #[.slice ao l.length cap, .int .u16 side] w fun e w' => e = .returned (.bool (decide (mayS l side < mustS l side))) ∧ Below w.heap.size w w' := by
  obtain ⟨⟨hn1, hn2⟩, hl30, hall⟩ := need_ok hn
  have HX : Hid (NeedsAt w ao l) := hX
  have HAll : Hid (∀ k, k < l.length → (0 ≤ (at4 l k).1 ∧ (at4 l k).1 < (N : Int)) ∧ (0 ≤ (at4 l k).2.1 ∧ (at4 l k).2.1 < (N : Int)) ∧ 0 ≤ (at4 l k).2.2.1 ∧ (at4 l k).2.2.1 ≤ (at4 l k).2.2.2 ∧ (at4 l k).2.2.2 ≤ 333) := hall
  have HMu : Hid (∀ k, k ≤ l.length → 0 ≤ mustK l side k ∧ mustK l side k ≤ 333 * (k : Int)) := fun k hk => must_bound (by omega) k fun i hi => by have := hall i (by omega); omega
  have HMa : Hid (∀ k, k ≤ l.length → 0 ≤ mayK l side k ∧ mayK l side k ≤ 333 * (k : Int)) := fun k hk => may_bound (by omega) k fun i hi => by have := hall i (by omega); omega
  obtain ⟨R, hR⟩ : ∃ R, decide (mayS l side < mustS l side) = R := ⟨_, rfl⟩
  have HR : Hid (decide (mayK l side l.length < mustK l side l.length) = R) := hR
  rw [hR]
  clear hX hn hall hR hn1
  go_enter Try.func13, Try.ntmps13
  go_wp2
  go_loopw [5, 6, 13] (fun u o i wr => ∃ k : Nat, k ≤ l.length ∧ i = .int .i64 k ∧ u = .int .i64 (mustK l side k) ∧ o = .int .i64 (mayK l side k) ∧ Hid (Below w.heap.size w wr)) (fun _ _ i _ => l.length - (intOf i).toNat)
  case atStart => exact ⟨0, Nat.zero_le _, rfl, rfl, rfl, Below.refl _ _⟩
  case round =>
    obtain ⟨k, hk, rfl, rfl, rfl, HB⟩ := hrel
    have hzr := HB.out.size
    by_cases hlt : k < l.length
    · have HK : Hid (k + 1 ≤ l.length) := hlt
      obtain ⟨b, off, rfl, hbb, e0, e1, e2, e3⟩ := HX.out.below HB.out (Nat.le_refl _) k hlt
      obtain ⟨⟨p1, p2⟩, ⟨p3, p4⟩, p5, p6, p7⟩ := HAll.out k hlt
      obtain ⟨m1, m2⟩ := HMu.out k hk
      obtain ⟨m3, m4⟩ := HMa.out k hk
      have HN1 : Hid (mustK l side (k + 1) = mustK l side k + (1 - bt side (at4 l k).1) * bt side (at4 l k).2.1 * (at4 l k).2.2.1) := rfl
      have HN2 : Hid (mayK l side (k + 1) = mayK l side k + bt side (at4 l k).1 * (1 - bt side (at4 l k).2.1) * (at4 l k).2.2.2) := rfl
      have B1 := bt_01 side (at4 l k).1
      have B2 := bt_01 side (at4 l k).2.1
      generalize mustK l side k = mu at *
      generalize mayK l side k = ma at *
      generalize (at4 l k).1 = p at *
      generalize (at4 l k).2.1 = q at *
      generalize (at4 l k).2.2.1 = lo at *
      generalize (at4 l k).2.2.2 = c at *
      obtain ⟨p, rfl⟩ := Int.eq_ofNat_of_zero_le p1
      obtain ⟨q, rfl⟩ := Int.eq_ofNat_of_zero_le p3
      have u1 := bt_bits hsd p
      have u2 := bt_bits hsd q
      have hp12 : p < 12 := by omega
      have hq12 : q < 12 := by omega
      have v1 : IntKind.i64.wrap (mu + lo) = mu + lo := by rw [IntKind.wrap_i64]; omega
      have v2 : IntKind.i64.wrap (ma + c) = ma + c := by rw [IntKind.wrap_i64]; omega
      generalize bt side p = P at *
      generalize bt side q = Q at *
      rcases B1 with rfl | rfl <;> rcases B2 with rfl | rfl
      all_goals
        simp only [Int.sub_zero, Int.sub_self, Int.one_mul, Int.zero_mul, Int.mul_zero, Int.add_zero, Int.mul_one] at HN1 HN2
        clear p1 p2 p3 p4
        go_wp2
        go_quiet (fail)
        go_wp2
        go_roundw
        case rel => exact ⟨k + 1, HK.out, by go_num, by rw [HN1.out], by rw [HN2.out], below_drewN (HB.out.alloc (by omega) _) _⟩
        case measure => have := HK.out; simp [intOf]; omega
    · have hkk : k = l.length := by omega
      subst hkk
      have hr := HR.out
      generalize mustK l side l.length = mu at *
      generalize mayK l side l.length = ma at *
      have HF : Hid (decide (ma < mu) = R) := hr
      clear hr HR HMu HMa
      go_wp2
      go_ret
      rw [HF.out]
      exact ⟨rfl, HB.out⟩

set_option maxHeartbeats 4000000 in
theorem refEased_any (N : Nat) (ao : Option Addr) (cap : Nat) (l : List Need4) (w : World) (hn : needErr N l = 0) (hX : NeedsAt w ao l) :
    Calls Try.prog 12 #[.int .i64 (N : Int), .slice ao l.length cap] w fun e w' => Below w.heap.size w w' ∧ ((e = .returned (.bool true) ∧ ∀ x : Nat, x < 2 ^ N → ¬ Strains l x) ∨ (e = .returned (.bool false) ∧ ∃ x : Nat, x < 2 ^ N ∧ Strains l x)) := by
  obtain ⟨⟨hn1, hn2⟩, hl30, hall⟩ := need_ok hn
  have HX : Hid (NeedsAt w ao l) := hX
  obtain ⟨M, hM⟩ : ∃ M, 2 ^ N = M := ⟨_, rfl⟩
  have hM1 : M ≤ 1024 := by rw [← hM]; exact Nat.pow_le_pow_right (n := 2) (by omega) (show N ≤ 10 by omega)
  have hsh : IntKind.u16.wrap (2 ^ N) = (M : Int) := by
    rw [IntKind.wrap_u16, show ((2 : Int) ^ N) = ((2 ^ N : Nat) : Int) by simp, hM]; omega
  have HCall : Hid (∀ (x : Nat) (W : World), x < 65536 → NeedsAt W ao l → Calls Try.prog 13 #[.slice ao l.length cap, .int .u16 (x : Int)] W fun e w' => e = .returned (.bool (decide (mayS l x < mustS l x))) ∧ Below W.heap.size W w') := fun x W hx hW => refStrains_any N x (by omega) ao cap l W hn hW
  rw [hM]
  have hN12 : N < 12 := by omega
  clear hX hn hall hM hn1 hn2
  go_enter Try.func12, Try.ntmps12
  go_wp2
  go_loopw [8] (fun i wr => ∃ k : Nat, k ≤ M ∧ i = .int .u16 k ∧ Hid (∀ x, x < k → ¬ Strains l x) ∧ Hid (Below w.heap.size w wr)) (fun i _ => M - (intOf i).toNat)
  case atStart => exact ⟨0, Nat.zero_le _, rfl, fun x hx => absurd hx (Nat.not_lt_zero _), Below.refl _ _⟩
  case round =>
    obtain ⟨k, hk, rfl, HNo, HB⟩ := hrel
    by_cases hlt : k < M
    · have HK : Hid (k + 1 ≤ M) := hlt
      have hcall := HCall.out k wr (by omega) (HX.out.below HB.out (Nat.le_refl _))
      have hkw : IntKind.u16.wrap ((k : Int) + 1) = ((k + 1 : Nat) : Int) := by rw [IntKind.wrap_u16]; omega
      by_cases hS : mayS l k < mustS l k
      · rw [decide_eq_true hS] at hcall
        have HS : Hid (Strains l k) := hS
        have HKM : Hid (k < M) := hlt
        clear hS
        go_wp2_with fail
        refine hcall.mono ?_
        clear hcall
        rintro e w2 ⟨rfl, hb2⟩
        have HB2 : Hid (Below w.heap.size w w2) := HB.out.trans (hb2.mono HB.out.size)
        clear hb2
        go_wp2
        go_ret
        exact ⟨HB2.out, Or.inr ⟨rfl, k, HKM.out, HS.out⟩⟩
      · rw [decide_eq_false hS] at hcall
        have HS : Hid (∀ x, x < k + 1 → ¬ Strains l x) := fun x hx => by
          by_cases e : x = k
          · subst e; exact hS
          · exact HNo.out x (by omega)
        clear hS
        go_wp2_with fail
        refine hcall.mono ?_
        clear hcall
        rintro e w2 ⟨rfl, hb2⟩
        have HB2 : Hid (Below w.heap.size w w2) := HB.out.trans (hb2.mono HB.out.size)
        clear hb2
        go_wp2
        go_roundw
        case rel => exact ⟨k + 1, HK.out, rfl, HS, HB2⟩
        case measure => have := HK.out; simp [intOf]; omega
    · have hkk : k = M := by omega
      subst hkk
      go_wp2
      go_ret
      exact ⟨HB.out, Or.inl ⟨rfl, HNo.out⟩⟩

end Go.Proofs.Ytmneajmfoljflaa
