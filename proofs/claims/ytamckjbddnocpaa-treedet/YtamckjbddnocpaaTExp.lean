/- Contracts of package tree: expand. -/
import Derived.Test.YtamckjbddnocpaaXMath
import Derived.Test.YtamckjbddnocpaaRows
import Derived.Test.YtamckjbddnocpaaRowsAt
namespace Go.Proofs.Ytamckjbddnocpaa
open Go.RowKit
set_option linter.unusedVariables false

/-- what a table holds -/
def mtx (l : List RowV) : Mtx := fun i k => ati (atr l i).l k

theorem bit_and : ∀ c : Nat, c < 7 → ∀ u : Nat, u < 128 → (bits .and .u64 ((u : Int) / 2 ^ c) 1 == 1) = Nat.testBit u c := by decide +kernel
theorem bit_or : ∀ c : Nat, c < 7 → ∀ u : Nat, u < 128 → bits .or .u64 (u : Int) (IntKind.wrap .u64 (2 ^ c)) = ((u ||| 2 ^ c : Nat) : Int) ∧ u ||| 2 ^ c < 128 := by decide +kernel

/-- the same world -/
def Is (w w' : World) : Prop := w' = w
theorem Is.rfl (w : World) : Is w w := Eq.refl w

theorem mul_abs {a b : Int} {p q : Nat} (ha : a.natAbs ≤ p) (hb : b.natAbs ≤ q) : (a * b).natAbs ≤ p * q := by
  rw [Int.natAbs_mul]; exact Nat.mul_le_mul ha hb

set_option maxHeartbeats 1000000 in
theorem expand_any (n : Nat) (hn : n ≤ 7) (ao : Option Addr) (cap : Nat) (l : List RowV) (w : World) (hl : l.length = n) (hR : RowsAt w ao l) (hrow : ∀ i, i < n → (atr l i).l.length = n)
    (hM : ∀ i k, i < n → k < n → (mtx l i k).natAbs ≤ 60) : ∀ (k row u : Nat), row + k = n → u < 128 → (cols u n).length = k →
    Calls Try.prog 25 #[.slice ao n cap, .int .i64 (row : Int), .int .u64 (u : Int)] w fun e w' => w' = w ∧ e = .returned (.int .i64 (dx (mtx l) row (cols u n))) := by
  intro k
  induction k with
  | zero =>
    intro row u hk hu hc
    obtain rfl : row = n := by omega
    have hnil : cols u row = [] := List.length_eq_zero_iff.1 hc
    rw [hnil, dx_nil]
    clear hM hrow hR hl hnil hc
    go_enter Try.func25, Try.ntmps25
    go_wp2
    go_ret
    exact ⟨rfl, rfl⟩
  | succ k ih =>
    intro row u hk hu hc
    have IH := ih (row + 1)
    clear ih
    have hlt : row < n := by omega
    obtain ⟨b, off, rfl, hb, c0, hat⟩ := hR row (by omega)
    have hlen := hrow row hlt
    have hML := fun c (hc : c < n) => hM row c hlt hc
    have hcell := hat.ints
    have e : (mtx l row) = fun c => ati (atr l row).l c := rfl
    simp only [e] at hML
    have HT : Hid (∀ c, c < n → u.testBit c = false → sumN (term (mtx l) row (cols u n)) (cnt u c + 1) = sumN (term (mtx l) row (cols u n)) (cnt u c) + sgn (cnt u c) * ati (atr l row).l c * dx (mtx l) (row + 1) (cols (u ||| 2 ^ c) n) ∧ (cols (u ||| 2 ^ c) n).length = k) := fun c hcn hb => by
      obtain ⟨p1, p2, p3⟩ := cols_at u hcn hb
      refine ⟨?_, by rw [← p3, List.length_eraseIdx_of_lt p2, hc]; rfl⟩
      rw [sumN, term, p1, p3]; rfl
    have HS : Hid (∀ p, p ≤ k + 1 → (sumN (term (mtx l) row (cols u n)) p).natAbs ≤ 14108774400000000) := fun p hp => Nat.le_trans (sum_abs hM hk hc hp) (big_le (by omega))
    have HD : Hid (∀ v, (cols v n).length = k → (dx (mtx l) (row + 1) (cols v n)).natAbs ≤ 14108774400000000) := fun v hv => Nat.le_trans (dx_abs hM (by omega) hv) (big_le (by omega))
    have HC : Hid ((cols u n).length = k + 1) := hc
    have HP : Hid (∀ c, c ≤ n → cnt u c ≤ k + 1) := fun c hcn => by
      rw [← hc]
      rcases Nat.lt_or_ge c n with h | h
      · obtain ⟨T, h1, _⟩ := cols_split u h
        rw [h1, List.length_append]; exact Nat.le_add_right _ _
      · obtain rfl : c = n := by omega
        exact Nat.le_refl _
    have HIH : Hid (∀ u', u' < 128 → (cols u' n).length = k → Calls Try.prog 25 #[.slice (some ⟨b, off, none⟩) n cap, .int .i64 ((row + 1 : Nat) : Int), .int .u64 (u' : Int)] w fun e w' => w' = w ∧ e = .returned (.int .i64 (dx (mtx l) (row + 1) (cols u' n)))) := fun u' h1 h2 => IH u' (by omega) h1 h2
    have HE : Hid (dx (mtx l) row (cols u n) = sumN (term (mtx l) row (cols u n)) (cnt u n)) := by
      rw [Hid, dx_expand _ _ _ _ hc, cnt, hc]
    clear IH hM hrow hR e hc
    generalize dx (mtx l) row (cols u n) = D at *
    generalize (atr l row) = R at *
    obtain ⟨ra, rc, rl⟩ := R
    simp only [RowV.val] at c0 hlen hcell hML HT
    rw [hlen] at c0
    have hne : ((row : Int) == (n : Int)) = false := by simp; omega
    go_enter Try.func25, Try.ntmps25
    go_wp2
    go_loopw [7, 8, 20] (fun s g i wr => ∃ c : Nat, c ≤ n ∧ i = .int .i64 c ∧ s = .int .i64 (sumN (term (mtx l) row (cols u n)) (cnt u c)) ∧ g = .int .i64 (sgn (cnt u c)) ∧ Is w wr) (fun _ _ i _ => n - (intOf i).toNat)
    case atStart => exact ⟨0, Nat.zero_le _, rfl, rfl, rfl, Is.rfl w⟩
    case round =>
      obtain ⟨c, hcn, rfl, rfl, rfl, hw⟩ := hrel
      have hw : wr = w := hw
      subst hw
      have hs0 := HS.out _ (HP.out c hcn)
      by_cases hlt : c < n
      · obtain ⟨b1, o1, rfl, hb1, q0⟩ := hcell c (by omega)
        have hx := hML c hlt
        have HT1 := HT.out c hlt
        have hba := bit_and c (by omega) u hu
        have hbo := bit_or c (by omega) u hu
        have hsc := cnt_succ u c
        have hsg := sgn_succ (cnt u c)
        have hsa := sgn_abs (cnt u c)
        generalize ati rl c = x at *
        cases hbit : u.testBit c with
        | true =>
          rw [hbit] at hba hsc
          rw [if_pos rfl] at hsc
          have HSC : Hid (cnt u (c + 1) = cnt u c) := hsc
          clear HT1 hbo hsg hsc hbit
          go_wp2_with fail
          go_roundw
          case rel => exact ⟨c + 1, by omega, by go_num, by rw [HSC.out], by rw [HSC.out], Is.rfl _⟩
          case measure => simp [intOf]; omega
        | false =>
          rw [hbit] at hba hsc
          simp only [Bool.false_eq_true, if_false] at hsc
          obtain ⟨hT, hL⟩ := HT1 hbit
          have hd := HD.out _ hL
          have HSC : Hid (cnt u (c + 1) = cnt u c + 1) := hsc
          have hs1 := HS.out _ (HP.out (c + 1) (by omega))
          rw [hsc, hT] at hs1
          have hcall := HIH.out _ hbo.2 hL
          rw [← hbo.1, show ((row + 1 : Nat) : Int) = (row : Int) + 1 from by omega] at hcall
          have HT2 : Hid (sumN (term (mtx l) row (cols u n)) (cnt u c + 1) = sumN (term (mtx l) row (cols u n)) (cnt u c) + sgn (cnt u c) * x * dx (mtx l) (row + 1) (cols (u ||| 2 ^ c) n)) := hT
          have HSG : Hid (sgn (cnt u c + 1) = - sgn (cnt u c)) := hsg
          have hm1 := mul_abs (p := 1) (Nat.le_of_eq hsa) hx
          have hm2 := mul_abs hm1 hd
          clear hbo hsg hsc hbit hT hL
          generalize dx (mtx l) (row + 1) (cols (u ||| 2 ^ c) n) = d at *
          generalize sumN (term (mtx l) row (cols u n)) (cnt u c) = S at *
          generalize sgn (cnt u c) = g at *
          clear HT1
          have r1 : -60 ≤ g * x ∧ g * x ≤ 60 := by omega
          have r2 : -846526464000000000 ≤ g * x * d ∧ g * x * d ≤ 846526464000000000 := by omega
          have r3 : -14108774400000000 ≤ S + g * x * d ∧ S + g * x * d ≤ 14108774400000000 := by omega
          have r4 : -1 ≤ g ∧ g ≤ 1 := by omega
          have r5 : -14108774400000000 ≤ S ∧ S ≤ 14108774400000000 := by omega
          have r6 : -14108774400000000 ≤ d ∧ d ≤ 14108774400000000 := by omega
          clear hs0 hs1 hm1 hm2 hd hsa hx
          go_wp2_with (go_at_call 25; refine (hcall).mono ?_; rintro e w' ⟨hw1, rfl⟩; subst hw1)
          go_roundw
          case rel => exact ⟨c + 1, by omega, by go_num, by rw [HSC.out, HT2.out], by rw [HSC.out, HSG.out], Is.rfl _⟩
          case measure => simp [intOf]; omega
      · obtain rfl : c = n := by omega
        go_wp2_with fail
        go_ret
        exact ⟨rfl, by rw [HE.out]; rfl⟩

end Go.Proofs.Ytamckjbddnocpaa
