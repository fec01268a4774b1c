/- Contracts of slices.Equal at integers and at arcs, and of the sum of a list. -/
import Derived.Test.YtgmifepfbcgfbaaRows
import Derived.Test.YtgmifepfbcgfbaaBase
namespace Go.Proofs.Ytgmifepfbcgfbaa
open Go.RowKit
set_option linter.unusedVariables false

theorem take_nei (l m : List Int) (k : Nat) (h : ati l k ≠ ati m k) : l ≠ m := fun e => h (by rw [e])
theorem take_ne3 (l m : List Arc3) (k : Nat) (h : at3 l k ≠ at3 m k) : l ≠ m := fun e => h (by rw [e])

theorem take_eqi (l m : List Int) (k : Nat) (h1 : k < l.length) (h2 : k < m.length) (h : ati l k = ati m k) (hp : l.take k = m.take k) : l.take (k + 1) = m.take (k + 1) := by
  rw [take_snoci l k h1, take_snoci m k h2, h, hp]
theorem take_eq3 (l m : List Arc3) (k : Nat) (h1 : k < l.length) (h2 : k < m.length) (h : at3 l k = at3 m k) (hp : l.take k = m.take k) : l.take (k + 1) = m.take (k + 1) := by
  rw [take_snoc3 l k h1, take_snoc3 m k h2, h, hp]

theorem bne_getD {α : Type} [BEq α] [LawfulBEq α] {x y : α} (h : x ≠ y) : (x != y) = true := by simpa using h

set_option maxHeartbeats 400000 in
theorem equalInts (a1 a2 : Option Addr) (c1 c2 : Nat) (l m : List Int) (w : World) (h1 : l.length ≤ maxLen) (h2 : m.length ≤ maxLen) (hL : IntsAt w a1 l) (hM : IntsAt w a2 m) :
    Calls Try.prog 22 #[.slice a1 l.length c1, .slice a2 m.length c2] w fun e w' =>
      e = .returned (.bool (decide (l = m))) ∧ ∃ q, w' = w.drewN q := by
  unfold maxLen at h1 h2
  by_cases hlen : l.length = m.length
  · have hb : ((l.length : Int) != (m.length : Int)) = false := by simp [hlen]
    have HL : Hid (l.length = m.length) := hlen
    have hle : l.length ≤ m.length := by omega
    clear hlen
    go_enter Try.func22, Try.ntmps22
    go_wp2
    go_loopw [13] (fun i wr => ∃ k : Nat, k ≤ l.length ∧ i = .int .i64 k ∧ Hid (l.take k = m.take k) ∧ ∃ q, wr = w.drewN q) (fun i _ => l.length - (intOf i).toNat)
    case atStart => exact ⟨0, Nat.zero_le _, rfl, rfl, 0, rfl⟩
    case round =>
      obtain ⟨k, hk, rfl, hok, q, rfl⟩ := hrel
      by_cases hlt : k < l.length
      · obtain ⟨b1, o1, rfl, hb1, d1⟩ := hL k hlt
        obtain ⟨b2, o2, rfl, hb2, d2⟩ := hM k (by omega)
        have hlt2 : k < m.length := by omega
        by_cases he : ati l k = ati m k
        · have HN : Hid (l.take (k + 1) = m.take (k + 1)) := take_eqi l m k hlt hlt2 he hok
          generalize ati l k = x at *
          generalize ati m k = y at *
          subst he
          go_wp2
          go_quiet (fail)
          go_wp2
          go_roundw
          case rel => exact ⟨k + 1, by omega, by go_num, HN, _, rfl⟩
          case measure => simp [intOf]; omega
        · have HN : Hid (decide (l = m) = false) := by rw [Hid]; exact decide_eq_false (take_nei l m k he)
          have he' := bne_getD he
          generalize ati l k = x at *
          generalize ati m k = y at *
          clear he
          go_wp2
          go_quiet (fail)
          go_wp2
          go_ret
          rw [HN.out]
          exact ⟨rfl, _, World.drewN_drewN _ _ _⟩
      · have hkl : k = l.length := by omega
        subst hkl
        have HE : Hid (decide (l = m) = true) := by
          have := hok.out
          rw [List.take_length, List.take_of_length_le (by have := HL.out; omega)] at this
          rw [Hid]; exact decide_eq_true this
        go_wp2
        go_ret
        rw [HE.out]
        exact ⟨rfl, _, rfl⟩
  · have hb : ((l.length : Int) != (m.length : Int)) = true := by rw [bne_iff_ne]; omega
    have hd : decide (l = m) = false := decide_eq_false (fun e => hlen (by rw [e]))
    rw [hd]
    clear hd hlen
    go_enter Try.func22, Try.ntmps22
    go_wp2
    go_ret
    exact ⟨rfl, 0, rfl⟩

def arcV (a : Arc3) : Value := .agg #[.int .i64 a.1, .int .i64 a.2.1, .int .i64 a.2.2]

theorem neqArc (f1 t1 c1 f2 t2 c2 : Int) (w : World) : (binOp .neq 35 (.agg #[.int .i64 f1, .int .i64 t1, .int .i64 c1]) (.agg #[.int .i64 f2, .int .i64 t2, .int .i64 c2])).run Try.prog w
    = .ok (.bool (decide ((f1, t1, c1) ≠ (f2, t2, c2)))) w := by
  have u3 := Try.underlying3
  have a3 := Try.isAgg3
  have z3 := Try.sizeOf3
  have hS : Try.prog.underlying 35 = some (.struct (Try.prog.fieldsOf 35)) := by kernel_rfl
  have hp : Try.prog.stoodInHeld 35 = false := by kernel_rfl
  rw [run_neq_struct, show (10000 : Nat) = 9999 + 1 from rfl, run_equalIn_agg w 9999 35 _ _ hS hp]
  simp only [Program.fieldsOf, Try.underlying35]
  go_simp
  by_cases e1 : f1 = f2 <;> by_cases e2 : t1 = t2 <;> by_cases e3 : c1 = c2 <;> simp [e1, e2, e3]

set_option maxHeartbeats 400000 in
theorem equalArcs (a1 a2 : Option Addr) (c1 c2 : Nat) (l m : List Arc3) (w : World) (h1 : l.length ≤ maxLen) (h2 : m.length ≤ maxLen) (hL : ArcsAt w a1 l) (hM : ArcsAt w a2 m) :
    Calls Try.prog 19 #[.slice a1 l.length c1, .slice a2 m.length c2] w fun e w' =>
      e = .returned (.bool (decide (l = m))) ∧ ∃ q, w' = w.drewN q := by
  unfold maxLen at h1 h2
  by_cases hlen : l.length = m.length
  · have hb : ((l.length : Int) != (m.length : Int)) = false := by simp [hlen]
    have HL : Hid (l.length = m.length) := hlen
    have hle : l.length ≤ m.length := by omega
    clear hlen
    go_enter Try.func19, Try.ntmps19
    go_wp2
    go_loopw [13] (fun i wr => ∃ k : Nat, k ≤ l.length ∧ i = .int .i64 k ∧ Hid (l.take k = m.take k) ∧ ∃ q, wr = w.drewN q) (fun i _ => l.length - (intOf i).toNat)
    case atStart => exact ⟨0, Nat.zero_le _, rfl, rfl, 0, rfl⟩
    case round =>
      obtain ⟨k, hk, rfl, hok, q, rfl⟩ := hrel
      by_cases hlt : k < l.length
      · obtain ⟨b1, o1, rfl, hb1, d10, d11, d12⟩ := hL k hlt
        obtain ⟨b2, o2, rfl, hb2, d20, d21, d22⟩ := hM k (by omega)
        have hlt2 : k < m.length := by omega
        by_cases he : at3 l k = at3 m k
        · have HN : Hid (l.take (k + 1) = m.take (k + 1)) := take_eq3 l m k hlt hlt2 he hok
          generalize at3 l k = x at *
          generalize at3 m k = y at *
          subst he
          obtain ⟨f, t, c⟩ := x
          have hne := neqArc f t c f t c
          simp only [ne_eq, not_true_eq_false, decide_false] at hne d10 d11 d12 d20 d21 d22
          go_wp2
          go_quiet (fail)
          go_wp2
          go_roundw
          case rel => exact ⟨k + 1, by omega, by go_num, HN, _, rfl⟩
          case measure => simp [intOf]; omega
        · have HN : Hid (decide (l = m) = false) := by rw [Hid]; exact decide_eq_false (take_ne3 l m k he)
          generalize at3 l k = x at *
          generalize at3 m k = y at *
          obtain ⟨f, t, c⟩ := x
          obtain ⟨f', t', c'⟩ := y
          have hne := neqArc f t c f' t' c'
          rw [decide_eq_true he] at hne
          clear he
          simp only [] at d10 d11 d12 d20 d21 d22
          go_wp2
          go_quiet (fail)
          go_wp2
          go_ret
          rw [HN.out]
          exact ⟨rfl, _, World.drewN_drewN _ _ _⟩
      · have hkl : k = l.length := by omega
        subst hkl
        have HE : Hid (decide (l = m) = true) := by
          have := hok.out
          rw [List.take_length, List.take_of_length_le (by have := HL.out; omega)] at this
          rw [Hid]; exact decide_eq_true this
        go_wp2
        go_ret
        rw [HE.out]
        exact ⟨rfl, _, rfl⟩
  · have hb : ((l.length : Int) != (m.length : Int)) = true := by rw [bne_iff_ne]; omega
    have hd : decide (l = m) = false := decide_eq_false (fun e => hlen (by rw [e]))
    rw [hd]
    clear hd hlen
    go_enter Try.func19, Try.ntmps19
    go_wp2
    go_ret
    exact ⟨rfl, 0, rfl⟩


theorem equalIntsB (a1 a2 : Option Addr) (c1 c2 : Nat) (l m : List Int) (w : World) (h1 : l.length ≤ maxLen) (h2 : m.length ≤ maxLen) (hL : IntsAt w a1 l) (hM : IntsAt w a2 m) :
    Calls Try.prog 22 #[.slice a1 l.length c1, .slice a2 m.length c2] w fun e w' =>
      e = .returned (.bool (decide (l = m))) ∧ Below w.heap.size w w' :=
  (equalInts a1 a2 c1 c2 l m w h1 h2 hL hM).mono fun e w' ⟨he, q, hq⟩ => ⟨he, by rw [hq]; exact below_drewN (Below.refl _ _) q⟩

theorem equalArcsB (a1 a2 : Option Addr) (c1 c2 : Nat) (l m : List Arc3) (w : World) (h1 : l.length ≤ maxLen) (h2 : m.length ≤ maxLen) (hL : ArcsAt w a1 l) (hM : ArcsAt w a2 m) :
    Calls Try.prog 19 #[.slice a1 l.length c1, .slice a2 m.length c2] w fun e w' =>
      e = .returned (.bool (decide (l = m))) ∧ Below w.heap.size w w' :=
  (equalArcs a1 a2 c1 c2 l m w h1 h2 hL hM).mono fun e w' ⟨he, q, hq⟩ => ⟨he, by rw [hq]; exact below_drewN (Below.refl _ _) q⟩

end Go.Proofs.Ytgmifepfbcgfbaa
