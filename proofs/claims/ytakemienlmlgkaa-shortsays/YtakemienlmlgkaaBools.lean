/- Words of our own for what lies in memory: a slice of truths. -/
import Derived.Test.YtakemienlmlgkaaBase
import Derived.Test.YtakemienlmlgkaaShM
import Derived.Test.YtakemienlmlgkaaWalkC
import Derived.Test.YtakemienlmlgkaaSl
namespace Go.Proofs.Ytakemienlmlgkaa
open Go.RowKit
set_option linter.unusedVariables false

/-- the truths lie where the slice leads -/
def BoolsAt (w : World) (ao : Option Addr) (l : List Bool) : Prop :=
  ∀ i, i < l.length → ∃ b off, ao = some ⟨b, off, none⟩ ∧ b < w.heap.size ∧ w.cell? ⟨b, off + i, none⟩ = some (.bool (atb l i))

theorem BoolsAt.below {B : Nat} {w w' : World} {ao : Option Addr} {l : List Bool} (h : BoolsAt w ao l) (hb : Below B w w') (hB : w.heap.size ≤ B) : BoolsAt w' ao l := by
  intro i hi
  obtain ⟨b, off, e, hlt, c⟩ := h i hi
  exact ⟨b, off, e, Nat.lt_of_lt_of_le hlt hb.size, later hb c (by omega)⟩
theorem BoolsAt.alloc {w : World} {ao : Option Addr} {l : List Bool} (h : BoolsAt w ao l) (o : Obj) : BoolsAt (w.alloc o) ao l :=
  h.below (below_one w o) (Nat.le_refl _)
theorem bools_new (w : World) (l : List Bool) (t : TypeId) : BoolsAt (w.alloc (.cells (l.map Value.bool).toArray t)) (some ⟨w.heap.size, 0, none⟩) l := by
  intro i hi
  refine ⟨w.heap.size, 0, rfl, by simp, ?_⟩
  rw [Nat.zero_add, newest, atb_lt l i hi]
  simp [hi]

theorem take_snocb (l : List Bool) (k : Nat) (h : k < l.length) : l.take (k + 1) = l.take k ++ [atb l k] := by
  rw [atb_lt l k h, List.take_succ_eq_append_getElem h]
theorem take_neb (l m : List Bool) (k : Nat) (h : atb l k ≠ atb m k) : l ≠ m := fun e => h (by rw [e])
theorem take_eqb (l m : List Bool) (k : Nat) (h1 : k < l.length) (h2 : k < m.length) (h : atb l k = atb m k) (hp : l.take k = m.take k) : l.take (k + 1) = m.take (k + 1) := by
  rw [take_snocb l k h1, take_snocb m k h2, h, hp]

set_option maxHeartbeats 400000 in
theorem equalBools (a1 a2 : Option Addr) (c1 c2 : Nat) (l m : List Bool) (w : World) (h1 : l.length ≤ maxLen) (h2 : m.length ≤ maxLen) (hL : BoolsAt w a1 l) (hM : BoolsAt w a2 m) :
    Calls Try.prog 23 #[.slice a1 l.length c1, .slice a2 m.length c2] w fun e w' =>
      e = .returned (.bool (decide (l = m))) ∧ ∃ q, w' = w.drewN q := by
  unfold maxLen at h1 h2
  by_cases hlen : l.length = m.length
  · have hb : ((l.length : Int) != (m.length : Int)) = false := by simp [hlen]
    have HL : Hid (l.length = m.length) := hlen
    have hle : l.length ≤ m.length := by omega
    clear hlen
    go_enter Try.func23, Try.ntmps23
    go_wp2
    go_loopw [13] (fun i wr => ∃ k : Nat, k ≤ l.length ∧ i = .int .i64 k ∧ Hid (l.take k = m.take k) ∧ ∃ q, wr = w.drewN q) (fun i _ => l.length - (intOf i).toNat)
    case atStart => exact ⟨0, Nat.zero_le _, rfl, rfl, 0, rfl⟩
    case round =>
      obtain ⟨k, hk, rfl, hok, q, rfl⟩ := hrel
      by_cases hlt : k < l.length
      · obtain ⟨b1, o1, rfl, hb1, d1⟩ := hL k hlt
        obtain ⟨b2, o2, rfl, hb2, d2⟩ := hM k (by omega)
        have hlt2 : k < m.length := by omega
        by_cases he : atb l k = atb m k
        · have HN : Hid (l.take (k + 1) = m.take (k + 1)) := take_eqb l m k hlt hlt2 he hok
          generalize atb l k = x at *
          generalize atb m k = y at *
          subst he
          go_wp2
          go_quiet (fail)
          go_wp2
          go_roundw
          case rel => exact ⟨k + 1, by omega, by go_num, HN, _, rfl⟩
          case measure => simp [intOf]; omega
        · have HN : Hid (decide (l = m) = false) := by rw [Hid]; exact decide_eq_false (take_neb l m k he)
          generalize atb l k = x at *
          generalize atb m k = y at *
          cases x <;> cases y
          · exact absurd rfl he
          · clear he
            go_wp2
            go_quiet (fail)
            go_wp2
            go_ret
            rw [HN.out]
            exact ⟨rfl, _, World.drewN_drewN _ _ _⟩
          · clear he
            go_wp2
            go_quiet (fail)
            go_wp2
            go_ret
            rw [HN.out]
            exact ⟨rfl, _, World.drewN_drewN _ _ _⟩
          · exact absurd rfl he
      · have hkl : k = l.length := by omega
        subst hkl
        have HE : Hid (decide (l = m) = true) := by
          have := hok.out
          rw [List.take_length, List.take_of_length_le (by have := HL.out; omega)] at this
          rw [Hid]; exact decide_eq_true this
        go_wp2
        go_ret
        rw [HE.out]
        exact ⟨rfl, _, rfl⟩
  · have hb : ((l.length : Int) != (m.length : Int)) = true := by rw [bne_iff_ne]; omega
    have hd : decide (l = m) = false := decide_eq_false (fun e => hlen (by rw [e]))
    rw [hd]
    clear hd hlen
    go_enter Try.func23, Try.ntmps23
    go_wp2
    go_ret
    exact ⟨rfl, 0, rfl⟩


/-! ### Contracts of package short -/

/-- what From tells -/
structure FromSays (n : Int) (l : List Arc3) (s : Int) (F : List Int) (K : List Bool) (err : Int) : Prop where
  bad : graphErr n (-10000) l ≠ 0 → err = graphErr n (-10000) l
  node : graphErr n (-10000) l = 0 → ¬ (0 ≤ s ∧ s < n) → err = 4
  loop : graphErr n (-10000) l = 0 → 0 ≤ s ∧ s < n → LoopFrom l s → err = 6
  ok : graphErr n (-10000) l = 0 → 0 ≤ s ∧ s < n → ¬ LoopFrom l s → err = 0 ∧ FromIs n.toNat l s F K
  none : err ≠ 0 → F = [] ∧ K = []

/-- what Heights tells -/
structure HeightsSays (n : Int) (l : List Arc3) (H : List Int) (err : Int) : Prop where
  bad : graphErr n (-10000) l ≠ 0 → err = graphErr n (-10000) l
  loop : graphErr n (-10000) l = 0 → (∃ v, (0 ≤ v ∧ v < n) ∧ Neg l v) → err = 6
  ok : graphErr n (-10000) l = 0 → (¬ ∃ v, (0 ≤ v ∧ v < n) ∧ Neg l v) → err = 0 ∧ HeightsIs n.toNat l H
  none : err ≠ 0 → H = []

def FromC : Prop := ∀ (n s : Int) (ao : Option Addr) (cap : Nat) (l : List Arc3) (w : World), GraphIn w ao cap l →
  Calls Try.prog 9 #[.agg #[.int .i64 n, .slice ao l.length cap], .int .i64 s] w fun e w' => Below w.heap.size w w' ∧
    ∃ a1 c1 F a2 c2 K err, e = .returned (.tuple #[.slice a1 (F : List Int).length c1, .slice a2 (K : List Bool).length c2, .int .i64 err]) ∧ IntsAt w' a1 F ∧ BoolsAt w' a2 K ∧ FromSays n l s F K err
def HeightsC : Prop := ∀ (n : Int) (ao : Option Addr) (cap : Nat) (l : List Arc3) (w : World), GraphIn w ao cap l →
  Calls Try.prog 10 #[.agg #[.int .i64 n, .slice ao l.length cap]] w fun e w' => Below w.heap.size w w' ∧
    ∃ a1 c1 H err, e = .returned (.tuple #[.slice a1 (H : List Int).length c1, .int .i64 err]) ∧ IntsAt w' a1 H ∧ HeightsSays n l H err

/-- without an error all is right, and what is told is what it is -/
theorem FromSays.right {n s : Int} {l : List Arc3} {F : List Int} {K : List Bool} (h : FromSays n l s F K 0) : graphErr n (-10000) l = 0 ∧ (0 ≤ s ∧ s < n) ∧ ¬ LoopFrom l s ∧ FromIs n.toNat l s F K := by
  have h1 : graphErr n (-10000) l = 0 := Classical.byContradiction fun hc => hc (h.bad hc).symm
  have h2 : 0 ≤ s ∧ s < n := Classical.byContradiction fun hc => absurd (h.node h1 hc) (by decide)
  have h3 : ¬ LoopFrom l s := fun hc => absurd (h.loop h1 h2 hc) (by decide)
  exact ⟨h1, h2, h3, (h.ok h1 h2 h3).2⟩
theorem HeightsSays.right {n : Int} {l : List Arc3} {H : List Int} (h : HeightsSays n l H 0) : graphErr n (-10000) l = 0 ∧ (¬ ∃ v, (0 ≤ v ∧ v < n) ∧ Neg l v) ∧ HeightsIs n.toNat l H := by
  have h1 : graphErr n (-10000) l = 0 := Classical.byContradiction fun hc => hc (h.bad hc).symm
  have h3 : ¬ ∃ v, (0 ≤ v ∧ v < n) ∧ Neg l v := fun hc => absurd (h.loop h1 hc) (by decide)
  exact ⟨h1, h3, (h.ok h1 h3).2⟩

end Go.Proofs.Ytakemienlmlgkaa
