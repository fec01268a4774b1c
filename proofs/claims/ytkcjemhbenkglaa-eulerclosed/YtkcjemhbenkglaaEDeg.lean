/- Contracts of package euler: byDegrees, start. -/
import Derived.Test.YtkcjemhbenkglaaEMath
import Derived.Test.YtkcjemhbenkglaaMk
import Derived.Test.YtkcjemhbenkglaaRowK
namespace Go.Proofs.Ytkcjemhbenkglaa
open Go.RowKit
set_option linter.unusedVariables false

theorem od_out {N : Nat} {l : List Arc3} (hl : ∀ a ∈ l, (0 ≤ a.1 ∧ a.1 < (N : Int)) ∧ (0 ≤ a.2.1 ∧ a.2.1 < (N : Int))) {v : Int} (hv : ¬ (0 ≤ v ∧ v < (N : Int))) : od l v = 0 ∧ idg l v = 0 := by
  constructor
  · have h0 := od_nonneg l v
    refine Decidable.byContradiction fun h => ?_
    obtain ⟨a, ha, e⟩ := od_pos (l := l) (v := v) (by omega)
    exact hv (by rw [← e]; exact (hl a ha).1)
  · have h0 := idg_nonneg l v
    refine Decidable.byContradiction fun h => ?_
    obtain ⟨a, ha, e⟩ := idg_pos (l := l) (v := v) (by omega)
    exact hv (by rw [← e]; exact (hl a ha).2)

theorem deg_sum {N : Nat} {l : List Arc3} (hl : ∀ a ∈ l, (0 ≤ a.1 ∧ a.1 < (N : Int)) ∧ (0 ≤ a.2.1 ∧ a.2.1 < (N : Int))) : sumN (fun v => od l v - idg l v) N = 0 := by
  have h1 := count_from N (fun _ => true) l fun a ha => (hl a ha).1
  have h2 := count_to N (fun _ => true) l fun a ha => (hl a ha).2
  simp only [if_true] at h1 h2
  rw [sumN_sub, ← h1, ← h2]
  omega

/-- differences whose sum is 0: what those above 0 come to -/
theorem deg_none {N : Nat} {d : Nat → Int} (h0 : sumN d N = 0) (h : sumN (fun v => max (d v) 0) N = 0) : ∀ v, v < N → d v = 0 := by
  have hn : sumN (fun v => max (d v) 0 - max (- d v) 0) N = 0 := by rw [← h0]; exact sumN_congr fun v _ => by omega
  rw [sumN_sub, h] at hn
  intro v hv
  have h1 : max (d v) 0 = 0 := sumN_none (f := fun v => max (d v) 0) (fun v _ => by omega) h hv
  have h2 : max (- d v) 0 = 0 := sumN_none (f := fun v => max (- d v) 0) (fun v _ => by omega) (by omega) hv
  omega

theorem deg_two {N : Nat} {d : Nat → Int} (h0 : sumN d N = 0) (h : sumN (fun v => max (d v) 0) N = 1) :
    ∃ s t, s < N ∧ t < N ∧ s ≠ t ∧ d s = 1 ∧ d t = -1 ∧ ∀ v, v < N → v ≠ s → v ≠ t → d v = 0 := by
  have hn : sumN (fun v => max (d v) 0 - max (- d v) 0) N = 0 := by rw [← h0]; exact sumN_congr fun v _ => by omega
  rw [sumN_sub, h] at hn
  obtain ⟨s, hs, s1, s0⟩ := sumN_one (f := fun v => max (d v) 0) (fun v _ => by omega) h
  obtain ⟨t, ht, t1, t0⟩ := sumN_one (f := fun v => max (- d v) 0) (n := N) (fun v _ => by omega) (by omega)
  refine ⟨s, t, hs, ht, fun e => by subst e; omega, by omega, by omega, fun v hv e1 e2 => ?_⟩
  have := s0 v hv e1; have := t0 v hv e2
  omega

/-- the other way round -/
theorem two_deg {N : Nat} {d : Nat → Int} {s t : Nat} (hs : s < N) (ht : t < N) (hst : s ≠ t) (h1 : d s = 1) (h2 : d t = -1) (h : ∀ v, v < N → v ≠ s → v ≠ t → d v = 0) :
    sumN (fun v => max (d v) 0) N = 1 := by
  rw [sumN_single (k := s) hs fun v hv e => ?_]
  · rw [h1]; rfl
  · by_cases e2 : v = t
    · subst e2; rw [h2]; rfl
    · rw [h v hv e e2]; rfl

theorem bal_nodes {N : Nat} {l : List Arc3} (hl : ∀ a ∈ l, (0 ≤ a.1 ∧ a.1 < (N : Int)) ∧ (0 ≤ a.2.1 ∧ a.2.1 < (N : Int))) {s t : Int} (hb : Bal l s t) (hst : s ≠ t) :
    (0 ≤ s ∧ s < (N : Int)) ∧ (0 ≤ t ∧ t < (N : Int)) := by
  have hs := hb s; have ht := hb t
  rw [one_yes rfl, one_no hst] at hs
  rw [one_no (fun h => hst h.symm), one_yes rfl] at ht
  refine ⟨Decidable.byContradiction fun h => ?_, Decidable.byContradiction fun h => ?_⟩
  · have := od_out hl h; omega
  · have := od_out hl h; omega

def degK (m : Int) : Int := if m = 0 then 2 else if m = 1 then 1 else 0

theorem bal_of_two {N : Nat} {l : List Arc3} (hl : ∀ a ∈ l, (0 ≤ a.1 ∧ a.1 < (N : Int)) ∧ (0 ≤ a.2.1 ∧ a.2.1 < (N : Int))) {s t : Nat} (hs : s < N) (ht : t < N) (hst : s ≠ t)
    (h1 : od l s - idg l s = 1) (h2 : od l t - idg l t = -1) (h : ∀ v : Nat, v < N → v ≠ s → v ≠ t → od l v - idg l v = 0) : Bal l s t := by
  intro v
  by_cases hv : 0 ≤ v ∧ v < (N : Int)
  · obtain ⟨v, rfl⟩ := Int.eq_ofNat_of_zero_le hv.1
    by_cases e1 : v = s
    · subst e1; rw [one_yes rfl, one_no (by omega), h1]; rfl
    · by_cases e2 : v = t
      · subst e2; rw [one_no (by omega), one_yes rfl, h2]; rfl
      · rw [one_no (by omega), one_no (by omega), h v (by omega) e1 e2]; rfl
  · have := od_out hl hv
    rw [one_no (by omega), one_no (by omega)]; omega

theorem same_of_none {N : Nat} {l : List Arc3} (hl : ∀ a ∈ l, (0 ≤ a.1 ∧ a.1 < (N : Int)) ∧ (0 ≤ a.2.1 ∧ a.2.1 < (N : Int))) (h : ∀ v : Nat, v < N → od l v - idg l v = 0) : ∀ v, od l v = idg l v := by
  intro v
  by_cases hv : 0 ≤ v ∧ v < (N : Int)
  · obtain ⟨v, rfl⟩ := Int.eq_ofNat_of_zero_le hv.1
    have := h v (by omega); omega
  · have := od_out hl hv; omega

/-- what a trail that can be gone asks of the differences -/
theorem bal_cases {N : Nat} {l : List Arc3} (hl : ∀ a ∈ l, (0 ≤ a.1 ∧ a.1 < (N : Int)) ∧ (0 ≤ a.2.1 ∧ a.2.1 < (N : Int))) {s t : Int} (hb : Bal l s t) :
    sumN (fun v => max (od l v - idg l v) 0) N = 0 ∨ sumN (fun v => max (od l v - idg l v) 0) N = 1 := by
  by_cases e : s = t
  · subst e
    refine Or.inl (sumN_zero fun v _ => ?_)
    have := same_bal hb v; omega
  · obtain ⟨⟨p1, p2⟩, p3, p4⟩ := bal_nodes hl hb e
    obtain ⟨s, rfl⟩ := Int.eq_ofNat_of_zero_le p1
    obtain ⟨t, rfl⟩ := Int.eq_ofNat_of_zero_le p3
    refine Or.inr (two_deg (s := s) (t := t) (d := fun v => od l v - idg l v) (by omega) (by omega) (by omega) ?_ ?_ fun v hv e1 e2 => ?_)
    · have := hb s; rwa [one_yes rfl, one_no e] at this
    · have := hb t; rwa [one_no (fun h => e h.symm), one_yes rfl] at this
    · have := hb v; rwa [one_no (by omega), one_no (by omega)] at this

theorem canIs_deg {N : Nat} {l : List Arc3} (hl : ∀ a ∈ l, (0 ≤ a.1 ∧ a.1 < (N : Int)) ∧ (0 ≤ a.2.1 ∧ a.2.1 < (N : Int))) (hc : Conn l) :
    CanIs l (degK (sumN (fun v => max (od l v - idg l v) 0) N)) := by
  have h0 := deg_sum hl
  unfold degK
  by_cases e0 : sumN (fun v => max (od l v - idg l v) 0) N = 0
  · rw [if_pos e0]
    exact Or.inl ⟨rfl, hc, same_of_none hl (deg_none (d := fun v => od l v - idg l v) h0 e0)⟩
  · rw [if_neg e0]
    by_cases e1 : sumN (fun v => max (od l v - idg l v) 0) N = 1
    · rw [if_pos e1]
      obtain ⟨s, t, hs, ht, hst, d1, d2, d0⟩ := deg_two (d := fun v => od l v - idg l v) h0 e1
      exact Or.inr (Or.inl ⟨rfl, hc, s, t, by omega, bal_of_two hl hs ht hst d1 d2 d0⟩)
    · rw [if_neg e1]
      refine Or.inr (Or.inr ⟨rfl, fun ⟨_, s, t, hb⟩ => ?_⟩)
      rcases bal_cases hl hb with h | h
      · exact e0 h
      · exact e1 h

theorem canIs_no {l : List Arc3} (h : ¬ Conn l) : CanIs l 0 := Or.inr (Or.inr ⟨rfl, fun hc => h hc.1⟩)

/-- which node start tells -/
def StartIs (N : Nat) (l : List Arc3) (s : Int) : Prop :=
  (∃ v : Nat, v < N ∧ idg l v < od l v ∧ s = v) ∨ ((∀ v : Nat, v < N → od l v ≤ idg l v) ∧ (l = [] ∨ (l ≠ [] ∧ s = (at3 l 0).1)))

theorem StartIs.bal {N : Nat} {l : List Arc3} (hl : ∀ a ∈ l, (0 ≤ a.1 ∧ a.1 < (N : Int)) ∧ (0 ≤ a.2.1 ∧ a.2.1 < (N : Int))) {s : Int} (h : StartIs N l s) {s' t' : Int} (hb : Bal l s' t') :
    (∃ t, Bal l s t) ∧ (l ≠ [] → ∃ a ∈ l, a.1 = s) := by
  rcases h with ⟨v, hv, hgt, rfl⟩ | ⟨hle, hs⟩
  · have h1 := hb v
    have e : (v : Int) = s' := Decidable.byContradiction fun e => by
      rw [one_no e] at h1
      have := one_bounds ((v : Int) = t')
      omega
    refine ⟨⟨t', e ▸ hb⟩, fun _ => ?_⟩
    have := idg_nonneg l v
    exact od_pos (by omega)
  · have e : s' = t' := Decidable.byContradiction fun e => by
      obtain ⟨⟨p1, p2⟩, _⟩ := bal_nodes hl hb e
      obtain ⟨i, rfl⟩ := Int.eq_ofNat_of_zero_le p1
      have h1 := hb i
      rw [one_yes rfl, one_no e] at h1
      have := hle i (by omega)
      omega
    subst e
    refine ⟨⟨s, bal_same (same_bal hb) s⟩, fun hne => ?_⟩
    rcases hs with e | ⟨_, e⟩
    · exact absurd e hne
    · exact ⟨at3 l 0, at3_mem l 0 (List.length_pos_iff.2 hne), e.symm⟩

theorem ati_ins (N : Nat) (l : List Arc3) (v : Nat) (h : v < N) : ati (ins N l) v = inDeg l v := by
  rw [ati_lt _ _ (by rw [ins_length]; exact h)]; simp [ins]

set_option maxHeartbeats 1000000 in
theorem byDegrees_any (N : Nat) (a1 a2 : Option Addr) (c1 c2 : Nat) (l : List Arc3) (w : World) (hO : IntsAt w a1 (outs N l)) (hI : IntsAt w a2 (ins N l)) (hlen : l.length ≤ 60) (h12 : N ≤ 12) :
    Calls Try.prog 18 #[.slice a1 N c1, .slice a2 N c2] w fun e w' => Below w.heap.size w w' ∧ e = .returned (.int .i64 (degK (sumN (fun v => max (od l v - idg l v) 0) N))) := by
  have HO : Hid (IntsAt w a1 (outs N l)) := hO
  have HI : Hid (IntsAt w a2 (ins N l)) := hI
  clear hO hI
  go_enter Try.func18, Try.ntmps18
  go_wp2
  go_loopw [5, 9] (fun m i wr => ∃ k : Nat, k ≤ N ∧ i = .int .i64 k ∧ m = .int .i64 (sumN (fun v => max (od l v - idg l v) 0) k) ∧ 0 ≤ sumN (fun v => max (od l v - idg l v) 0) k ∧ sumN (fun v => max (od l v - idg l v) 0) k ≤ 60 * k ∧ Below w.heap.size w wr) (fun _ i _ => N - (intOf i).toNat)
  case atStart => exact ⟨0, Nat.zero_le _, rfl, rfl, Int.le_refl _, Int.le_refl _, Below.refl _ _⟩
  case round =>
    obtain ⟨k, hk, rfl, rfl, hs0, hs1, hB⟩ := hrel
    have hz := hB.size
    by_cases hlt : k < N
    · obtain ⟨b1, o1, rfl, hb1, q0⟩ := HO.out.below hB (Nat.le_refl _) k (by rw [outs_length]; exact hlt)
      obtain ⟨b2, o2, rfl, hb2, q1⟩ := HI.out.below hB (Nat.le_refl _) k (by rw [ins_length]; exact hlt)
      rw [ati_outs N l k hlt] at q0
      rw [ati_ins N l k hlt] at q1
      have g0 := outDeg_le l k
      have g1 := inDeg_le l k
      have HS : Hid (sumN (fun v => max (od l v - idg l v) 0) (k + 1) = sumN (fun v => max (od l v - idg l v) 0) k + max (outDeg l k - inDeg l k) 0) := rfl
      generalize sumN (fun v => max (od l v - idg l v) 0) k = m at *
      generalize outDeg l k = x at *
      generalize inDeg l k = y at *
      have HB : Hid (Below w.heap.size w wr) := hB
      have h60 : x ≤ 60 ∧ y ≤ 60 := by omega
      have hm720 : m ≤ 720 := by omega
      obtain ⟨h60a, h60b⟩ := h60
      obtain ⟨g0, _⟩ := g0
      obtain ⟨g1, _⟩ := g1
      clear hB
      by_cases e : 0 < x - y
      · have e' : ¬ x - y < 0 := by omega
        have HE : Hid (max (x - y) 0 = x - y) := by rw [Hid]; omega
        go_wp2
        go_quiet (fail)
        go_wp2
        go_roundw
        case rel => exact ⟨k + 1, by omega, by go_num, by rw [HS.out, HE.out], by rw [HS.out, HE.out]; omega, by rw [HS.out, HE.out]; omega, below_drewN HB.out _⟩
        case measure => simp [intOf]; omega
      · have HE : Hid (max (x - y) 0 = 0) := by rw [Hid]; omega
        go_wp2
        go_quiet (fail)
        go_wp2
        go_roundw
        case rel => exact ⟨k + 1, by omega, by go_num, congrArg (Value.int .i64) (by rw [HS.out, HE.out]; split <;> omega), by rw [HS.out, HE.out]; omega, by rw [HS.out, HE.out]; omega, below_drewN HB.out _⟩
        case measure => simp [intOf]; omega
    · have hkk : N = k := by omega
      subst hkk
      generalize hm : sumN (fun v => max (od l v - idg l v) 0) N = m at hs0 hs1 ⊢
      have HM : Hid (sumN (fun v => max (od l v - idg l v) 0) N = m) := hm
      clear hm
      by_cases e0 : m = 0
      · subst e0
        go_wp2
        go_ret
        exact ⟨hB, by rw [HM.out]; rfl⟩
      · by_cases e1 : m = 1
        · subst e1
          go_wp2
          go_ret
          exact ⟨hB, by rw [HM.out]; rfl⟩
        · have HK : Hid (degK m = 0) := by rw [Hid, degK, if_neg e0, if_neg e1]
          have f0 : (m == 0) = false := by simpa using e0
          have f1 : (m == 1) = false := by simpa using e1
          clear e0 e1
          go_wp2
          go_ret
          exact ⟨hB, by rw [HM.out, HK.out]; rfl⟩

set_option maxHeartbeats 1000000 in
theorem start_any (N : Nat) (ao a1 a2 : Option Addr) (cap c1 c2 : Nat) (l : List Arc3) (w : World) (hA : ArcsAt w ao l) (hO : IntsAt w a1 (outs N l)) (hI : IntsAt w a2 (ins N l)) (hlen : l.length ≤ 60) (h12 : N ≤ 12) :
    Calls Try.prog 20 #[.slice ao l.length cap, .slice a1 N c1, .slice a2 N c2] w fun e w' => (∃ n, w' = w.drewN n) ∧ ∃ s, e = .returned (.int .i64 s) ∧ StartIs N l s := by
  have HA : Hid (ArcsAt w ao l) := hA
  have HO : Hid (IntsAt w a1 (outs N l)) := hO
  have HI : Hid (IntsAt w a2 (ins N l)) := hI
  clear hO hI hA
  go_enter Try.func20, Try.ntmps20
  go_wp2
  go_loopw [10] (fun i wr => ∃ k : Nat, k ≤ N ∧ i = .int .i64 k ∧ Hid (∀ v : Nat, v < k → od l v ≤ idg l v) ∧ ∃ n, wr = w.drewN n) (fun i _ => N - (intOf i).toNat)
  case atStart => exact ⟨0, Nat.zero_le _, rfl, fun v hv => absurd hv (Nat.not_lt_zero _), 0, rfl⟩
  case round =>
    obtain ⟨k, hk, rfl, hle, n, rfl⟩ := hrel
    by_cases hlt : k < N
    · obtain ⟨b1, o1, rfl, hb1, q0⟩ := HO.out k (by rw [outs_length]; exact hlt)
      obtain ⟨b2, o2, rfl, hb2, q1⟩ := HI.out k (by rw [ins_length]; exact hlt)
      rw [ati_outs N l k hlt] at q0
      rw [ati_ins N l k hlt] at q1
      have HX : Hid (outDeg l k = od l k) := rfl
      have HY : Hid (inDeg l k = idg l k) := rfl
      generalize outDeg l k = x at *
      generalize inDeg l k = y at *
      by_cases e : y < x
      · have HS : Hid (StartIs N l (k : Int)) := Or.inl ⟨k, hlt, by rw [← HX.out, ← HY.out]; exact e, rfl⟩
        go_wp2
        go_quiet (fail)
        go_wp2
        go_ret
        exact ⟨⟨_, World.drewN_drewN ..⟩, k, rfl, HS.out⟩
      · have HN : Hid (∀ v : Nat, v < k + 1 → od l v ≤ idg l v) := fun v hv => by
          by_cases ev : v = k
          · subst ev; rw [← HX.out, ← HY.out]; omega
          · exact hle.out v (by omega)
        go_wp2
        go_quiet (fail)
        go_wp2
        go_roundw
        case rel => exact ⟨k + 1, by omega, by go_num, HN, _, rfl⟩
        case measure => simp [intOf]; omega
    · have hkk : N = k := by omega
      subst hkk
      by_cases e : l.length = 0
      · have HS : Hid (StartIs N l 0) := Or.inr ⟨hle.out, Or.inl (List.length_eq_zero_iff.1 e)⟩
        go_wp2
        go_ret
        exact ⟨⟨_, rfl⟩, 0, rfl, HS.out⟩
      · have HS : Hid (StartIs N l (at3 l 0).1) := Or.inr ⟨hle.out, Or.inr ⟨fun h => e (by rw [h]; rfl), rfl⟩⟩
        obtain ⟨b, off, rfl, hb, c0, c1, c2⟩ := HA.out 0 (by omega)
        rw [Nat.zero_mul, Nat.add_zero] at c0
        generalize (at3 l 0).1 = x at *
        go_wp2
        go_ret
        exact ⟨⟨_, rfl⟩, x, rfl, HS.out⟩

end Go.Proofs.Ytkcjemhbenkglaa
