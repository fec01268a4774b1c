/- The law EulerEven, walked, out of the contracts of Can and Trail. -/
import Derived.Test.YtkcjemhbenkglaaERounds
import Derived.Test.YtkcjemhbenkglaaEDeg
namespace Go.Proofs.Ytkcjemhbenkglaa
open Go.RowKit
set_option linter.unusedVariables false

/-- at how many nodes, of the first k, not as many arcs lead away as come -/
def unl (l : List Arc3) (k : Nat) : Int := sumN (fun v => one (od l v ≠ idg l v)) k

theorem unl_bounds (l : List Arc3) (k : Nat) : 0 ≤ unl l k ∧ unl l k ≤ k := by
  unfold unl
  induction k with
  | zero => exact ⟨Int.le_refl _, Int.le_refl _⟩
  | succ k ih => have := one_bounds (od l k ≠ idg l k); simp only [sumN]; omega

theorem unl_same {l : List Arc3} (h : ∀ v, od l v = idg l v) (k : Nat) : unl l k = 0 := sumN_zero fun v _ => one_no (fun e => e (h v))

theorem unl_two {N : Nat} {l : List Arc3} (hl : ∀ a ∈ l, (0 ≤ a.1 ∧ a.1 < (N : Int)) ∧ (0 ≤ a.2.1 ∧ a.2.1 < (N : Int))) {s t : Int} (hb : Bal l s t) (hst : s ≠ t) : unl l N = 2 := by
  obtain ⟨⟨p1, p2⟩, p3, p4⟩ := bal_nodes hl hb hst
  obtain ⟨s, rfl⟩ := Int.eq_ofNat_of_zero_le p1
  obtain ⟨t, rfl⟩ := Int.eq_ofNat_of_zero_le p3
  unfold unl
  have e : sumN (fun v => one (od l v ≠ idg l v)) N = sumN (fun v => one (v = s) + one (v = t)) N := sumN_congr fun v _ => by
    have h := hb v
    by_cases e1 : v = s
    · subst e1
      rw [one_yes rfl, one_no hst] at h
      rw [one_yes (p := v = v) rfl, one_no (p := v = t) (by omega), one_yes (by omega)]; rfl
    · by_cases e2 : v = t
      · subst e2
        rw [one_no (fun h => hst h.symm), one_yes rfl] at h
        rw [one_no (p := v = s) e1, one_yes (p := v = v) rfl, one_yes (by omega)]; rfl
      · rw [one_no (by omega), one_no (by omega)] at h
        rw [one_no (p := v = s) e1, one_no (p := v = t) e2, one_no (by omega)]; rfl
  rw [e, sumN_add, sumN_single (k := s) (by omega) fun v _ h => one_no h, sumN_single (k := t) (by omega) fun v _ h => one_no h, one_yes rfl, one_yes rfl]
  rfl

set_option maxHeartbeats 2000000 in
set_option maxRecDepth 100000 in
theorem EulerEven_any (hC : CanC) (hT : TrailC) (n : Int) (ao : Option Addr) (cap : Nat) (l : List Arc3) (w : World) (hG : GraphIn w ao cap l) :
    Calls Try.prog 4 #[.agg #[.int .i64 n, .slice ao l.length cap]] w fun e w' => e = .returned (.bool true) ∧ Below w.heap.size w w' := by
  have hm := hG.len
  have hG0 := hG.alloc (.cells #[.int .i64 n, .slice ao l.length cap] 24)
  have x0 := blk_new w (.cells #[.int .i64 n, .slice ao l.length cap] 24)
  go_enter Try.func4, Try.ntmps4
  go_wp2_with fail
  refine (rounds_any hC hT _).mono ?_
  rintro e w1 ⟨rfl, hb1⟩
  simp only [World.size_alloc] at hb1
  have hz1 := hb1.size
  simp only [World.size_alloc] at hz1
  have x1 := blk_below hb1 x0 (by omega)
  have hG1 := hG0.below hb1 (by simp)
  have hbb1 := below_in hb1 (by omega)
  have hw1 : w.heap.size < w1.heap.size := by omega
  clear hb1 x0 hG0 hG
  obtain ⟨r0, r1, f0, f1⟩ := blk2 x1
  go_wp2_with fail
  refine (hC n ao cap l w1 hG1).mono ?_
  rintro e w2 ⟨hb2, k, rfl, hk0, hk1⟩
  have hz2 := hb2.size
  have x2 := blk_below hb2 x1 (by omega)
  have hG2 := hG1.below hb2 (Nat.le_refl _)
  have hbb2 := hbb1.trans (hb2.mono (by omega))
  have hw2 : w.heap.size < w2.heap.size := by omega
  clear hb2 x1 hG1 hbb1 r0 r1 f0 f1
  obtain ⟨r0, r1, f0, f1⟩ := blk2 x2
  go_wp2_with fail
  by_cases hE : graphErr n (-10000) l = 0
  · obtain ⟨⟨hn1, hn2⟩, hlen, hnodes⟩ := err_ok hE
    obtain ⟨N, rfl⟩ := Int.eq_ofNat_of_zero_le (show 0 ≤ n by omega)
    have HL : Hid (∀ a ∈ l, (0 ≤ a.1 ∧ a.1 < (N : Int)) ∧ (0 ≤ a.2.1 ∧ a.2.1 < (N : Int))) := fun a ha => ⟨(hnodes a ha).1, (hnodes a ha).2.1⟩
    have h12 : N ≤ 12 := by omega
    have HK : Hid (CanIs l k) := hk1 hE
    refine (Degrees_ok N ao cap l _ hG2.arcs hE).mono ?_
    rintro e w3 ⟨hb3, b, c, hb, hbc, rfl, hO, hI⟩
    have hbb3 := hbb2.trans (hb3.mono (by omega))
    have HO : Hid (IntsAt w3 (some ⟨b, 0, none⟩) (outs N l)) := hO
    have HI : Hid (IntsAt w3 (some ⟨c, 0, none⟩) (ins N l)) := hI
    rw [hE]
    have h00 : ((0 : Int) != 0) = false := rfl
    have h01 : ((0 : Int) == 0) = true := rfl
    clear hO hI hb3 hbb2 hG2 x2 r0 r1 f0 f1 hk0 hk1 hE hnodes
    by_cases hkz : k = 0
    · subst hkz
      go_wp2
      go_ret
      exact ⟨rfl, hbb3⟩
    · have e0 : (k == 0) = false := by simpa using hkz
      have HU : Hid ((k = 2 ∧ unl l N = 0) ∨ (k = 1 ∧ unl l N = 2)) := by
        rcases HK.out with ⟨e, _, h⟩ | ⟨e, _, s, t, hst, hb⟩ | ⟨e, _⟩
        · exact Or.inl ⟨e, unl_same h N⟩
        · exact Or.inr ⟨e, unl_two HL.out hb hst⟩
        · exact absurd e hkz
      clear hkz
      go_wp2
      go_loopw [8, 42] (fun u i wr => ∃ j : Nat, j ≤ N ∧ i = .int .i64 j ∧ u = .int .i64 (unl l j) ∧ Below w3.heap.size w3 wr) (fun _ i _ => N - (intOf i).toNat)
      case atStart => exact ⟨0, Nat.zero_le _, rfl, rfl, Below.refl _ _⟩
      case round =>
        obtain ⟨j, hj, rfl, rfl, hB⟩ := hrel
        have hz := hB.size
        by_cases hlt : j < N
        · obtain ⟨_, _, e1, hb1, q0⟩ := HO.out.below hB (Nat.le_refl _) j (by rw [outs_length]; exact hlt)
          cases e1
          obtain ⟨_, _, e1, hb2, q1⟩ := HI.out.below hB (Nat.le_refl _) j (by rw [ins_length]; exact hlt)
          cases e1
          rw [ati_outs N l j hlt, Nat.zero_add] at q0
          rw [ati_ins N l j hlt, Nat.zero_add] at q1
          have g0 := unl_bounds l j
          have HS : Hid (unl l (j + 1) = unl l j + one (outDeg l j ≠ inDeg l j)) := rfl
          generalize unl l j = m at *
          generalize outDeg l j = x at *
          generalize inDeg l j = y at *
          have HB : Hid (Below w3.heap.size w3 wr) := hB
          obtain ⟨g0, g1⟩ := g0
          have g2 : m ≤ 12 := by omega
          clear hB
          by_cases e : x = y
          · subst e
            have ee : (x != x) = false := by simp
            have HE : Hid (unl l (j + 1) = m) := by rw [Hid, HS.out, one_no (fun h => h rfl)]; omega
            go_wp2
            go_quiet (fail)
            go_wp2
            go_roundw
            case rel => exact ⟨j + 1, by omega, by go_num, by rw [HE.out], below_drewN HB.out _⟩
            case measure => simp [intOf]; omega
          · have ee : (x != y) = true := by simpa using e
            have HE : Hid (unl l (j + 1) = m + 1) := by rw [Hid, HS.out, one_yes e]
            clear e
            go_wp2
            go_quiet (fail)
            go_wp2
            go_roundw
            case rel => exact ⟨j + 1, by omega, by go_num, by rw [HE.out], below_drewN HB.out _⟩
            case measure => simp [intOf]; omega
        · have hjN : N = j := by omega
          subst hjN
          have HB : Hid (Below w.heap.size w wr) := hbb3.trans (hB.mono (by have := hbb3.size; omega))
          clear hB
          rcases HU.out with ⟨rfl, eu⟩ | ⟨rfl, eu⟩
          · rw [eu]
            have h22 : ((2 : Int) == 2) = true := rfl
            clear eu
            go_wp2
            go_ret
            exact ⟨rfl, HB.out⟩
          · rw [eu]
            have h12 : ((1 : Int) == 2) = false := rfl
            have h11 : ((1 : Int) == 1) = true := rfl
            have h22 : ((2 : Int) == 2) = true := rfl
            clear eu
            go_wp2
            go_ret
            exact ⟨rfl, HB.out⟩
  · have HE : Hid (graphErr n (-10000) l ≠ 0) := hE
    have hk : k = 0 := hk0 hE
    subst hk
    refine (Degrees_err n ao cap l _ hm hG2.arcs hE).mono ?_
    have hE' : (graphErr n (-10000) l != 0) = true := by simpa using hE
    have hE2 : (graphErr n (-10000) l == graphErr n (-10000) l) = true := by simp
    clear hE hk0 hk1
    rintro e w3 ⟨hb3, rfl⟩
    have hbb3 := hbb2.trans (hb3.mono (by omega))
    generalize graphErr n (-10000) l = ge at *
    go_wp2
    go_ret
    exact ⟨rfl, hbb3⟩

end Go.Proofs.Ytkcjemhbenkglaa
