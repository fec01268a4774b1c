/- Contract of the law's own helper trail. -/
import Derived.Test.YtkcjemhbenkglaaENums
namespace Go.Proofs.Ytkcjemhbenkglaa
open Go.RowKit
set_option linter.unusedVariables false

theorem ChN.first {l : List Arc3} {K : List Nat} {s t : Int} (h : ChN l s K t) (hK : 0 < K.length) : (at3 l (K.getD 0 0)).1 = s := by
  cases K with
  | nil => simp at hK
  | cons k r => exact h.2.1

theorem ChN.last {l : List Arc3} : ∀ {K : List Nat} {s t : Int}, ChN l s K t → 0 < K.length → (at3 l (K.getD (K.length - 1) 0)).2.1 = t
  | [], _, _, _, hK => by simp at hK
  | [k], _, _, ⟨_, _, h⟩, _ => h
  | k :: j :: r, s, t, ⟨_, _, h⟩, _ => by
    have := ChN.last (K := j :: r) h (by simp)
    simpa using this

set_option maxHeartbeats 2000000 in
set_option maxRecDepth 100000 in
theorem lawTrail_any (n : Int) (ao aK : Option Addr) (cap cK : Nat) (l : List Arc3) (K : List Nat) (rd : Bool) (s t : Int) (w : World) (hA : ArcsAt w ao l) (hlen : l.length ≤ 60)
    (hI : IntsAt w aK (nums K)) (hn : aK = none → K.length = 0 ∧ cK = 0) (hTr : TrailIs l s t K) (hrd : rd = true → s = t) :
    Calls Try.prog 11 #[.agg #[.int .i64 n, .slice ao l.length cap], .slice aK K.length cK, .bool rd] w fun e w' => e = .returned (.bool true) ∧ Below w.heap.size w w' := by
  have HTr : Hid (TrailIs l s t K) := hTr
  have HRd : Hid (rd = true → s = t) := hrd
  have hKl := hTr.len
  have HKl : Hid (K.length = l.length) := hKl
  have x0 := blk_new w (.cells #[.int .i64 n, .slice ao l.length cap] 24)
  have hA0 := hA.alloc (.cells #[.int .i64 n, .slice ao l.length cap] 24)
  have hI0 := hI.alloc (.cells #[.int .i64 n, .slice ao l.length cap] 24)
  have hN := Numbers_any aK cK K l.length (w.alloc (.cells #[.int .i64 n, .slice ao l.length cap] 24)) hI0 hn (by omega) hTr.nd hTr.lt hKl
  clear hTr hrd hA hI hn hKl
  go_enter Try.func11, Try.ntmps11
  go_wp2_with fail
  refine hN.mono ?_
  clear hN
  rintro e w1 ⟨rfl, hb1⟩
  simp only [World.size_alloc] at hb1
  have hz1 := hb1.size
  simp only [World.size_alloc] at hz1
  have HX : Hid (w1.heap[w.heap.size]? = some (.cells #[.int .i64 n, .slice ao l.length cap] 24 (0, 0))) := blk_below hb1 x0 (by omega)
  have HA : Hid (ArcsAt w1 ao l) := hA0.below hb1 (by simp)
  have HI : Hid (IntsAt w1 aK (nums K)) := hI0.below hb1 (by simp)
  have hbb1 := below_in hb1 (by omega)
  have hw1 : w.heap.size < w1.heap.size := by omega
  clear hb1 x0 hA0 hI0
  have hKl := HKl.out
  rw [hKl]
  clear hKl
  go_wp2
  go_loopw [7] (fun i wr => ∃ j : Nat, 1 ≤ j ∧ i = .int .i64 j ∧ Below w1.heap.size w1 wr) (fun i _ => l.length - (intOf i).toNat)
  case atStart => exact ⟨1, Nat.le_refl _, rfl, Below.refl _ _⟩
  case round =>
    obtain ⟨j, hj, rfl, hB⟩ := hrel
    have hKl := HKl.out
    have hz := hB.size
    obtain ⟨r0, r1, f0, f1⟩ := blk2 (blk_below hB HX.out hw1)
    have hwr : w.heap.size < wr.heap.size := by omega
    by_cases hlt : j < l.length
    · obtain ⟨i, rfl⟩ : ∃ i, j = i + 1 := ⟨j - 1, by omega⟩
      have hi1 : i + 1 < K.length := by omega
      have hx1 := HTr.out.lt _ (getD_mem K (i + 1) hi1)
      have hx0 := HTr.out.lt _ (getD_mem K i (by omega))
      have hch := HTr.out.ch.next i hi1
      obtain ⟨b5, o5, rfl, hb5, q1⟩ := HI.out.below hB (Nat.le_refl _) (i + 1) (by rw [nums_length]; exact hi1)
      obtain ⟨_, _, e5, _, q0⟩ := HI.out.below hB (Nat.le_refl _) i (by rw [nums_length]; omega)
      cases e5
      rw [nums_ati K _ hi1] at q1
      rw [nums_ati K _ (by omega)] at q0
      generalize K.getD (i + 1) 0 = x at *
      generalize K.getD i 0 = y at *
      obtain ⟨ba, oa, rfl, hba, c0, _, _⟩ := HA.out.below hB (Nat.le_refl _) x hx1
      obtain ⟨_, _, e5, _, _, c1, _⟩ := HA.out.below hB (Nat.le_refl _) y hx0
      cases e5
      rw [hch] at c0
      generalize (at3 l y).2.1 = u at *
      have huu : (u != u) = false := by simp
      have HB : Hid (Below w1.heap.size w1 wr) := hB
      clear hch hB hKl hi1
      go_wp2
      go_quiet (fail)
      go_wp2
      go_roundw
      case rel => exact ⟨i + 1 + 1, by omega, by go_num, below_drewN HB.out _⟩
      case measure => simp [intOf]; omega
    · have hB5 : Below w.heap.size w wr := hbb1.trans (hB.mono (by have := hbb1.size; omega))
      have HB5 : Hid (Below w.heap.size w wr) := hB5
      by_cases h0 : l.length = 0
      · rw [h0]
        have h00 : ((0 : Int) == 0) = true := rfl
        clear hB5 hKl
        go_wp2
        go_quiet (fail)
        go_wp2
        go_ret
        exact ⟨rfl, below_drewN HB5.out _⟩
      · have h00 : ((l.length : Int) == 0) = false := by simpa using h0
        cases rd with
        | false =>
          clear hB5 hKl
          go_wp2
          go_quiet (fail)
          go_wp2
          go_ret
          exact ⟨rfl, below_drewN HB5.out _⟩
        | true =>
          have hst := HRd.out rfl
          have hK0 : 0 < K.length := by omega
          have e1 := HTr.out.ch.first hK0
          have e2 := HTr.out.ch.last hK0
          rw [hKl] at e2
          have hx0 := HTr.out.lt _ (getD_mem K 0 hK0)
          have hx1 := HTr.out.lt _ (getD_mem K (l.length - 1) (by omega))
          obtain ⟨b5, o5, rfl, hb5, q0⟩ := HI.out.below hB (Nat.le_refl _) 0 (by rw [nums_length]; exact hK0)
          obtain ⟨_, _, e5, _, q1⟩ := HI.out.below hB (Nat.le_refl _) (l.length - 1) (by rw [nums_length]; omega)
          cases e5
          rw [nums_ati K _ hK0, Nat.add_zero] at q0
          rw [nums_ati K _ (by omega)] at q1
          generalize K.getD (l.length - 1) 0 = x at *
          generalize K.getD 0 0 = y at *
          obtain ⟨ba, oa, rfl, hba, c0, _, _⟩ := HA.out.below hB (Nat.le_refl _) y hx0
          obtain ⟨_, _, e5, _, _, c1, _⟩ := HA.out.below hB (Nat.le_refl _) x hx1
          cases e5
          rw [e1, hst] at c0
          rw [e2] at c1
          obtain ⟨m, hm⟩ : ∃ m, l.length = m + 1 := ⟨l.length - 1, by omega⟩
          rw [hm, Nat.add_sub_cancel] at q1
          rw [hm] at h00 ⊢
          have htt : (t == t) = true := by simp
          have h0b : (((m : Int) + 1) == 0) = false := by rw [beq_eq_false_iff_ne]; omega
          have hm60 : m < 60 := by omega
          have hx1' : x < m + 1 := by omega
          have hx0' : y < m + 1 := by omega
          rw [hm] at r1
          clear hB5 hB e1 e2 hst h0 hKl hK0
          go_wp2
          go_quiet (fail)
          go_wp2
          go_ret
          exact ⟨rfl, below_drewN HB5.out _⟩

end Go.Proofs.Ytkcjemhbenkglaa
