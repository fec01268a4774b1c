/- The law EulerSays, walked, out of the contracts of Can and Trail. -/
import Derived.Test.YtkcjemhbenkglaaELawTrail
import Derived.Test.YtkcjemhbenkglaaERound
import Derived.Test.YtkcjemhbenkglaaRefErr
namespace Go.Proofs.Ytkcjemhbenkglaa
open Go.RowKit
set_option linter.unusedVariables false

set_option maxHeartbeats 2000000 in
set_option maxRecDepth 100000 in
theorem EulerSays_any (hC : CanC) (hT : TrailC) (n : Int) (ao : Option Addr) (cap : Nat) (l : List Arc3) (w : World) (hG : GraphIn w ao cap l) :
    Calls Try.prog 3 #[.agg #[.int .i64 n, .slice ao l.length cap]] w fun e w' => e = .returned (.bool true) ∧ Below w.heap.size w w' := by
  have hm := hG.len
  have hG0 := hG.alloc (.cells #[.int .i64 n, .slice ao l.length cap] 24)
  have x0 := blk_new w (.cells #[.int .i64 n, .slice ao l.length cap] 24)
  go_enter Try.func3, Try.ntmps3
  go_wp2_with fail
  refine (hC n ao cap l _ hG0).mono ?_
  rintro e w1 ⟨hb1, k, rfl, hk0, hk1⟩
  simp only [World.size_alloc] at hb1
  have hz1 := hb1.size
  simp only [World.size_alloc] at hz1
  have x1 := blk_below hb1 x0 (by omega)
  have hG1 := hG0.below hb1 (by simp)
  have hbb1 := below_in hb1 (by omega)
  have hw1 : w.heap.size < w1.heap.size := by omega
  clear hb1 x0 hG0 hG
  obtain ⟨r0, r1, f0, f1⟩ := blk2 x1
  go_wp2_with fail
  refine (hT n ao cap l w1 hG1).mono ?_
  rintro e w2 ⟨hb2, aK, cK, K, err, rfl, hI, hnl, hK60, hy0, hy1⟩
  have hz2 := hb2.size
  have x2 := blk_below hb2 x1 (by omega)
  have hG2 := hG1.below hb2 (Nat.le_refl _)
  have hbb2 := hbb1.trans (hb2.mono (by omega))
  have hw2 : w.heap.size < w2.heap.size := by omega
  clear hb2 x1 hG1 hbb1 r0 r1 f0 f1
  obtain ⟨r0, r1, f0, f1⟩ := blk2 x2
  go_wp2_with fail
  refine (refLongErr_any n ao cap l w2 hm hG2.arcs).mono ?_
  rintro e w3 ⟨rfl, hb3⟩
  have hz3 := hb3.size
  have x3 := blk_below hb3 x2 (by omega)
  have hG3 := hG2.below hb3 (Nat.le_refl _)
  have hI3 := hI.below hb3 (Nat.le_refl _)
  have hbb3 := hbb2.trans (hb3.mono (by omega))
  have hw3 : w.heap.size < w3.heap.size := by omega
  clear hb3 x2 hG2 hI hbb2 r0 r1 f0 f1
  obtain ⟨r0, r1, f0, f1⟩ := blk2 x3
  by_cases hE : graphErr n (-10000) l = 0
  · obtain ⟨⟨hn1, hn2⟩, hlen, hnodes⟩ := err_ok hE
    obtain ⟨N, rfl⟩ := Int.eq_ofNat_of_zero_le (show 0 ≤ n by omega)
    have HL : Hid (∀ a ∈ l, (0 ≤ a.1 ∧ a.1 < (N : Int)) ∧ (0 ≤ a.2.1 ∧ a.2.1 < (N : Int))) := fun a ha => ⟨(hnodes a ha).1, (hnodes a ha).2.1⟩
    have h12 : N ≤ 12 := by omega
    have hN1 : 1 ≤ N := by omega
    have HK : Hid (CanIs l k) := hk1 hE
    have HY : Hid ((err = 5 ∧ K = [] ∧ CanIs l 0) ∨ (err = 0 ∧ Conn l ∧ ∃ s t, Bal l s t ∧ TrailIs l s t K)) := hy1 hE
    have HI3 : Hid (IntsAt w3 aK (nums K)) := hI3
    have HNl : Hid (aK = none → K.length = 0 ∧ cK = 0) := hnl
    rw [hE]
    have h00 : ((0 : Int) != 0) = false := rfl
    have h01 : ((0 : Int) == 0) = true := rfl
    clear hk0 hk1 hy0 hy1 hI3 hE hnodes hnl
    go_wp2_with fail
    refine (RoundOf_any N ao cap l w3 hG3.arcs hG3.nil hlen hN1 h12 HL.out).mono ?_
    rintro e w4 ⟨hb4, k', rfl, hk'⟩
    have hkk : k' = k := hk'.unique HK.out
    subst hkk
    have hz4 := hb4.size
    have x4 := blk_below hb4 x3 (by omega)
    have hG4 := hG3.below hb4 (Nat.le_refl _)
    have HI4 : Hid (IntsAt w4 aK (nums K)) := HI3.out.below hb4 (Nat.le_refl _)
    have hbb4 := hbb3.trans (hb4.mono (by omega))
    have hw4 : w.heap.size < w4.heap.size := by omega
    have hkk : (k' != k') = false := by simp
    clear hb4 x3 hG3 hbb3 r0 r1 f0 f1 hk' HI3
    obtain ⟨r0, r1, f0, f1⟩ := blk2 x4
    rcases HY.out with ⟨rfl, rfl, h0⟩ | ⟨rfl, hc, s, t, hb, hTr⟩
    · have : k' = 0 := HK.out.unique h0
      subst this
      have h55 : ((5 : Int) == 5) = true := rfl
      have hl0 : ([] : List Nat).length = 0 := rfl
      rw [hl0]
      clear h0
      go_wp2
      go_ret
      exact ⟨rfl, hbb4⟩
    · have hcase := CanIs.mk hc hb HK.out
      have HTr : Hid (TrailIs l s t K) := hTr
      have hk0 : (k' == 0) = false := by rcases hcase with ⟨rfl, _⟩ | ⟨rfl, _⟩ <;> rfl
      have HRd : Hid ((k' == 2) = true → s = t) := by
        rcases hcase with ⟨rfl, e⟩ | ⟨rfl, e⟩
        · exact fun _ => e
        · intro h; cases h
      clear hcase hc hb hTr
      go_wp2_with fail
      refine (lawTrail_any N ao aK cap cK l K (k' == 2) s t w4 hG4.arcs hlen HI4.out HNl.out HTr.out HRd.out).mono ?_
      rintro e w5 ⟨rfl, hb5⟩
      have hbb5 := hbb4.trans (hb5.mono (by omega))
      clear hb5
      go_wp2
      go_ret
      exact ⟨rfl, hbb5⟩
  · have hk := hk0 hE
    obtain ⟨he, hKe⟩ := hy0 hE
    subst hk he hKe
    have hl0 : ([] : List Nat).length = 0 := rfl
    rw [hl0]
    have hE' : (graphErr n (-10000) l != 0) = true := by simpa using hE
    have hE2 : (graphErr n (-10000) l == graphErr n (-10000) l) = true := by simp
    generalize graphErr n (-10000) l = ge at *
    clear hk0 hk1 hy0 hy1 hE
    go_wp2
    go_ret
    exact ⟨rfl, hbb3⟩

end Go.Proofs.Ytkcjemhbenkglaa
