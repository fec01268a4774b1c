/- Contracts of package euler: Can, Trail. -/
import Derived.Test.YtkcjemhbenkglaaEulerC
import Derived.Test.YtkcjemhbenkglaaEDeg
import Derived.Test.YtkcjemhbenkglaaEOne
import Derived.Test.YtkcjemhbenkglaaJoin
namespace Go.Proofs.Ytkcjemhbenkglaa
open Go.RowKit
set_option linter.unusedVariables false

set_option maxHeartbeats 1000000 in
theorem Can_any : CanC := by
  intro n ao cap l w hG
  have hm := hG.len
  have hG0 := hG.alloc (.cells #[.int .i64 n, .slice ao l.length cap] 24)
  have x0 := blk_new w (.cells #[.int .i64 n, .slice ao l.length cap] 24)
  go_enter Try.func7, Try.ntmps7
  go_wp2_with fail
  by_cases hE : graphErr n (-10000) l = 0
  · obtain ⟨⟨hn1, hn2⟩, hlen, hnodes⟩ := err_ok hE
    obtain ⟨N, rfl⟩ := Int.eq_ofNat_of_zero_le (show 0 ≤ n by omega)
    have HL : Hid (∀ a ∈ l, (0 ≤ a.1 ∧ a.1 < (N : Int)) ∧ (0 ≤ a.2.1 ∧ a.2.1 < (N : Int))) := fun a ha => ⟨(hnodes a ha).1, (hnodes a ha).2.1⟩
    have HE : Hid (graphErr N (-10000) l = 0) := hE
    have h12 : N ≤ 12 := by omega
    refine (Degrees_ok N ao cap l _ hG0.arcs hE).mono ?_
    clear hE hnodes
    rintro e w1 ⟨hb1, b, c, hb, hbc, rfl, hO, hI⟩
    simp only [World.size_alloc] at hb1 hb
    have hz1 := hb1.size
    simp only [World.size_alloc] at hz1
    have x1 := blk_below hb1 x0 (by omega)
    have hG1 := hG0.below hb1 (by simp)
    have hbb1 := below_in hb1 (by omega)
    have h00 : ((0 : Int) != 0) = false := rfl
    clear hb1 hG0 x0 hG
    obtain ⟨r0, r1, f0, f1⟩ := blk2 x1
    have hw1 : w.heap.size < w1.heap.size := by omega
    have HO1 : Hid (IntsAt w1 (some ⟨b, 0, none⟩) (outs N l)) := hO
    have HI1 : Hid (IntsAt w1 (some ⟨c, 0, none⟩) (ins N l)) := hI
    clear hO hI
    go_wp2_with fail
    refine (Parts_any N ao cap l w1 hG1).mono ?_
    rintro e w2 ⟨hb2, aF, cF, F, rfl, hF, _, hP⟩
    have hz2 := hb2.size
    have x2 := blk_below hb2 x1 (by omega)
    have hG2 := hG1.below hb2 (Nat.le_refl _)
    have hbb2 := hbb1.trans (hb2.mono (by omega))
    have HP : Hid (PartsIs N l F) := by have := hP HE.out; rwa [Int.toNat_natCast] at this
    have HO2 : Hid (IntsAt w2 (some ⟨b, 0, none⟩) (outs N l)) := HO1.out.below hb2 (Nat.le_refl _)
    have HI2 : Hid (IntsAt w2 (some ⟨c, 0, none⟩) (ins N l)) := HI1.out.below hb2 (Nat.le_refl _)
    rw [HE.out]
    have hw2 : w.heap.size < w2.heap.size := by omega
    clear r0 r1 f0 f1 hb2 hbb1 hG1 x1 HO1 HI1 hP
    obtain ⟨r0, r1, f0, f1⟩ := blk2 x2
    go_wp2_with fail
    refine (inOnePart_any N ao aF cap cF l F w2 hG2.arcs hF hlen h12 HL.out HP.out).mono ?_
    rintro e w3 ⟨hb3, hcase⟩
    have hbb3 := hbb2.trans (hb3.mono (by omega))
    rcases hcase with ⟨rfl, hc⟩ | ⟨rfl, hc⟩
    · have HC : Hid (Conn l) := hc
      have hO3 := HO2.out.below hb3 (Nat.le_refl _)
      have hI3 := HI2.out.below hb3 (Nat.le_refl _)
      clear hc hb3 hbb2 x2 r0 r1 f0 f1
      go_wp2_with fail
      refine (byDegrees_any N _ _ N N l w3 hO3 hI3 hlen h12).mono ?_
      rintro e w4 ⟨hb4, rfl⟩
      have hbb4 := hbb3.trans (hb4.mono (by have := hbb3.size; omega))
      have HK : Hid (CanIs l (degK (sumN (fun v => max (od l v - idg l v) 0) N))) := canIs_deg HL.out HC.out
      generalize degK (sumN (fun v => max (od l v - idg l v) 0) N) = k at *
      clear hb4 hbb3
      go_wp2
      go_ret2
      exact ⟨hbb4, k, by rw [HE.out]; rfl, fun h => absurd HE.out h, fun _ => HK.out⟩
    · have HK : Hid (CanIs l 0) := canIs_no hc
      clear hc
      go_wp2
      go_ret2
      exact ⟨hbb3, 0, by rw [HE.out]; rfl, fun h => absurd HE.out h, fun _ => HK.out⟩
  · have HE : Hid (graphErr n (-10000) l ≠ 0) := hE
    refine (Degrees_err n ao cap l _ hm hG0.arcs hE).mono ?_
    have hE' : (graphErr n (-10000) l != 0) = true := by simpa using hE
    clear hE
    rintro e w1 ⟨hb1, rfl⟩
    simp only [World.size_alloc] at hb1
    have hbb1 := below_in hb1 (by omega)
    go_wp2
    go_ret2
    exact ⟨hbb1, 0, rfl, fun _ => rfl, fun h => absurd h HE.out⟩

set_option maxHeartbeats 2000000 in
theorem Trail_any : TrailC := by
  intro n ao cap l w hG
  have hm := hG.len
  have hG0 := hG.alloc (.cells #[.int .i64 n, .slice ao l.length cap] 24)
  have x0 := blk_new w (.cells #[.int .i64 n, .slice ao l.length cap] 24)
  have HNo : Hid (∀ (x : World), IntsAt x none (nums [])) := fun x i hi => absurd hi (Nat.not_lt_zero _)
  go_enter Try.func8, Try.ntmps8
  go_wp2_with fail
  refine (Can_any n ao cap l _ hG0).mono ?_
  rintro e w1 ⟨hb1, k, rfl, hk0, hk1⟩
  simp only [World.size_alloc] at hb1
  have hz1 := hb1.size
  simp only [World.size_alloc] at hz1
  have x1 := blk_below hb1 x0 (by omega)
  have hG1 := hG0.below hb1 (by simp)
  have hbb1 := below_in hb1 (by omega)
  have hw1 : w.heap.size < w1.heap.size := by omega
  clear hb1 hG0 x0 hG
  obtain ⟨r0, r1, f0, f1⟩ := blk2 x1
  by_cases hE : graphErr n (-10000) l = 0
  · obtain ⟨⟨hn1, hn2⟩, hlen, hnodes⟩ := err_ok hE
    obtain ⟨N, rfl⟩ := Int.eq_ofNat_of_zero_le (show 0 ≤ n by omega)
    have HL : Hid (∀ a ∈ l, (0 ≤ a.1 ∧ a.1 < (N : Int)) ∧ (0 ≤ a.2.1 ∧ a.2.1 < (N : Int))) := fun a ha => ⟨(hnodes a ha).1, (hnodes a ha).2.1⟩
    have HE : Hid (graphErr N (-10000) l = 0) := hE
    have h12 : N ≤ 12 := by omega
    have HK : Hid (CanIs l k) := hk1 hE
    rw [hE]
    have h00 : ((0 : Int) != 0) = false := rfl
    clear hE hnodes hk0 hk1
    by_cases hkz : k = 0
    · subst hkz
      have e0 : ((0 : Int) == 0) = true := rfl
      go_wp2
      go_ret2
      exact ⟨hbb1, none, 0, [], 5, rfl, HNo.out _, fun _ => ⟨rfl, rfl⟩, Nat.zero_le _, fun h => absurd HE.out h, fun _ => Or.inl ⟨rfl, rfl, HK.out⟩⟩
    · have e0 : (k == 0) = false := by simpa using hkz
      obtain ⟨hC, s0, t0, hBal0⟩ := HK.out.some hkz
      have HC : Hid (Conn l) := hC
      have HB0 : Hid (Bal l s0 t0) := hBal0
      clear hkz hC hBal0
      go_wp2_with fail
      refine (Degrees_ok N ao cap l _ hG1.arcs HE.out).mono ?_
      rintro e w2 ⟨hb2, b, c, hb, hbc, rfl, hO, hI⟩
      have hz2 := hb2.size
      have x2 := blk_below hb2 x1 (by omega)
      have hG2 := hG1.below hb2 (Nat.le_refl _)
      have hbb2 := hbb1.trans (hb2.mono (by omega))
      have hw2 : w.heap.size < w2.heap.size := by omega
      clear r0 r1 f0 f1 hb2 hbb1 hG1 x1
      obtain ⟨r0, r1, f0, f1⟩ := blk2 x2
      have HO2 : Hid (IntsAt w2 (some ⟨b, 0, none⟩) (outs N l)) := hO
      have HI2 : Hid (IntsAt w2 (some ⟨c, 0, none⟩) (ins N l)) := hI
      have HA2 : Hid (ArcsAt w2 ao l) := hG2.arcs
      have HBB : Hid (Below w.heap.size w w2) := hbb2
      clear hO hI hG2 hbb2 x2
      go_wp2_with fail
      go_region_with (first
        | (go_at_call 20; refine (start_any N ao _ _ cap N N l _ (by exact HA2.out.drewN _) (by exact HO2.out.drewN _) (by exact HI2.out.drewN _) hlen h12).mono ?_; rintro e w3 ⟨⟨nd, rfl⟩, s, rfl, hs⟩; obtain ⟨⟨t, ht⟩, hne⟩ := hs.bal HL.out HB0.out; have HT : Hid (Bal l s t) := ht; have HNE : Hid (l ≠ [] → ∃ a ∈ l, a.1 = s) := hne; clear hs ht hne)
        | (go_at_call 19; refine (order_any N ao cap l s t _ (by exact HA2.out.drewN _) hlen HL.out HT.out HC.out HNE.out).mono ?_; rintro e w4 ⟨hb4, b4, K, _, rfl, hI4, hT4⟩; have HI4 : Hid (IntsAt w4 (some ⟨b4, 0, none⟩) (nums K)) := hI4; have HTr : Hid (TrailIs l s t K) := hT4; have HB4 : Hid (Below w2.heap.size w2 w4) := (below_drewN (Below.refl _ _) _).trans hb4; clear hI4 hT4 hb4))
      all_goals
        go_wp2
        go_ret2
        refine ⟨HBB.out.trans (HB4.out.mono (by omega)), some ⟨b4, 0, none⟩, l.length, K, 0, by rw [HTr.out.len]; rfl, HI4.out, (fun h => by cases h), by rw [HTr.out.len]; exact hlen, fun h => absurd HE.out h, fun _ => Or.inr ⟨rfl, HC.out, s, t, HT.out, HTr.out⟩⟩
  · have HE : Hid (graphErr n (-10000) l ≠ 0) := hE
    have hE' : (graphErr n (-10000) l != 0) = true := by simpa using hE
    clear hE hk0 hk1
    go_wp2
    go_ret2
    exact ⟨hbb1, none, 0, [], _, rfl, HNo.out _, fun _ => ⟨rfl, rfl⟩, Nat.zero_le _, fun _ => ⟨rfl, rfl⟩, fun h => absurd h HE.out⟩

end Go.Proofs.Ytkcjemhbenkglaa
