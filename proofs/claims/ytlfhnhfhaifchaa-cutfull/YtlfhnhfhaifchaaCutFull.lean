/- The law CutFull, walked out of the contracts of cut.Least, cut.Cap, most.Of, level.Of. -/
import Derived.Test.YtlfhnhfhaifchaaCuts
import Derived.Test.YtlfhnhfhaifchaaLevelC
import Derived.Test.YtlfhnhfhaifchaaAppJoin
namespace Go.Proofs.Ytlfhnhfhaifchaa
open Go.RowKit
set_option linter.unusedVariables false

theorem sumN_tight {f g : Nat → Int} : ∀ {n : Nat}, (∀ i, i < n → f i ≤ g i) → sumN f n = sumN g n → ∀ i, i < n → f i = g i
  | 0, _, _, i, hi => absurd hi (Nat.not_lt_zero _)
  | n + 1, h, e, i, hi => by
    have e' : sumN f n + f n = sumN g n + g n := e
    have h1 := sumN_mono (f := f) (g := g) (n := n) fun i hi => h i (by omega)
    have h2 := h n (by omega)
    by_cases c : i = n
    · subst c; omega
    · exact sumN_tight (n := n) (fun i hi => h i (by omega)) (by omega) i (by omega)
/-- along each arc that leads from a least side as much goes as it takes, along each that leads to it nothing -/
theorem slack {N : Nat} {s t : Int} {l : List Arc3} {f : List Int} {x : Int} (hE : netErr N s t l = 0) (hf : FlowIs N s t l f) (h1 : bt x s = 1) (h2 : bt x t = 0) (h : gone l (ati f) s = capS x l) : ∀ k, k < l.length →
    (bt x (at3 l k).1 = 1 → bt x (at3 l k).2.1 = 0 → ati f k = (at3 l k).2.2) ∧ (bt x (at3 l k).1 = 0 → bt x (at3 l k).2.1 = 1 → ati f k = 0) := by
  have e := hf.side hE (bt x)
  rw [h1, h2] at e
  have key := sumN_tight (f := fun i => bt x (at3 l i).1 * ati f i - bt x (at3 l i).2.1 * ati f i) (g := fun i => (at3 l i).2.2 * bt x (at3 l i).1 * (1 - bt x (at3 l i).2.1)) (n := l.length)
    (fun i hi => bit_flow (bt_01 _ _) (bt_01 _ _) (hf.bnd i hi)) (by rw [e]; show 1 * gone l (ati f) s + 0 * _ = capS x l; rw [← h]; omega)
  intro k hk
  have := key k hk
  refine ⟨fun a b => ?_, fun a b => ?_⟩
  · rw [a, b] at this; simpa using this
  · rw [a, b] at this; simp at this; omega

set_option maxHeartbeats 8000000 in
set_option maxRecDepth 100000 in
theorem CutFull_any (hL : CLeastC) (hC : CCapC) (hM : MOfC) (hO : LOfC) (n s t : Int) (ao : Option Addr) (cap : Nat) (l : List Arc3) (w : World) (hG : GraphIn w ao cap l) :
    Calls Try.prog 4 #[.agg #[.int .i64 n, .int .i64 s, .int .i64 t, .slice ao l.length cap]] w fun e w' => e = .returned (.bool true) ∧ Below w.heap.size w w' := by
  have hG0 := hG.alloc (.cells #[.int .i64 n, .int .i64 s, .int .i64 t, .slice ao l.length cap] 24)
  have x0 := blk_new w (.cells #[.int .i64 n, .int .i64 s, .int .i64 t, .slice ao l.length cap] 24)
  go_enter Try.func4, Try.ntmps4
  go_wp2_with fail
  refine (cuts_any hL hC _).mono ?_
  rintro e w1 ⟨rfl, hb1⟩
  simp only [World.size_alloc] at hb1
  have hz1 := hb1.size
  simp only [World.size_alloc] at hz1
  have x1 := blk_below hb1 x0 (by omega)
  have hG1 := hG0.below hb1 (by simp)
  have HB1 : Hid (Below w.heap.size w w1) := below_in hb1 (by omega)
  obtain ⟨r0, r1, r2, r3⟩ := blk4 x1
  clear hb1 x0 hG0 hG
  go_wp2_with fail
  refine (hL n s t ao cap l _ hG1).mono ?_
  rintro e w2 ⟨hb2, x, v, rfl, hT2⟩
  have hz2 := hb2.size
  have x2 := blk_below hb2 x1 (by omega)
  have hG2 := hG1.below hb2 (Nat.le_refl _)
  have HB2 : Hid (Below w.heap.size w w2) := HB1.out.trans (hb2.mono (by omega))
  have HT2 : Hid (LeastTells n s t l x v) := hT2
  have hq3 := hM n s t ao cap l w2 hG2
  have HO : Hid (∀ y : World, GraphIn y ao cap l → Calls Try.prog 7 #[.agg #[.int .i64 n, .int .i64 s, .int .i64 t, .slice ao l.length cap]] y fun e w' => Below y.heap.size y w' ∧
    ∃ a1 c1 F v r, e = .returned (.tuple #[.slice a1 (F : List Int).length c1, .int .i64 v, .int .i64 r, .int .i64 (netErr n s t l)]) ∧ IntsIn w' a1 c1 F ∧ LevelTells n s t l F v r (netErr n s t l)) := fun y h => hO n s t ao cap l y h
  obtain ⟨E, hE⟩ : ∃ E, netErr n s t l = E := ⟨_, rfl⟩
  rw [hE] at hq3 HO ⊢
  have HE : Hid (netErr n s t l = E) := hE
  clear hb2 x1 hG1 HB1 hT2 hE r0 r1 r2 r3
  obtain ⟨r0, r1, r2, r3⟩ := blk4 x2
  go_wp2_with fail
  refine hq3.mono ?_
  clear hq3
  rintro e w3 ⟨hb3, a3, c3, F, v3, rfl, hI3, hT3⟩
  have hz3 := hb3.size
  have x3 := blk_below hb3 x2 (by omega)
  have hG3 := hG2.below hb3 (Nat.le_refl _)
  have HB3 : Hid (Below w.heap.size w w3) := HB2.out.trans (hb3.mono (by omega))
  have HT3 : Hid (MostTells n s t l F v3 E) := hT3
  have HI3 : Hid (IntsIn w3 a3 c3 F) := hI3
  clear hb3 x2 hG2 HB2 hT3 hI3 r0 r1 r2 r3
  obtain ⟨r0, r1, r2, r3⟩ := blk4 x3
  go_wp2_with fail
  refine (HO.out _ hG3).mono ?_
  rintro e w4 ⟨hb4, a4, c4, H, v4, r, rfl, hI4, hT4⟩
  have hz4 := hb4.size
  have x4 := blk_below hb4 x3 (by omega)
  have HG4 : Hid (GraphIn w4 ao cap l) := hG3.below hb4 (Nat.le_refl _)
  have HB4 : Hid (Below w.heap.size w w4) := HB3.out.trans (hb4.mono (by omega))
  have HT4 : Hid (LevelTells n s t l H v4 r E) := hT4
  have HIF : Hid (IntsIn w4 a3 c3 F) := HI3.out.below hb4 (Nat.le_refl _)
  have HIH : Hid (IntsIn w4 a4 c4 H) := hI4
  clear hb4 x3 hG3 HB3 hT4 hI4 HI3 HO r0 r1 r2 r3
  obtain ⟨r0, r1, r2, r3⟩ := blk4 x4
  have g00 : ((0 : Int) != 0) = false := rfl
  have g01 : ((0 : Int) == 0) = true := rfl
  by_cases h0 : E = 0
  · subst h0
    obtain ⟨hge, hs, ht, _⟩ := net_ok HE.out
    obtain ⟨⟨hn1, hn2⟩, hl60, hall⟩ := err_ok hge
    obtain ⟨N, rfl⟩ := Int.eq_ofNat_of_zero_le (show 0 ≤ n by omega)
    obtain ⟨sN, rfl⟩ := Int.eq_ofNat_of_zero_le hs.1
    obtain ⟨tN, rfl⟩ := Int.eq_ofNat_of_zero_le ht.1
    obtain ⟨hi', p1⟩ := HT2.out.some HE.out
    have m3 := HT3.out.most rfl
    have f3 := HT3.out.flow rfl
    have m4 := HT4.out.most.most rfl
    have f4 := HT4.out.most.flow rfl
    rw [Int.toNat_natCast, Int.toNat_natCast, Int.toNat_natCast] at p1
    rw [Int.toNat_natCast] at m3 f3 m4 f4
    obtain ⟨mlow, _⟩ := part_ends (fun k hk => (hall _ (at3_mem l k hk)).2.2.1) p1
    have e3 : v = v3 := m3.part HE.out p1
    have e4 : v = v4 := m4.part HE.out p1
    subst e3 e4
    obtain ⟨b1, b2⟩ := sideN_bt.1 mlow.side
    have s3 := slack (x := (x : Int)) HE.out f3.1 b1 b2 (by rw [f3.2, mlow.val])
    have s4 := slack (x := (x : Int)) HE.out f4.1 b1 b2 (by rw [f4.2, mlow.val])
    have l3 := f3.1.len
    have l4 := f4.1.len
    have HFl : Hid (F.length = l.length) := l3
    have HHl : Hid (H.length = l.length) := l4
    have HS3 : Hid (∀ k, k < l.length → (bt x (at3 l k).1 = 1 → bt x (at3 l k).2.1 = 0 → ati F k = (at3 l k).2.2) ∧ (bt x (at3 l k).1 = 0 → bt x (at3 l k).2.1 = 1 → ati F k = 0)) := s3
    have HS4 : Hid (∀ k, k < l.length → (bt x (at3 l k).1 = 1 → bt x (at3 l k).2.1 = 0 → ati H k = (at3 l k).2.2) ∧ (bt x (at3 l k).1 = 0 → bt x (at3 l k).2.1 = 1 → ati H k = 0)) := s4
    have HNd : Hid (∀ k, k < l.length → ∃ p q : Nat, (at3 l k).1 = (p : Int) ∧ (at3 l k).2.1 = (q : Int) ∧ p < 16 ∧ q < 16) := fun k hk => by
      obtain ⟨⟨q1, q2⟩, ⟨q3, q4⟩⟩ := net_nodes HE.out _ (at3_mem l k hk)
      obtain ⟨p, hp⟩ := Int.eq_ofNat_of_zero_le q1
      obtain ⟨q, hq⟩ := Int.eq_ofNat_of_zero_le q3
      exact ⟨p, q, hp, hq, by omega, by omega⟩
    have hx16 := HT2.out.small
    have e5 : (v != v) = false := by simp
    have e6 : ((l.length : Int) != (l.length : Int)) = false := by simp
    rw [l3, l4]
    clear l3 l4 s3 s4 m3 f3 m4 f4 p1 mlow b1 b2 hge hs ht hall HT2 HT3 HT4
    go_wp2
    go_loopw [83] (fun i wr => ∃ k : Nat, k ≤ l.length ∧ i = .int .i64 k ∧ Below w4.heap.size w4 wr) (fun i _ => l.length - (intOf i).toNat)
    case atStart => exact ⟨0, Nat.zero_le _, rfl, Below.refl _ _⟩
    case round =>
      obtain ⟨k, hk, rfl, hB⟩ := hrel
      have hz := hB.size
      have HB : Hid (Below w4.heap.size w4 wr) := hB
      by_cases hlt : k < l.length
      · obtain ⟨b, off, rfl, hbb, a0, a1, a2⟩ := HG4.out.arcs.below hB (Nat.le_refl _) k hlt
        obtain ⟨bF, oF, rfl, hbF, d0⟩ := HIF.out.ints.below hB (Nat.le_refl _) k (by rw [HFl.out]; exact hlt)
        obtain ⟨bH, oH, rfl, hbH, d1⟩ := HIH.out.ints.below hB (Nat.le_refl _) k (by rw [HHl.out]; exact hlt)
        obtain ⟨p, q, hp, hq, hp16, hq16⟩ := HNd.out k hlt
        obtain ⟨k1, k2⟩ := HS3.out k hlt
        obtain ⟨k3, k4⟩ := HS4.out k hlt
        rw [hp] at a0 k1 k2 k3 k4
        rw [hq] at a1 k1 k2 k3 k4
        have u1 := bt_bits (side := (x : Int)) (by omega) p
        have u2 := bt_bits (side := (x : Int)) (by omega) q
        rcases bt_01 (x : Int) (p : Int) with hP | hP <;> rcases bt_01 (x : Int) (q : Int) with hQ | hQ
        · rw [hP] at u1
          rw [hQ] at u2
          clear k1 k2 k3 k4 hP hQ hp hq hB
          generalize ati F k = y at *
          generalize ati H k = z at *
          generalize (at3 l k).2.2 = c at *
          have t1 : ((0 : Int) == 1) = false := rfl
          go_wp2
          go_quiet (fail)
          go_wp2
          go_quiet (fail)
          go_wp2
          go_roundw
          case rel => exact ⟨k + 1, by omega, by go_num, below_drewN (HB.out.alloc (by omega) _) _⟩
          case measure => simp [intOf]; omega
        · have y0 := k2 hP hQ
          have z0 := k4 hP hQ
          rw [hP] at u1
          rw [hQ] at u2
          rw [y0] at d0
          rw [z0] at d1
          clear k1 k2 k3 k4 hP hQ hp hq hB y0 z0
          generalize (at3 l k).2.2 = c at *
          have t1 : ((0 : Int) == 1) = false := rfl
          have t2 : ((1 : Int) == 1) = true := rfl
          go_wp2
          go_quiet (fail)
          go_wp2
          go_quiet (fail)
          go_wp2
          go_roundw
          case rel => exact ⟨k + 1, by omega, by go_num, below_drewN (HB.out.alloc (by omega) _) _⟩
          case measure => simp [intOf]; omega
        · have y0 := k1 hP hQ
          have z0 := k3 hP hQ
          rw [hP] at u1
          rw [hQ] at u2
          rw [y0] at d0
          rw [z0] at d1
          clear k1 k2 k3 k4 hP hQ hp hq hB y0 z0
          generalize (at3 l k).2.2 = c at *
          have t1 : ((1 : Int) == 0) = false := rfl
          have t2 : ((1 : Int) == 1) = true := rfl
          have t3 : (c != c) = false := by simp
          go_wp2
          go_quiet (fail)
          go_wp2
          go_quiet (fail)
          go_wp2
          go_roundw
          case rel => exact ⟨k + 1, by omega, by go_num, below_drewN (HB.out.alloc (by omega) _) _⟩
          case measure => simp [intOf]; omega
        · rw [hP] at u1
          rw [hQ] at u2
          clear k1 k2 k3 k4 hP hQ hp hq hB
          generalize ati F k = y at *
          generalize ati H k = z at *
          generalize (at3 l k).2.2 = c at *
          have t1 : ((1 : Int) == 0) = false := rfl
          have t2 : ((1 : Int) == 1) = true := rfl
          go_wp2
          go_quiet (fail)
          go_wp2
          go_quiet (fail)
          go_wp2
          go_roundw
          case rel => exact ⟨k + 1, by omega, by go_num, below_drewN (HB.out.alloc (by omega) _) _⟩
          case measure => simp [intOf]; omega
      · have HBe : Hid (Below w.heap.size w wr) := HB4.out.trans (hB.mono (by omega))
        clear hB HB
        go_wp2
        go_ret
        exact ⟨rfl, HBe.out⟩
  · have g1 : (E != 0) = true := by simpa using h0
    have g2 : (E == E) = true := by simp
    clear h0 HT2 HT3 HT4
    go_wp2
    go_ret
    exact ⟨rfl, HB4.out⟩

end Go.Proofs.Ytlfhnhfhaifchaa
