/- The law EulerTurned, walked, out of the contracts of Can and Trail. -/
import Derived.Test.YtkcjemhbenkglaaERounds
import Derived.Test.YtkcjemhbenkglaaTurn
namespace Go.Proofs.Ytkcjemhbenkglaa
open Go.RowKit
set_option linter.unusedVariables false

theorem Jn.turned {l : List Arc3} {u v : Int} (h : Jn l u v) : Jn (l.map turnA) u v := by
  obtain ⟨k, hk⟩ := h
  refine ⟨k, hk.mono fun a ha => ?_⟩
  rcases List.mem_append.1 ha with ha | ha
  · refine List.mem_append.2 (Or.inr ?_); rw [turn2]; exact ha
  · exact List.mem_append.2 (Or.inl ha)

theorem Conn.turned {l : List Arc3} (h : Conn l) : Conn (l.map turnA) := by
  intro a ha b hb
  obtain ⟨x, hx, rfl⟩ := List.mem_map.1 ha
  obtain ⟨y, hy, rfl⟩ := List.mem_map.1 hb
  exact (((Jn.arc hx).symm.trans (h x hx y hy)).trans (Jn.arc hy)).turned

theorem Bal.turned {l : List Arc3} {s t : Int} (h : Bal l s t) : Bal (l.map turnA) t s := fun v => by
  have := h v
  rw [od_turn, idg_turn]; omega

theorem CanIs.turned {l : List Arc3} {k : Int} (h : CanIs l k) : CanIs (l.map turnA) k := by
  rcases h with ⟨rfl, c, hd⟩ | ⟨rfl, c, s, t, hst, hb⟩ | ⟨rfl, hn⟩
  · exact Or.inl ⟨rfl, c.turned, fun v => by rw [od_turn, idg_turn]; exact (hd v).symm⟩
  · exact Or.inr (Or.inl ⟨rfl, c.turned, t, s, fun e => hst e.symm, hb.turned⟩)
  · refine Or.inr (Or.inr ⟨rfl, fun ⟨c, s, t, hb⟩ => hn ?_⟩)
    have c' := c.turned
    have hb' := hb.turned
    rw [turn2] at c' hb'
    exact ⟨c', t, s, hb'⟩

set_option maxHeartbeats 2000000 in
set_option maxRecDepth 100000 in
theorem EulerTurned_any (hC : CanC) (hT : TrailC) (n : Int) (ao : Option Addr) (cap : Nat) (l : List Arc3) (w : World) (hG : GraphIn w ao cap l) :
    Calls Try.prog 5 #[.agg #[.int .i64 n, .slice ao l.length cap]] w fun e w' => e = .returned (.bool true) ∧ Below w.heap.size w w' := by
  have hm := hG.len
  have hG0 := hG.alloc (.cells #[.int .i64 n, .slice ao l.length cap] 24)
  have x0 := blk_new w (.cells #[.int .i64 n, .slice ao l.length cap] 24)
  have h00 : ((0 : Int) != 0) = false := rfl
  have h01 : ((0 : Int) == 0) = true := rfl
  go_enter Try.func5, Try.ntmps5
  go_wp2_with fail
  refine (rounds_any hC hT _).mono ?_
  rintro e w1 ⟨rfl, hb1⟩
  simp only [World.size_alloc] at hb1
  have hz1 := hb1.size
  simp only [World.size_alloc] at hz1
  have x1 := blk_below hb1 x0 (by omega)
  have hG1 := hG0.below hb1 (by simp)
  have hbb1 := below_in hb1 (by omega)
  have hw1 : w.heap.size < w1.heap.size := by omega
  clear hb1 x0 hG0 hG
  obtain ⟨r0, r1, f0, f1⟩ := blk2 x1
  go_wp2_with fail
  by_cases hE : graphErr n (-10000) l = 0
  · obtain ⟨⟨hn1, hn2⟩, hlen, hnodes⟩ := err_ok hE
    have HE : Hid (graphErr n (-10000) l = 0) := hE
    have HET : Hid (graphErr n (-10000) (l.map turnA) = 0) := turn_err hE
    refine (Turn_ok n ao cap l w1 hG1.arcs hE).mono ?_
    rintro e w2 ⟨hb2, b2, hb2l, rfl, hT2, _⟩
    have hz2 := hb2.size
    have x2 := blk_old (blk_below hb2 x1 (by omega)) (.cells #[.int .i64 n, .slice (some ⟨b2, 0, none⟩) l.length l.length] 24)
    have y2 := blk_new w2 (.cells #[.int .i64 n, .slice (some ⟨b2, 0, none⟩) l.length l.length] 24)
    have hG2 := (hG1.below hb2 (by omega)).alloc (.cells #[.int .i64 n, .slice (some ⟨b2, 0, none⟩) l.length l.length] 24)
    have hT2 := hT2.alloc (.cells #[.int .i64 n, .slice (some ⟨b2, 0, none⟩) l.length l.length] 24)
    have hbb2 := (hbb1.trans (hb2.mono (by omega))).alloc (by omega) (.cells #[.int .i64 n, .slice (some ⟨b2, 0, none⟩) l.length l.length] 24)
    have e2 : (w2.alloc (.cells #[.int .i64 n, .slice (some ⟨b2, 0, none⟩) l.length l.length] 24)).heap.size = w2.heap.size + 1 := by simp
    clear hb2 x1 hG1 hbb1 r0 r1 f0 f1 hE hnodes
    obtain ⟨r0, r1, f0, f1⟩ := blk2 x2
    go_wp2_with fail
    refine (hC n ao cap l _ hG2).mono ?_
    rintro e w3 ⟨hb3, k, rfl, _, hk1⟩
    rw [e2] at hb3
    have hz3 := hb3.size
    rw [e2] at hz3
    have x3 := blk_below hb3 x2 (by omega)
    have y3 := blk_below hb3 y2 (by omega)
    have hG3 := hG2.below hb3 (by rw [e2]; omega)
    have hT3 := hT2.below hb3 (by rw [e2]; omega)
    have hbb3 := hbb2.trans (hb3.mono (by omega))
    have HK : Hid (CanIs l k) := hk1 HE.out
    rw [HE.out]
    have hw3 : w.heap.size < w3.heap.size := by omega
    have hw3' : w2.heap.size < w3.heap.size := by omega
    clear hb3 x2 y2 hG2 hT2 hbb2 r0 r1 f0 f1 hk1 e2
    obtain ⟨r0, r1, f0, f1⟩ := blk2 y3
    go_wp2_with fail
    have hGT : GraphIn w3 (some ⟨b2, 0, none⟩) l.length (l.map turnA) := ⟨hT3, by simp, hm, fun e => by cases e⟩
    have hF4 := hC n (some ⟨b2, 0, none⟩) l.length (l.map turnA) w3 hGT
    rw [List.length_map, HET.out] at hF4
    refine hF4.mono ?_
    clear hF4
    rintro e w4 ⟨hb4, k', rfl, _, hk1⟩
    have hkk : k' = k := (hk1 rfl).unique HK.out.turned
    subst hkk
    have hz4 := hb4.size
    have x4 := blk_below hb4 x3 (by omega)
    have y4 := blk_below hb4 y3 (by omega)
    have hG4 := hG3.below hb4 (Nat.le_refl _)
    have hGT4 := hGT.below hb4 (Nat.le_refl _)
    have hbb4 := hbb3.trans (hb4.mono (by omega))
    have hw4 : w.heap.size < w4.heap.size := by omega
    have hw4' : w2.heap.size < w4.heap.size := by omega
    clear hb4 x3 y3 hG3 hT3 hGT hbb3 r0 r1 f0 f1 hk1
    obtain ⟨r0, r1, f0, f1⟩ := blk2 y4
    go_wp2_with fail
    have hF5 := hT n (some ⟨b2, 0, none⟩) l.length (l.map turnA) w4 hGT4
    rw [List.length_map, HET.out] at hF5
    refine hF5.mono ?_
    clear hF5
    rintro e w5 ⟨hb5, ao5, cap5, K, err, rfl, hI5, _, hK60, _, hy⟩
    have hz5 := hb5.size
    have x5 := blk_below hb5 x4 (by omega)
    have hG5 := hG4.below hb5 (Nat.le_refl _)
    have hbb5 := hbb4.trans (hb5.mono (by omega))
    have hw5 : w.heap.size < w5.heap.size := by omega
    have hkk : (k' == k') = true := by simp
    clear hb5 x4 y4 hG4 hGT4 hbb4 r0 r1 f0 f1
    obtain ⟨r0, r1, f0, f1⟩ := blk2 x5
    rcases hy rfl with ⟨rfl, _, _⟩ | ⟨rfl, _, s, t, _, hTr⟩
    · have h50 : ((5 : Int) != 0) = true := rfl
      clear hy
      go_wp2
      go_ret
      exact ⟨rfl, hbb5⟩
    · have HTr : Hid (TrailIs (l.map turnA) s t K) := hTr
      have hKl : K.length = l.length := by have := hTr.len; rwa [List.length_map] at this
      have HI : Hid (IntsAt w5 ao5 (nums K)) := hI5
      have HA : Hid (ArcsAt w5 ao l) := hG5.arcs
      have HX : Hid (w5.heap[w.heap.size]? = some (.cells #[.int .i64 n, .slice ao l.length cap] 24 (0, 0))) := x5
      rw [hKl]
      clear hy hTr hI5 hG5 x5 r0 r1 f0 f1
      go_wp2
      go_loopw [11] (fun i wr => ∃ j : Nat, 1 ≤ j ∧ i = .int .i64 j ∧ Below w5.heap.size w5 wr) (fun i _ => l.length - (intOf i).toNat)
      case atStart => exact ⟨1, Nat.le_refl _, rfl, Below.refl _ _⟩
      case round =>
        obtain ⟨j, hj, rfl, hB⟩ := hrel
        have hz := hB.size
        obtain ⟨r0, r1, f0, f1⟩ := blk2 (blk_below hB HX.out hw5)
        have hwr : w.heap.size < wr.heap.size := by omega
        by_cases hlt : j < l.length
        · obtain ⟨i, rfl⟩ : ∃ i, j = i + 1 := ⟨j - 1, by omega⟩
          have hi1 : i + 1 < K.length := by omega
          have hx1 := HTr.out.lt _ (getD_mem K (i + 1) hi1)
          have hx0 := HTr.out.lt _ (getD_mem K i (by omega))
          rw [List.length_map] at hx1 hx0
          have hch := HTr.out.ch.next i hi1
          have hne : K.getD i 0 ≠ K.getD (i + 1) 0 := by
            have := List.pairwise_iff_getElem.1 HTr.out.nd i (i + 1) (by omega) hi1 (by omega)
            simpa [hi1, show i < K.length by omega] using this
          obtain ⟨b5, o5, rfl, hb5, q1⟩ := HI.out.below hB (Nat.le_refl _) (i + 1) (by rw [nums_length]; exact hi1)
          obtain ⟨_, _, e5, _, q0⟩ := HI.out.below hB (Nat.le_refl _) i (by rw [nums_length]; omega)
          cases e5
          rw [nums_ati K _ hi1] at q1
          rw [nums_ati K _ (by omega)] at q0
          generalize K.getD (i + 1) 0 = x at *
          generalize K.getD i 0 = y at *
          obtain ⟨ba, oa, rfl, hba, _, c1, _⟩ := HA.out.below hB (Nat.le_refl _) x hx1
          obtain ⟨_, _, e5, _, c0, _, _⟩ := HA.out.below hB (Nat.le_refl _) y hx0
          cases e5
          have hee : (at3 l x).2.1 = (at3 l y).1 := by rwa [at3_map turnA l x hx1, at3_map turnA l y hx0] at hch
          rw [hee] at c1
          generalize (at3 l y).1 = u at *
          have huu : (u != u) = false := by simp
          have HB : Hid (Below w5.heap.size w5 wr) := hB
          clear hee hch hB
          have hx1' : ¬ l.length ≤ x := by omega
          have hx0' : ¬ l.length ≤ y := by omega
          have d1 : decide ((x : Int) < 0) = false := decide_eq_false (by omega)
          have d2 : decide ((y : Int) < 0) = false := decide_eq_false (by omega)
          have d3 : decide (l.length ≤ x) = false := decide_eq_false (by omega)
          have d4 : decide (l.length ≤ y) = false := decide_eq_false (by omega)
          rcases Nat.lt_trichotomy x y with q | rfl | q
          · have q' : ¬ y < x := by omega
            go_wp2
            go_quiet (fail)
            go_wp2
            go_roundw
            case rel => exact ⟨i + 1 + 1, by omega, by go_num, below_drewN HB.out _⟩
            case measure => simp [intOf]; omega
          · exact absurd rfl hne
          · have q' : ¬ x < y := by omega
            go_wp2
            go_quiet (fail)
            go_wp2
            go_roundw
            case rel => exact ⟨i + 1 + 1, by omega, by go_num, below_drewN HB.out _⟩
            case measure => simp [intOf]; omega
        · have hB5 := hbb5.trans (hB.mono (by have := hbb5.size; omega))
          have hll : ((l.length : Int) == (l.length : Int)) = true := by simp
          go_wp2
          go_ret
          exact ⟨rfl, hB5⟩
  · have HE : Hid (graphErr n (-10000) l ≠ 0) := hE
    refine (Turn_err n ao cap l w1 hm hG1.arcs hE).mono ?_
    rintro e w2 ⟨hb2, rfl⟩
    have hz2 := hb2.size
    have x2 := blk_old (blk_below hb2 x1 (by omega)) (.cells #[.int .i64 0, .slice none 0 0] 24)
    have y2 := blk_new w2 (.cells #[.int .i64 0, .slice none 0 0] 24)
    have hG2 := (hG1.below hb2 (by omega)).alloc (.cells #[.int .i64 0, .slice none 0 0] 24)
    have hbb2 := (hbb1.trans (hb2.mono (by omega))).alloc (by omega) (.cells #[.int .i64 0, .slice none 0 0] 24)
    have e2 : (w2.alloc (.cells #[.int .i64 0, .slice none 0 0] 24)).heap.size = w2.heap.size + 1 := by simp
    clear hb2 x1 hG1 hbb1 r0 r1 f0 f1
    obtain ⟨r0, r1, f0, f1⟩ := blk2 x2
    go_wp2_with fail
    refine (hC n ao cap l _ hG2).mono ?_
    rintro e w3 ⟨hb3, k, rfl, hk0, _⟩
    have hk := hk0 hE
    subst hk
    rw [e2] at hb3
    have hz3 := hb3.size
    rw [e2] at hz3
    have y3 := blk_below hb3 y2 (by omega)
    have hbb3 := hbb2.trans (hb3.mono (by omega))
    have hw3' : w2.heap.size < w3.heap.size := by omega
    have hE' : (graphErr n (-10000) l != 0) = true := by simpa using hE
    have hE2 : (graphErr n (-10000) l == graphErr n (-10000) l) = true := by simp
    generalize graphErr n (-10000) l = ge at *
    clear hb3 x2 y2 hG2 hbb2 r0 r1 f0 f1 hk0 e2 hE
    obtain ⟨r0, r1, f0, f1⟩ := blk2 y3
    have hNil : ∀ x : World, GraphIn x none 0 [] := fun x => ⟨fun i hi => absurd hi (Nat.not_lt_zero _), Nat.le_refl _, Nat.zero_le _, fun _ => ⟨rfl, rfl⟩⟩
    go_wp2_with fail
    refine (hC 0 none 0 [] w3 (hNil _)).mono ?_
    rintro e w4 ⟨hb4, k4, rfl, _, _⟩
    have hz4 := hb4.size
    have y4 := blk_below hb4 y3 (by omega)
    have hbb4 := hbb3.trans (hb4.mono (by omega))
    have hw4' : w2.heap.size < w4.heap.size := by omega
    clear hb4 y3 hbb3 r0 r1 f0 f1
    obtain ⟨r0, r1, f0, f1⟩ := blk2 y4
    go_wp2_with fail
    refine (hT 0 none 0 [] w4 (hNil _)).mono ?_
    rintro e w5 ⟨hb5, ao5, cap5, K, err, rfl, _, _, _, _, _⟩
    have hbb5 := hbb4.trans (hb5.mono (by omega))
    clear hb5 y4 hbb4 r0 r1 f0 f1
    go_wp2
    go_ret
    exact ⟨rfl, hbb5⟩

end Go.Proofs.Ytkcjemhbenkglaa
