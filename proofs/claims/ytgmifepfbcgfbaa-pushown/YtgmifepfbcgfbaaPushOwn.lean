/- The law PushOwn, walked out of contracts of package push. -/
import Derived.Test.YtgmifepfbcgfbaaPuQ
import Derived.Test.YtgmifepfbcgfbaaSpoilA
import Derived.Test.YtgmifepfbcgfbaaClone
import Derived.Deep.RegionHeld3
namespace Go.Proofs.Ytgmifepfbcgfbaa
open Go.RowKit
set_option linter.unusedVariables false

set_option maxHeartbeats 8000000 in
set_option maxRecDepth 100000 in
theorem PushOwn_any (hP : PNewC) (hS : PSendC) (hL : PLiftC) (hBu : PBusyC) (hC : PCheckC) (n s t : Int) (ao ax : Option Addr) (cap cs : Nat) (l : List Arc3) (xs : List Int) (w : World) (hG : GraphIn w ao cap l) (hI : IntsIn w ax cs xs) (hreach : l.length * 24 ≤ 140737488351232) :
    Calls Try.prog 6 #[.agg #[.int .i64 n, .int .i64 s, .int .i64 t, .slice ao l.length cap], .slice ax xs.length cs] w fun e w' => e = .returned (.bool true) ∧ Below w.heap.size w w' := by
  have hG0 := hG.alloc (.cells #[.int .i64 n, .int .i64 s, .int .i64 t, .slice ao l.length cap] 24)
  have x0 := blk_new w (.cells #[.int .i64 n, .int .i64 s, .int .i64 t, .slice ao l.length cap] 24)
  have hI0 := hI.alloc (.cells #[.int .i64 n, .int .i64 s, .int .i64 t, .slice ao l.length cap] 24)
  clear hG hI
  go_enter Try.func6, Try.ntmps6
  go_wp2_with fail
  refine (pushes_any hP _).mono ?_
  rintro e w1 ⟨rfl, hb1⟩
  simp only [World.size_alloc] at hb1
  have hz1 := hb1.size
  simp only [World.size_alloc] at hz1
  have x1 := blk_below hb1 x0 (by omega)
  have hG1 := hG0.below hb1 (by simp)
  have hI1 := hI0.below hb1 (by simp)
  have HB1 : Hid (Below w.heap.size w w1) := below_in hb1 (by omega)
  have HG1 : Hid (GraphIn w1 ao cap l) := hG1
  obtain ⟨r0, r1, r2, r3⟩ := blk4 x1
  have HI1 : Hid (IntsIn w1 ax cs xs) := hI1
  have X1 : Hid (w1.heap[w.heap.size]? = some (.cells #[.int .i64 n, .int .i64 s, .int .i64 t, .slice ao l.length cap] 24 (0, 0))) := x1
  have hcl := clone_any ao cap l w1 hG1.arcs hG1.nil hreach
  clear hb1 x0 hG0 hI0 hG1 hI1 hreach x1
  go_wp2_with fail
  refine hcl.mono ?_
  clear hcl
  rintro e w9 ⟨hb9, aw, cw, rfl, hA9, hfr9⟩
  have hz9 := hb9.size
  have x1 := blk_below hb9 X1.out (by omega)
  have HB1 : Hid (Below w.heap.size w w9) := HB1.out.trans (hb9.mono (by omega))
  have HG1 : Hid (GraphIn w9 ao cap l) := HG1.out.below hb9 (Nat.le_refl _)
  have HW9 : Hid (ArcsAt w9 aw l) := hA9
  have hq := pushed_any hP hS hL n s t ao ax cap cs l xs w9 HG1.out (HI1.out.below hb9 (Nat.le_refl _))
  have hz1 : w.heap.size + 1 ≤ w9.heap.size := by omega
  clear hb9 hA9 hfr9 X1 HI1 r0 r1 r2 r3 hz9
  obtain ⟨r0, r1, r2, r3⟩ := blk4 x1
  go_wp2_with fail
  refine hq.mono ?_
  clear hq
  rintro e w2 ⟨hb2, n', s', t', a1, c1, L, a2, c2, F, a3, c3, H, d, ok, rfl, hIn, hWi, hFr, hno, hyes⟩
  have hz2 := hb2.size
  have x2 := blk_below hb2 x1 (by omega)
  have HB2 : Hid (Below w.heap.size w w2) := HB1.out.trans (hb2.mono (by omega))
  have HG2 : Hid (GraphIn w2 ao cap l) := HG1.out.below hb2 (Nat.le_refl _)
  have hW2 : ArcsAt w2 aw l := HW9.out.below hb2 (Nat.le_refl _)
  clear hb2 x1 HB1 HG1 r0 r1 r2 r3
  by_cases hE : netErr n s t l = 0
  · obtain ⟨rfl, rfl, rfl, rfl, rfl, hRun⟩ := hyes hE
    have hge := net_ok hE
    obtain ⟨⟨hn1, hn2⟩, hl60, _⟩ := err_ok hge.1
    obtain ⟨N, rfl⟩ := Int.eq_ofNat_of_zero_le (show 0 ≤ n' by omega)
    obtain ⟨sN, rfl⟩ := Int.eq_ofNat_of_zero_le hge.2.1.1
    obtain ⟨tN, rfl⟩ := Int.eq_ofNat_of_zero_le hge.2.2.1.1
    simp only [Int.toNat_natCast] at hRun
    have hre := run_reach (xs.map (stepN N L)) (newF sN L) (newH N sN) (reach_new hE)
    rw [← hRun] at hre
    have hfl := hre.1.ok.flen
    have hhl := hre.1.ok.hlen
    rw [hfl, hhl]
    have HE : Hid (netErr (N : Int) sN tN L = 0) := hE
    have X2 : Hid (w2.heap[w.heap.size]? = some (.cells #[.int .i64 (N : Int), .int .i64 (sN : Int), .int .i64 (tN : Int), .slice ao L.length cap] 24 (0, 0))) := x2
    have hwz : w.heap.size < w2.heap.size := by omega
    have HAt : Hid (EndsAt N sN tN L w2 w2.heap.size 0 (w2.alloc (.cells #[.int .i64 (N : Int), .int .i64 (sN : Int), .int .i64 (tN : Int), .slice a1 L.length c1, .slice a2 L.length c2, .slice a3 N c3] 28)) a1 c1 a2 c2 a3 c3 F H) := by
      have hw : Within w2.heap.size a1 a2 a3 := hWi
      have hre' : Reach N sN tN L F H := hre.1
      exact ⟨blk_new _ _, hIn.alloc _, hw.apart, hw.le (by simp), hre', by have h2 : workN N sN tN L F H ≤ 40000 := (work_bound hre').2; omega, below_one _ _, by simp⟩
    have HW2 : Hid (ArcsAt w2 aw L) := hW2
    have hl : (L.length : Int) ≤ 60 := by omega
    have v0 : IntKind.i64.wrap (2 * (L.length : Int)) = 2 * (L.length : Int) := by rw [IntKind.wrap_i64]; omega
    clear hE hno hyes hge hRun hre hfl hhl hIn hWi hFr hn1 hn2 x2 hz2 hW2
    have hbu := hBu N sN tN a1 a2 a3 c1 c2 c3 L F H _ HAt.out.re.ok HAt.out.inn
    rw [HAt.out.re.ok.flen, HAt.out.re.ok.hlen] at hbu
    go_wp2_with fail
    refine hbu.mono ?_
    clear hbu
    rintro e w3 ⟨hb3, aB, cB, B, rfl, hIB, hB1, hB2⟩
    have HAt3 : Hid (EndsAt N sN tN L w2 w2.heap.size 0 w3 a1 c1 a2 c2 a3 c3 F H) := HAt.out.on hb3
    have HB1 : Hid (∀ x ∈ B, ∃ v : Nat, x = v ∧ v < N ∧ BusyN sN tN L F v) := hB1
    have HIB : Hid (IntsIn w3 aB cB B) := hIB
    have h00 : ((0 : Int) != 0) = false := rfl
    have g00 : ((0 : Int) == 0) = true := rfl
    have hz3 := HAt3.out.bel.size
    clear hb3 hIB hB1 hB2 HAt
    have hwr := HAt3.out.sz
    by_cases hB0 : B.length = 0
    · rw [hB0]
      clear hB0 HB1 HIB
      have hck := hC N sN tN a1 a2 a3 c1 c2 c3 L F H w3 HAt3.out.re.ok HAt3.out.inn
      rw [HAt3.out.re.ok.flen, HAt3.out.re.ok.hlen] at hck
      have HGW : Hid (GraphIn w3 ao cap L) := HG2.out.below HAt3.out.bel (Nat.le_refl _)
      have HWW : Hid (ArcsAt w3 aw L) := HW2.out.below HAt3.out.bel (Nat.le_refl _)
      have XW : Hid (w3.heap[w.heap.size]? = some (.cells #[.int .i64 (N : Int), .int .i64 (sN : Int), .int .i64 (tN : Int), .slice ao L.length cap] 24 (0, 0))) := blk_below HAt3.out.bel X2.out hwz
      have HBW : Hid (Below w.heap.size w w3) := HB2.out.trans (HAt3.out.bel.mono HB2.out.size)
      have hwW : w.heap.size < w3.heap.size := Nat.lt_of_lt_of_le hwz HAt3.out.bel.size
      have hpW := HAt3.out.sz
      obtain ⟨⟨q0, q1, q2, q3, q4, q5⟩, _⟩ := blk6 HAt3.out.blk
      go_wp2_with fail
      refine hck.mono ?_
      clear hck
      rintro e w8 ⟨hb8, rfl⟩
      have HB8 : Hid (Below w.heap.size w w8) := HBW.out.trans (hb8.mono HBW.out.size)
      have hm : L.length ≤ maxLen := by unfold maxLen; omega
      have heq := equalArcs ao aw cap cw L L w8 hm hm (HGW.out.arcs.below hb8 (Nat.le_refl _)) (HWW.out.below hb8 (Nat.le_refl _))
      rw [decide_eq_true rfl] at heq
      have x8 := blk_below hb8 XW.out hwW
      obtain ⟨r0, r1, r2, r3⟩ := blk4 x8
      clear hb8 q0 q1 q2 q3 q4 q5 x8 hm
      go_wp2_with fail
      refine heq.mono ?_
      clear heq
      rintro e w10 ⟨rfl, q10, hw10⟩
      have HB10 : Hid (Below w.heap.size w w10) := by rw [hw10]; exact below_drewN HB8.out _
      clear hw10 r0 r1 r2 r3
      go_wp2
      go_ret
      exact ⟨rfl, HB10.out⟩
    · obtain ⟨⟨q0, q1, q2, q3, q4, q5⟩, _⟩ := blk6 HAt3.out.blk
      obtain ⟨v, hv0, hvN, hvB⟩ := HB1.out _ (ati_mem B 0 (by omega))
      obtain ⟨bB, oB, rfl, hbB, e0⟩ := HIB.out.ints 0 (by omega)
      rw [hv0, Nat.add_zero] at e0
      have hB1 : (0 : Int) < (B.length : Int) := by omega
      have hB3 : 0 < B.length := by omega
      have hB4 : ¬ B.length = 0 := hB0
      have hB5 : (B.length : Int) ≠ 0 := by omega
      have hB2 : ((B.length : Int) == 0) = false := by simpa using hB0
      have HvN : Hid (v < N) := hvN
      have HvB : Hid (BusyN sN tN L F v) := hvB
      have HLift : Hid (∀ W : World, Below w3.heap.size w3 W → Calls Try.prog 11 #[.agg #[.int .i64 (N : Int), .int .i64 (sN : Int), .int .i64 (tN : Int), .slice a1 L.length c1, .slice a2 L.length c2, .slice a3 N c3], .int .i64 (v : Int)] W fun e w' => Below W.heap.size W w' ∧
          ∃ E n' s' t' b1 d1 L' b2 d2 F' b3 d3 H', e = .returned (.tuple #[.agg #[.int .i64 n', .int .i64 s', .int .i64 t', .slice b1 (L' : List Arc3).length d1, .slice b2 (F' : List Int).length d2, .slice b3 (H' : List Int).length d3], .int .i64 E]) ∧ PushNew w' W.heap.size b1 d1 L' b2 d2 F' b3 d3 H' ∧
            NextIs N sN tN L F H E n' s' t' L' F' H' ∧ (E ≠ 0 → ¬ ∃ x, CanLift N sN tN L F H v x)) := fun W hW => by
        have h := hL N sN tN (v : Int) a1 a2 a3 c1 c2 c3 L F H W HAt3.out.re.ok (HAt3.out.inn.below hW (Nat.le_refl _))
        rw [HAt3.out.re.ok.flen, HAt3.out.re.ok.hlen] at h
        refine h.mono ?_
        rintro e w' ⟨hb, E, n', s', t', b1, d1, L', b2, d2, F', b3, d3, H', he, hNew, hi, hT⟩
        rw [Int.toNat_natCast] at hi hT
        refine ⟨hb, E, n', s', t', b1, d1, L', b2, d2, F', b3, d3, H', he, hNew, fun h0 => ?_, fun h0 hx => h0 (hi.2 ⟨by omega, hx⟩)⟩
        obtain ⟨_, x, hx⟩ := hi.1 h0
        obtain ⟨e1, e2, e3, e4, e5, e6⟩ := hT x (by omega) hx
        rw [e5, e6]
        exact ⟨e1, e2, e3, e4, reach_lift HAt3.out.re hx, work_lift HAt3.out.re hx⟩
      have HS : Hid (∀ x : World, Below w3.heap.size w3 x → Below w3.heap.size w3 x ∧ x.cell? ⟨w2.heap.size, 0, none⟩ = some (.int .i64 (N : Int)) ∧ x.cell? ⟨w2.heap.size, 1, none⟩ = some (.int .i64 (sN : Int)) ∧ x.cell? ⟨w2.heap.size, 2, none⟩ = some (.int .i64 (tN : Int)) ∧
          x.cell? ⟨w2.heap.size, 3, none⟩ = some (.slice a1 L.length c1) ∧ x.cell? ⟨w2.heap.size, 4, none⟩ = some (.slice a2 L.length c2) ∧ x.cell? ⟨w2.heap.size, 5, none⟩ = some (.slice a3 N c3) ∧ x.cell? ⟨bB, oB, none⟩ = some (.int .i64 (v : Int))) :=
        fun x h => ⟨h, later h q0 hwr, later h q1 hwr, later h q2 hwr, later h q3 hwr, later h q4 hwr, later h q5 hwr, later h e0 hbB⟩
      have HS6 : Hid (∀ x : World, Below w3.heap.size w3 x → ∀ y0 y1 y2 y3 y4 y5, Below w3.heap.size w3 ((((((x.setCell ⟨w3.heap.size, 0, none⟩ y0).setCell ⟨w3.heap.size, 1, none⟩ y1).setCell ⟨w3.heap.size, 2, none⟩ y2).setCell ⟨w3.heap.size, 3, none⟩ y3).setCell ⟨w3.heap.size, 4, none⟩ y4).setCell ⟨w3.heap.size, 5, none⟩ y5) ∧
          ((((((x.setCell ⟨w3.heap.size, 0, none⟩ y0).setCell ⟨w3.heap.size, 1, none⟩ y1).setCell ⟨w3.heap.size, 2, none⟩ y2).setCell ⟨w3.heap.size, 3, none⟩ y3).setCell ⟨w3.heap.size, 4, none⟩ y4).setCell ⟨w3.heap.size, 5, none⟩ y5).cell? ⟨w2.heap.size, 0, none⟩ = some (.int .i64 (N : Int)) ∧ 
          ((((((x.setCell ⟨w3.heap.size, 0, none⟩ y0).setCell ⟨w3.heap.size, 1, none⟩ y1).setCell ⟨w3.heap.size, 2, none⟩ y2).setCell ⟨w3.heap.size, 3, none⟩ y3).setCell ⟨w3.heap.size, 4, none⟩ y4).setCell ⟨w3.heap.size, 5, none⟩ y5).cell? ⟨w2.heap.size, 1, none⟩ = some (.int .i64 (sN : Int)) ∧ 
          ((((((x.setCell ⟨w3.heap.size, 0, none⟩ y0).setCell ⟨w3.heap.size, 1, none⟩ y1).setCell ⟨w3.heap.size, 2, none⟩ y2).setCell ⟨w3.heap.size, 3, none⟩ y3).setCell ⟨w3.heap.size, 4, none⟩ y4).setCell ⟨w3.heap.size, 5, none⟩ y5).cell? ⟨w2.heap.size, 2, none⟩ = some (.int .i64 (tN : Int)) ∧
          ((((((x.setCell ⟨w3.heap.size, 0, none⟩ y0).setCell ⟨w3.heap.size, 1, none⟩ y1).setCell ⟨w3.heap.size, 2, none⟩ y2).setCell ⟨w3.heap.size, 3, none⟩ y3).setCell ⟨w3.heap.size, 4, none⟩ y4).setCell ⟨w3.heap.size, 5, none⟩ y5).cell? ⟨w2.heap.size, 3, none⟩ = some (.slice a1 L.length c1) ∧ 
          ((((((x.setCell ⟨w3.heap.size, 0, none⟩ y0).setCell ⟨w3.heap.size, 1, none⟩ y1).setCell ⟨w3.heap.size, 2, none⟩ y2).setCell ⟨w3.heap.size, 3, none⟩ y3).setCell ⟨w3.heap.size, 4, none⟩ y4).setCell ⟨w3.heap.size, 5, none⟩ y5).cell? ⟨w2.heap.size, 4, none⟩ = some (.slice a2 L.length c2) ∧ 
          ((((((x.setCell ⟨w3.heap.size, 0, none⟩ y0).setCell ⟨w3.heap.size, 1, none⟩ y1).setCell ⟨w3.heap.size, 2, none⟩ y2).setCell ⟨w3.heap.size, 3, none⟩ y3).setCell ⟨w3.heap.size, 4, none⟩ y4).setCell ⟨w3.heap.size, 5, none⟩ y5).cell? ⟨w2.heap.size, 5, none⟩ = some (.slice a3 N c3) ∧ 
          ((((((x.setCell ⟨w3.heap.size, 0, none⟩ y0).setCell ⟨w3.heap.size, 1, none⟩ y1).setCell ⟨w3.heap.size, 2, none⟩ y2).setCell ⟨w3.heap.size, 3, none⟩ y3).setCell ⟨w3.heap.size, 4, none⟩ y4).setCell ⟨w3.heap.size, 5, none⟩ y5).cell? ⟨bB, oB, none⟩ = some (.int .i64 (v : Int))) :=
        fun x h y0 y1 y2 y3 y4 y5 => HS.out _ (below_set6 h y0 y1 y2 y3 y4 y5)
      clear HB1 HIB hvN hvB hB0 hv0 hB4 hB5
      go_upto_region 11 with fail
      go_cut [9, 11, 12] (fun lb qp fe wx => lb = .slice (some ⟨bB, oB, none⟩) B.length cB ∧ ∃ (qb : Nat) (E n' s' t' : Int) (b1 : Option Addr) (d1 : Nat) (L' : List Arc3) (b2 : Option Addr) (d2 : Nat) (F' : List Int) (b3 : Option Addr) (d3 : Nat) (H' : List Int), qp = .pointer (some ⟨qb, 0, none⟩) ∧ fe = .int .i64 E ∧
        Hid (QAt w3 qb wx n' s' t' b1 d1 L' b2 d2 F' b3 d3 H') ∧ Hid (NextIs N sN tN L F H E n' s' t' L' F' H') ∧ Hid (E ≠ 0 → ¬ ∃ x, CanLift N sN tN L F H v x))
      case first =>
        clear q0 q1 q2 q3 q4 q5 e0 HAt3 X2 HG2 HW2 HB2 HE HvN HvB v0 hB2 h00 g00 hz3 hl
        go_wp2_with fail
        go_region_held3 (fun x => Below w3.heap.size w3 x ∧ x.cell? ⟨w2.heap.size, 0, none⟩ = some (.int .i64 (N : Int)) ∧ x.cell? ⟨w2.heap.size, 1, none⟩ = some (.int .i64 (sN : Int)) ∧ x.cell? ⟨w2.heap.size, 2, none⟩ = some (.int .i64 (tN : Int)) ∧
          x.cell? ⟨w2.heap.size, 3, none⟩ = some (.slice a1 L.length c1) ∧ x.cell? ⟨w2.heap.size, 4, none⟩ = some (.slice a2 L.length c2) ∧ x.cell? ⟨w2.heap.size, 5, none⟩ = some (.slice a3 N c3) ∧ x.cell? ⟨bB, oB, none⟩ = some (.int .i64 (v : Int)))
          (first
            | with_reducible exact HS6.out _ hs5.1 _ _ _ _ _ _
            | with_reducible assumption
            | with_reducible exact HS.out _ ((Below.refl _ _).drew)
            | with_reducible exact HS.out _ (below_al (And.left (by with_reducible assumption)) _))
          (first
            | (go_at_call 11; refine (HLift.out _ (And.left (by with_reducible assumption))).mono ?_; rintro e w5 ⟨hb5, E, n', s', t', b1, d1, L', b2, d2, F', b3, d3, H', rfl, hNew, hNx, hNo⟩; have hs5 := HS.out w5 (below_tr (And.left (by with_reducible assumption)) hb5); (try (have tA : w5.heap[w3.heap.size]? = some (.cells #[.int .i64 0, .int .i64 0, .int .i64 0, .slice none 0 0, .slice none 0 0, .slice none 0 0] 28 (0, 0)) := (by with_reducible exact pre_al6 hb5); obtain ⟨⟨a0, a1, a2, a3, a4, a5⟩, f6⟩ := blk6 tA; have f0 := f6 0; have f1 := f6 1; have f2 := f6 2; have f3 := f6 3; have f4 := f6 4; have f5 := f6 5; clear f6)); have HQ : Hid _ := hNew; have HNx : Hid (NextIs N sN tN L F H E n' s' t' L' F' H') := hNx; have HNo : Hid (E ≠ 0 → ¬ ∃ x, CanLift N sN tN L F H v x) := hNo; clear hNew hNx hNo hb5))
        all_goals
          go_wp2_with fail
          go_meet
          case rel =>
            first
            | exact ⟨rfl, _, E, n', s', t', b1, d1, L', b2, d2, F', b3, d3, H', rfl, rfl, QAt.early (HQ.out.from_ (by simp)) hs5.1 tA, HNx, HNo⟩
            | exact ⟨rfl, _, E, n', s', t', b1, d1, L', b2, d2, F', b3, d3, H', rfl, rfl, QAt.fresh (HQ.out.from_ (by simp)) hs5.1, HNx, HNo⟩
      case rest =>
        obtain ⟨rfl, qb, E, n', s', t', b1, d1, L', b2, d2, F', b3, d3, H', rfl, rfl, HQ, _, HNo⟩ := hcut
        clear q0 q1 q2 q3 q4 q5 e0 HS HS6 HLift
        have hqs := HQ.out.bel.size
        obtain ⟨r0, r1, r2, r3⟩ := blk4 (blk_below (HAt3.out.bel.trans (HQ.out.bel.mono HAt3.out.bel.size)) X2.out (by omega))
        go_wp2
        go_loopw [12, 13] (fun fe kk wx => ∃ (k : Nat) (E n' s' t' : Int) (b1 : Option Addr) (d1 : Nat) (L' : List Arc3) (b2 : Option Addr) (d2 : Nat) (F' : List Int) (b3 : Option Addr) (d3 : Nat) (H' : List Int), k ≤ 2 * L.length ∧ kk = .int .i64 k ∧ fe = .int .i64 E ∧
          Hid (QAt w3 qb wx n' s' t' b1 d1 L' b2 d2 F' b3 d3 H') ∧ Hid (E ≠ 0 → ¬ ∃ x, CanLift N sN tN L F H v x) ∧
          Hid (E ≠ 0 → ∀ i, i < k → ¬ CanSend sN tN L F H (i / 2) (decide (i % 2 = 1)))) (fun _ kk _ => 2 * L.length - (intOf kk).toNat)
        case atStart => exact ⟨0, E, n', s', t', b1, d1, L', b2, d2, F', b3, d3, H', Nat.zero_le _, rfl, rfl, HQ, HNo, fun _ i hi => absurd hi (Nat.not_lt_zero _)⟩
        case round =>
          clear HQ HNo r0 r1 r2 r3 hqs
          obtain ⟨k, E, n', s', t', b1, d1, L', b2, d2, F', b3, d3, H', hk, rfl, rfl, HQ, HNo, HNs⟩ := hrel
          have hqs := HQ.out.bel.size
          have hqi := HQ.out.hi
          have hB2w : Below w2.heap.size w2 wr := HAt3.out.bel.trans (HQ.out.bel.mono HAt3.out.bel.size)
          have xp := blk_below HQ.out.bel HAt3.out.blk HAt3.out.sz
          have hpwr : w2.heap.size < wr.heap.size := by omega
          have hwwr : w.heap.size < wr.heap.size := by omega
          obtain ⟨r0, r1, r2, r3⟩ := blk4 (blk_below hB2w X2.out hwz)
          by_cases hE0 : E = 0
          · subst hE0
            obtain ⟨⟨q0, q1, q2, q3, q4, q5⟩, _⟩ := blk6 HQ.out.blk
            have hsp := spoilI_own w3.heap.size d2 b2 F' (-1) wr HQ.out.own.flow
            clear HNo HNs xp
            go_wp2_with fail
            refine hsp.mono ?_
            clear hsp
            rintro e w5 ⟨rfl, hs5⟩
            have hz5 := hs5.size
            have y5 := hs5.blk HQ.out.blk (fun c off e h => HQ.out.ap.2.1 c off e h.symm)
            have HO5 : Hid (OwnIs w5 w3.heap.size b3 d3 H') := HQ.out.own.hgt.spared hs5 HQ.out.own.apart
            have HA5 : Hid (OwnA w5 w3.heap.size b1 d1 L') := HQ.out.own.arcs.spared hs5 HQ.out.own.flow
            have HB5 : Hid (Below w3.heap.size w3 w5) := HQ.out.bel.trans (hs5.below HQ.out.own.flow.from HQ.out.bel.size)
            have HAp : Hid (Apart qb b1 b2 b3) := HQ.out.ap
            have hq5 : qb < w5.heap.size := by omega
            clear hs5 HQ q0 q1 q2 q3 q4 q5 r0 r1 r2 r3
            obtain ⟨⟨q0, q1, q2, q3, q4, q5⟩, _⟩ := blk6 y5
            have hsp := spoilI_own w3.heap.size d3 b3 H' (-1) w5 HO5.out
            go_wp2_with fail
            refine hsp.mono ?_
            clear hsp
            rintro e w6 ⟨rfl, hs6⟩
            have hz6 := hs6.size
            have y6 := hs6.blk y5 (fun c off e h => HAp.out.2.2 c off e h.symm)
            have HA6 : Hid (OwnA w6 w3.heap.size b1 d1 L') := HA5.out.spared hs6 HO5.out
            have HB6 : Hid (Below w3.heap.size w3 w6) := HB5.out.trans (hs6.below HO5.out.from HB5.out.size)
            have hq6 : qb < w6.heap.size := by omega
            clear hs6 q0 q1 q2 q3 q4 q5 y5 HA5 HO5
            obtain ⟨⟨q0, q1, q2, q3, q4, q5⟩, _⟩ := blk6 y6
            have hsp := spoilA_own w3.heap.size d1 b1 L' (-1) 0 0 w6 HA6.out
            go_wp2_with fail
            refine hsp.mono ?_
            clear hsp
            rintro e w7 ⟨rfl, hs7⟩
            have HB7 : Hid (Below w3.heap.size w3 w7) := HB6.out.trans (hs7.below HA6.out.from HB6.out.size)
            have HAt7 : Hid (EndsAt N sN tN L w2 w2.heap.size 0 w7 a1 c1 a2 c2 a3 c3 F H) := HAt3.out.on HB7.out
            clear hs7 q0 q1 q2 q3 q4 q5 y6 HB6 HB5 HA6 HAt3
            have hck := hC N sN tN a1 a2 a3 c1 c2 c3 L F H w7 HAt7.out.re.ok HAt7.out.inn
            rw [HAt7.out.re.ok.flen, HAt7.out.re.ok.hlen] at hck
            have HGW : Hid (GraphIn w7 ao cap L) := HG2.out.below HAt7.out.bel (Nat.le_refl _)
            have HWW : Hid (ArcsAt w7 aw L) := HW2.out.below HAt7.out.bel (Nat.le_refl _)
            have XW : Hid (w7.heap[w.heap.size]? = some (.cells #[.int .i64 (N : Int), .int .i64 (sN : Int), .int .i64 (tN : Int), .slice ao L.length cap] 24 (0, 0))) := blk_below HAt7.out.bel X2.out hwz
            have HBW : Hid (Below w.heap.size w w7) := HB2.out.trans (HAt7.out.bel.mono HB2.out.size)
            have hwW : w.heap.size < w7.heap.size := Nat.lt_of_lt_of_le hwz HAt7.out.bel.size
            have hpW := HAt7.out.sz
            obtain ⟨⟨q0, q1, q2, q3, q4, q5⟩, _⟩ := blk6 HAt7.out.blk
            go_wp2_with fail
            refine hck.mono ?_
            clear hck
            rintro e w8 ⟨hb8, rfl⟩
            have HB8 : Hid (Below w.heap.size w w8) := HBW.out.trans (hb8.mono HBW.out.size)
            have hm : L.length ≤ maxLen := by unfold maxLen; omega
            have heq := equalArcs ao aw cap cw L L w8 hm hm (HGW.out.arcs.below hb8 (Nat.le_refl _)) (HWW.out.below hb8 (Nat.le_refl _))
            rw [decide_eq_true rfl] at heq
            have x8 := blk_below hb8 XW.out hwW
            obtain ⟨r0, r1, r2, r3⟩ := blk4 x8
            clear hb8 q0 q1 q2 q3 q4 q5 x8 hm
            go_wp2_with fail
            refine heq.mono ?_
            clear heq
            rintro e w10 ⟨rfl, q10, hw10⟩
            have HB10 : Hid (Below w.heap.size w w10) := by rw [hw10]; exact below_drewN HB8.out _
            clear hw10 r0 r1 r2 r3
            go_wp2
            go_ret
            exact ⟨rfl, HB10.out⟩
          · have hE1 : (E != 0) = true := by simpa using hE0
            have HE0 : Hid (E ≠ 0) := hE0
            by_cases hlt : k < 2 * L.length
            · have HK : Hid (k + 1 ≤ 2 * L.length) := hlt
              have hltI : (k : Int) < 2 * (L.length : Int) := by omega
              obtain ⟨i, r, hkr, hr⟩ : ∃ i r, k = 2 * i + r ∧ r < 2 := ⟨k / 2, k % 2, by omega, by omega⟩
              have hil : i < L.length := by omega
              have hdiv : (k : Int) / 2 = (i : Int) := by omega
              have hdivN : k / 2 = i := by omega
              obtain ⟨⟨q0, q1, q2, q3, q4, q5⟩, _⟩ := blk6 xp
              have HPi : Hid (∀ W : World, Below w3.heap.size w3 W → PushIn W a1 c1 L a2 c2 F a3 c3 H) := fun W hW => HAt3.out.inn.below hW (Nat.le_refl _)
              clear hB2w xp hE0
              by_cases hr0 : r = 0
              · subst hr0
                have hmod : (k : Int) % 2 = 0 := by omega
                have hmodT : Int.tmod (k : Int) 2 = 0 := by rw [Int.tmod_eq_emod_of_nonneg (by omega)]; exact hmod
                have HKr : Hid (k = 2 * i + 0) := hkr
                clear hkr hr
                have HSend : Hid (∀ W : World, PushIn W a1 c1 L a2 c2 F a3 c3 H → Calls Try.prog 12 #[.agg #[.int .i64 (N : Int), .int .i64 (sN : Int), .int .i64 (tN : Int), .slice a1 L.length c1, .slice a2 L.length c2, .slice a3 N c3], .int .i64 (i : Int), .bool false] W fun e w' => Below W.heap.size W w' ∧
                    ∃ E n' s' t' b1 d1 L' b2 d2 F' b3 d3 H', e = .returned (.tuple #[.agg #[.int .i64 n', .int .i64 s', .int .i64 t', .slice b1 (L' : List Arc3).length d1, .slice b2 (F' : List Int).length d2, .slice b3 (H' : List Int).length d3], .int .i64 E]) ∧ PushNew w' W.heap.size b1 d1 L' b2 d2 F' b3 d3 H' ∧ (E ≠ 0 → ¬ CanSend sN tN L F H i false)) := fun W hW => by
                  have h := hS N sN tN (i : Int) false a1 a2 a3 c1 c2 c3 L F H W HAt3.out.re.ok hW
                  rw [HAt3.out.re.ok.flen, HAt3.out.re.ok.hlen] at h
                  refine h.mono ?_
                  rintro e w' ⟨hb, E, n', s', t', b1, d1, L', b2, d2, F', b3, d3, H', he, hNew, hi, hT⟩
                  rw [Int.toNat_natCast] at hi hT
                  exact ⟨hb, E, n', s', t', b1, d1, L', b2, d2, F', b3, d3, H', he, hNew, fun h0 hx => h0 (hi.2 ⟨by omega, hx⟩)⟩
                go_wp2_with fail
                refine (HSend.out _ (HPi.out _ HQ.out.bel)).mono ?_
                rintro e w5 ⟨hb5, E5, n5, s5, t5, e1, g1, L5, e2, g2, F5, e3, g3, H5, rfl, hN5, hC5⟩
                have hz5 := hb5.size
                have xq5 := blk_below hb5 HQ.out.blk HQ.out.hi
                have HN5 : Hid (PushNew w5 wr.heap.size e1 g1 L5 e2 g2 F5 e3 g3 H5) := hN5
                have HC5 : Hid (E5 ≠ 0 → ¬ CanSend sN tN L F H i false) := hC5
                have HBx : Hid (Below wr.heap.size wr w5) := hb5
                clear hb5 hN5 hC5 q0 q1 q2 q3 q4 q5 HSend r0 r1 r2 r3
                go_wp2_with (first
                  | (refine wpList_store_push rfl _ _ rfl qb _ _ _ _ _ _ _ _ _ _ _ _ _ _ _ _ _ _ rfl rfl xq5 ?_; intro w6 ho6 yq6 hs6; clear hs6))
                go_roundw
                case rel =>
                  refine ⟨k + 1, E5, n5, s5, t5, e1, g1, L5, e2, g2, F5, e3, g3, H5, HK.out, by go_num, rfl, HQ.out.again HN5.out HBx.out ho6 yq6, fun _ => HNo.out HE0.out, fun h0 u hu => ?_⟩
                  by_cases c : u = k
                  · have c1 : u / 2 = i := by have := HKr.out; omega
                    have c2 : decide (u % 2 = 1) = false := by have := HKr.out; simp; omega
                    rw [c1, c2]
                    exact HC5.out h0
                  · exact HNs.out HE0.out u (by omega)
                case measure => have := HK.out; simp [intOf]; omega
              · obtain rfl : r = 1 := by omega
                have hmod : (k : Int) % 2 = 1 := by omega
                have hmodT : Int.tmod (k : Int) 2 = 1 := by rw [Int.tmod_eq_emod_of_nonneg (by omega)]; exact hmod
                have HKr : Hid (k = 2 * i + 1) := hkr
                clear hkr hr
                have HSend : Hid (∀ W : World, PushIn W a1 c1 L a2 c2 F a3 c3 H → Calls Try.prog 12 #[.agg #[.int .i64 (N : Int), .int .i64 (sN : Int), .int .i64 (tN : Int), .slice a1 L.length c1, .slice a2 L.length c2, .slice a3 N c3], .int .i64 (i : Int), .bool true] W fun e w' => Below W.heap.size W w' ∧
                    ∃ E n' s' t' b1 d1 L' b2 d2 F' b3 d3 H', e = .returned (.tuple #[.agg #[.int .i64 n', .int .i64 s', .int .i64 t', .slice b1 (L' : List Arc3).length d1, .slice b2 (F' : List Int).length d2, .slice b3 (H' : List Int).length d3], .int .i64 E]) ∧ PushNew w' W.heap.size b1 d1 L' b2 d2 F' b3 d3 H' ∧ (E ≠ 0 → ¬ CanSend sN tN L F H i true)) := fun W hW => by
                  have h := hS N sN tN (i : Int) true a1 a2 a3 c1 c2 c3 L F H W HAt3.out.re.ok hW
                  rw [HAt3.out.re.ok.flen, HAt3.out.re.ok.hlen] at h
                  refine h.mono ?_
                  rintro e w' ⟨hb, E, n', s', t', b1, d1, L', b2, d2, F', b3, d3, H', he, hNew, hi, hT⟩
                  rw [Int.toNat_natCast] at hi hT
                  exact ⟨hb, E, n', s', t', b1, d1, L', b2, d2, F', b3, d3, H', he, hNew, fun h0 hx => h0 (hi.2 ⟨by omega, hx⟩)⟩
                go_wp2_with fail
                refine (HSend.out _ (HPi.out _ HQ.out.bel)).mono ?_
                rintro e w5 ⟨hb5, E5, n5, s5, t5, e1, g1, L5, e2, g2, F5, e3, g3, H5, rfl, hN5, hC5⟩
                have hz5 := hb5.size
                have xq5 := blk_below hb5 HQ.out.blk HQ.out.hi
                have HN5 : Hid (PushNew w5 wr.heap.size e1 g1 L5 e2 g2 F5 e3 g3 H5) := hN5
                have HC5 : Hid (E5 ≠ 0 → ¬ CanSend sN tN L F H i true) := hC5
                have HBx : Hid (Below wr.heap.size wr w5) := hb5
                clear hb5 hN5 hC5 q0 q1 q2 q3 q4 q5 HSend r0 r1 r2 r3
                go_wp2_with (first
                  | (refine wpList_store_push rfl _ _ rfl qb _ _ _ _ _ _ _ _ _ _ _ _ _ _ _ _ _ _ rfl rfl xq5 ?_; intro w6 ho6 yq6 hs6; clear hs6))
                go_roundw
                case rel =>
                  refine ⟨k + 1, E5, n5, s5, t5, e1, g1, L5, e2, g2, F5, e3, g3, H5, HK.out, by go_num, rfl, HQ.out.again HN5.out HBx.out ho6 yq6, fun _ => HNo.out HE0.out, fun h0 u hu => ?_⟩
                  by_cases c : u = k
                  · have c1 : u / 2 = i := by have := HKr.out; omega
                    have c2 : decide (u % 2 = 1) = true := by have := HKr.out; simp; omega
                    rw [c1, c2]
                    exact HC5.out h0
                  · exact HNs.out HE0.out u (by omega)
                case measure => have := HK.out; simp [intOf]; omega
            · refine False.elim ?_
              rcases busy_on HAt3.out.re HvN.out HvB.out with hx | ⟨k0, b, hfr, hC⟩
              · exact HNo.out hE0 hx
              · have hk0 := hC.lt
                cases b
                · exact HNs.out hE0 (2 * k0) (by omega) (by rw [show 2 * k0 / 2 = k0 by omega, show decide (2 * k0 % 2 = 1) = false by simp]; exact hC)
                · exact HNs.out hE0 (2 * k0 + 1) (by omega) (by rw [show (2 * k0 + 1) / 2 = k0 by omega, show decide ((2 * k0 + 1) % 2 = 1) = true by simp]; exact hC)
  · obtain rfl := hno hE
    clear hE hyes hno hIn hWi hFr
    obtain ⟨r0, r1, r2, r3⟩ := blk4 x2
    go_wp2
    go_ret
    exact ⟨rfl, HB2.out.alloc HB2.out.size _⟩

end Go.Proofs.Ytgmifepfbcgfbaa
