/- The law PushEnds, walked out of contracts of package push. -/
import Derived.Test.YtgmifepfbcgfbaaPuQ
import Derived.Test.YtgmifepfbcgfbaaMostC
import Derived.Deep.RegionHeld3
namespace Go.Proofs.Ytgmifepfbcgfbaa
open Go.RowKit
set_option linter.unusedVariables false

set_option maxHeartbeats 8000000 in
set_option maxRecDepth 100000 in
theorem PushEnds_any (hP : PNewC) (hS : PSendC) (hL : PLiftC) (hBu : PBusyC) (hV : FValueC) (hM : MOfC) (n s t : Int) (ao ax : Option Addr) (cap cs : Nat) (l : List Arc3) (xs : List Int) (w : World) (hG : GraphIn w ao cap l) (hI : IntsIn w ax cs xs) :
    Calls Try.prog 4 #[.agg #[.int .i64 n, .int .i64 s, .int .i64 t, .slice ao l.length cap], .slice ax xs.length cs] w fun e w' => e = .returned (.bool true) ∧ Below w.heap.size w w' := by
  have hG0 := hG.alloc (.cells #[.int .i64 n, .int .i64 s, .int .i64 t, .slice ao l.length cap] 24)
  have x0 := blk_new w (.cells #[.int .i64 n, .int .i64 s, .int .i64 t, .slice ao l.length cap] 24)
  have hI0 := hI.alloc (.cells #[.int .i64 n, .int .i64 s, .int .i64 t, .slice ao l.length cap] 24)
  clear hG hI
  go_enter Try.func4, Try.ntmps4
  go_wp2_with fail
  refine (pushes_any hP _).mono ?_
  rintro e w1 ⟨rfl, hb1⟩
  simp only [World.size_alloc] at hb1
  have hz1 := hb1.size
  simp only [World.size_alloc] at hz1
  have x1 := blk_below hb1 x0 (by omega)
  have hG1 := hG0.below hb1 (by simp)
  have hI1 := hI0.below hb1 (by simp)
  have HB1 : Hid (Below w.heap.size w w1) := below_in hb1 (by omega)
  have HG1 : Hid (GraphIn w1 ao cap l) := hG1
  obtain ⟨r0, r1, r2, r3⟩ := blk4 x1
  have hq := pushed_any hP hS hL n s t ao ax cap cs l xs w1 hG1 hI1
  clear hb1 x0 hG0 hI0 hG1 hI1
  go_wp2_with fail
  refine hq.mono ?_
  clear hq
  rintro e w2 ⟨hb2, n', s', t', a1, c1, L, a2, c2, F, a3, c3, H, d, ok, rfl, hIn, hWi, hFr, hno, hyes⟩
  have hz2 := hb2.size
  have x2 := blk_below hb2 x1 (by omega)
  have HB2 : Hid (Below w.heap.size w w2) := HB1.out.trans (hb2.mono (by omega))
  have HG2 : Hid (GraphIn w2 ao cap l) := HG1.out.below hb2 (Nat.le_refl _)
  clear hb2 x1 HB1 HG1 r0 r1 r2 r3
  by_cases hE : netErr n s t l = 0
  · obtain ⟨rfl, rfl, rfl, rfl, rfl, hRun⟩ := hyes hE
    have hge := net_ok hE
    obtain ⟨⟨hn1, hn2⟩, hl60, _⟩ := err_ok hge.1
    obtain ⟨N, rfl⟩ := Int.eq_ofNat_of_zero_le (show 0 ≤ n' by omega)
    obtain ⟨sN, rfl⟩ := Int.eq_ofNat_of_zero_le hge.2.1.1
    obtain ⟨tN, rfl⟩ := Int.eq_ofNat_of_zero_le hge.2.2.1.1
    simp only [Int.toNat_natCast] at hRun
    have hre := run_reach (xs.map (stepN N L)) (newF sN L) (newH N sN) (reach_new hE)
    rw [← hRun] at hre
    have hfl := hre.1.ok.flen
    have hhl := hre.1.ok.hlen
    rw [hfl, hhl]
    have HE : Hid (netErr (N : Int) sN tN L = 0) := hE
    have X2 : Hid (w2.heap[w.heap.size]? = some (.cells #[.int .i64 (N : Int), .int .i64 (sN : Int), .int .i64 (tN : Int), .slice ao L.length cap] 24 (0, 0))) := x2
    have hwz : w.heap.size < w2.heap.size := by omega
    have HAt : Hid (EndsAt N sN tN L w2 w2.heap.size 0 (w2.alloc (.cells #[.int .i64 (N : Int), .int .i64 (sN : Int), .int .i64 (tN : Int), .slice a1 L.length c1, .slice a2 L.length c2, .slice a3 N c3] 28)) a1 c1 a2 c2 a3 c3 F H) := by
      have hw : Within w2.heap.size a1 a2 a3 := hWi
      have hre' : Reach N sN tN L F H := hre.1
      exact ⟨blk_new _ _, hIn.alloc _, hw.apart, hw.le (by simp), hre', by have h2 : workN N sN tN L F H ≤ 40000 := (work_bound hre').2; omega, below_one _ _, by simp⟩
    have hl : (L.length : Int) ≤ 60 := by omega
    have v0 : IntKind.i64.wrap (2 * (L.length : Int)) = 2 * (L.length : Int) := by rw [IntKind.wrap_i64]; omega
    clear hE hno hyes hge hRun hre hfl hhl hIn hWi hFr hn1 hn2 x2 hz2
    obtain ⟨TOP, hTOP⟩ : ∃ T : Nat, (T : Int) = 60000 := ⟨60000, rfl⟩
    have HTop : Hid ((TOP : Int) = 60000) := hTOP
    clear hTOP
    go_wp2
    go_loopw [32] (fun i wr => ∃ (j : Nat) (a1 : Option Addr) (c1 : Nat) (a2 : Option Addr) (c2 : Nat) (a3 : Option Addr) (c3 : Nat) (F H : List Int), (j : Int) ≤ 60000 ∧ i = .int .i64 j ∧ Hid (EndsAt N sN tN L w2 w2.heap.size j wr a1 c1 a2 c2 a3 c3 F H)) (fun i _ => TOP - (intOf i).toNat)
    case atStart => exact ⟨0, a1, c1, a2, c2, a3, c3, F, H, by omega, rfl, HAt⟩
    case round =>
      obtain ⟨j, a1, c1, a2, c2, a3, c3, F, H, hj, rfl, HAt⟩ := hrel
      have hj4 : (j : Int) ≤ 40000 := by
        have h1 : workN N sN tN L F H + (j : Int) ≤ 40000 := HAt.out.wk
        have h2 : 0 ≤ workN N sN tN L F H := (work_bound HAt.out.re).1
        omega
      have hlt : (j : Int) < 60000 := by omega
      have hwr := HAt.out.sz
      have hbs := HAt.out.bel.size
      obtain ⟨⟨q0, q1, q2, q3, q4, q5⟩, _⟩ := blk6 HAt.out.blk
      have hbu := hBu N sN tN a1 a2 a3 c1 c2 c3 L F H wr HAt.out.re.ok HAt.out.inn
      rw [HAt.out.re.ok.flen, HAt.out.re.ok.hlen] at hbu
      go_wp2_with fail
      refine hbu.mono ?_
      clear hbu
      rintro e w3 ⟨hb3, aB, cB, B, rfl, hIB, hB1, hB2⟩
      have HAt3 : Hid (EndsAt N sN tN L w2 w2.heap.size j w3 a1 c1 a2 c2 a3 c3 F H) := HAt.out.on hb3
      have HB1 : Hid (∀ x ∈ B, ∃ v : Nat, x = v ∧ v < N ∧ BusyN sN tN L F v) := hB1
      have HBa : Hid (∀ v : Nat, v < N → BusyN sN tN L F v → (v : Int) ∈ B) := hB2
      have HIB : Hid (IntsIn w3 aB cB B) := hIB
      have h00 : ((0 : Int) != 0) = false := rfl
      have hz3 := hb3.size
      clear hb3 hIB hB1 hB2 q0 q1 q2 q3 q4 q5 HAt hwr
      have hwr := HAt3.out.sz
      obtain ⟨⟨q0, q1, q2, q3, q4, q5⟩, _⟩ := blk6 HAt3.out.blk
      by_cases hB0 : B.length = 0
      · have hB : B = [] := List.eq_nil_of_length_eq_zero hB0
        have HNo : Hid (∀ v, v < N → ¬ BusyN sN tN L F v) := fun v hv hb => by
          have := HBa.out v hv hb
          rw [hB] at this; cases this
        rw [hB0]
        clear hB hB0 HB1 HBa HIB
        go_wp2_with fail
        have hbu := hBu N sN tN a1 a2 a3 c1 c2 c3 L F H w3 HAt3.out.re.ok HAt3.out.inn
        rw [HAt3.out.re.ok.flen, HAt3.out.re.ok.hlen] at hbu
        refine hbu.mono ?_
        clear hbu
        rintro e w4 ⟨hb4, aC, cC, C, rfl, hIC, hC1, _⟩
        have hC : C = [] := by
          cases C with
          | nil => rfl
          | cons x C =>
            obtain ⟨v, _, hv, hb⟩ := hC1 x (by simp)
            exact absurd hb (HNo.out v hv)
        subst hC
        have HAt4 : Hid (EndsAt N sN tN L w2 w2.heap.size j w4 a1 c1 a2 c2 a3 c3 F H) := HAt3.out.on hb4
        have hwr4 := HAt4.out.sz
        have hz4 := hb4.size
        have hb42 := HAt4.out.bel
        have X4 : Hid (w4.heap[w.heap.size]? = some (.cells #[.int .i64 (N : Int), .int .i64 (sN : Int), .int .i64 (tN : Int), .slice ao L.length cap] 24 (0, 0))) := blk_below hb42 X2.out hwz
        have HG4 : Hid (GraphIn w4 ao cap L) := HG2.out.below hb42 (Nat.le_refl _)
        have HB4 : Hid (Below w.heap.size w w4) := HB2.out.trans (hb42.mono HB2.out.size)
        clear hb4 hIC hC1 q0 q1 q2 q3 q4 q5 HAt3 hwr hb42
        obtain ⟨⟨q0, q1, q2, q3, q4, q5⟩, _⟩ := blk6 HAt4.out.blk
        obtain ⟨r0, r1, r2, r3⟩ := blk4 X4.out
        have hef := end_flow HAt4.out.re.ok HNo.out
        have hfe : flowErr N sN tN L F = 0 := flow_mk HE.out (by rw [Int.toNat_natCast]; exact hef.1)
        have hval := hV N sN tN ao a2 cap c2 L F w4 HG4.out HAt4.out.inn.flow
        rw [HAt4.out.re.ok.flen, hfe] at hval
        obtain ⟨y, hy⟩ : ∃ y, gone L (ati F) sN = y := ⟨_, rfl⟩
        have hvo : valueOf N sN tN L F = y := by unfold valueOf; rw [if_pos hfe]; exact hy
        rw [hvo] at hval
        rw [hy] at hef
        have HMx : Hid (MaxIs N sN tN L y) := hef.2
        clear hef hfe hvo hy
        go_wp2_with fail
        refine hval.mono ?_
        clear hval
        rintro e w5 ⟨hb5, rfl⟩
        have hz5 := hb5.size
        have X5 := blk_below hb5 X4.out (by omega)
        have HG5 : Hid (GraphIn w5 ao cap L) := HG4.out.below hb5 (Nat.le_refl _)
        have HB5 : Hid (Below w.heap.size w w5) := HB4.out.trans (hb5.mono HB4.out.size)
        have hmo := hM N sN tN ao cap L w5 HG5.out
        rw [HE.out] at hmo
        clear hb5 q0 q1 q2 q3 q4 q5 r0 r1 r2 r3 HAt4 X4 HG4 HB4
        obtain ⟨r0, r1, r2, r3⟩ := blk4 X5
        go_wp2_with fail
        refine hmo.mono ?_
        clear hmo
        rintro e w6 ⟨hb6, a7, c7, F7, v7, rfl, _, hT7⟩
        have hm7 := hT7.most rfl
        rw [Int.toNat_natCast] at hm7
        have hv7 : y = v7 := HMx.out.unique HE.out hm7
        subst hv7
        have HB6 : Hid (Below w.heap.size w w6) := HB5.out.trans (hb6.mono HB5.out.size)
        have g0 : ((0 : Int) == 0) = true := rfl
        have g1 : (y == y) = true := by simp
        clear hb6 hT7 hm7 r0 r1 r2 r3 X5
        go_wp2
        go_ret
        exact ⟨rfl, HB6.out⟩
      · obtain ⟨v, hv0, hvN, hvB⟩ := HB1.out _ (ati_mem B 0 (by omega))
        obtain ⟨bB, oB, rfl, hbB, e0⟩ := HIB.out.ints 0 (by omega)
        rw [hv0, Nat.add_zero] at e0
        have hB1 : (0 : Int) < (B.length : Int) := by omega
        have hB3 : 0 < B.length := by omega
        have hB4 : ¬ B.length = 0 := hB0
        have hB5 : (B.length : Int) ≠ 0 := by omega
        have hB2 : ((B.length : Int) == 0) = false := by simpa using hB0
        have HvN : Hid (v < N) := hvN
        have HvB : Hid (BusyN sN tN L F v) := hvB
        have HLift : Hid (∀ W : World, Below w3.heap.size w3 W → Calls Try.prog 11 #[.agg #[.int .i64 (N : Int), .int .i64 (sN : Int), .int .i64 (tN : Int), .slice a1 L.length c1, .slice a2 L.length c2, .slice a3 N c3], .int .i64 (v : Int)] W fun e w' => Below W.heap.size W w' ∧
            ∃ E n' s' t' b1 d1 L' b2 d2 F' b3 d3 H', e = .returned (.tuple #[.agg #[.int .i64 n', .int .i64 s', .int .i64 t', .slice b1 (L' : List Arc3).length d1, .slice b2 (F' : List Int).length d2, .slice b3 (H' : List Int).length d3], .int .i64 E]) ∧ PushNew w' W.heap.size b1 d1 L' b2 d2 F' b3 d3 H' ∧
              NextIs N sN tN L F H E n' s' t' L' F' H' ∧ (E ≠ 0 → ¬ ∃ x, CanLift N sN tN L F H v x)) := fun W hW => by
          have h := hL N sN tN (v : Int) a1 a2 a3 c1 c2 c3 L F H W HAt3.out.re.ok (HAt3.out.inn.below hW (Nat.le_refl _))
          rw [HAt3.out.re.ok.flen, HAt3.out.re.ok.hlen] at h
          refine h.mono ?_
          rintro e w' ⟨hb, E, n', s', t', b1, d1, L', b2, d2, F', b3, d3, H', he, hNew, hi, hT⟩
          rw [Int.toNat_natCast] at hi hT
          refine ⟨hb, E, n', s', t', b1, d1, L', b2, d2, F', b3, d3, H', he, hNew, fun h0 => ?_, fun h0 hx => h0 (hi.2 ⟨by omega, hx⟩)⟩
          obtain ⟨_, x, hx⟩ := hi.1 h0
          obtain ⟨e1, e2, e3, e4, e5, e6⟩ := hT x (by omega) hx
          rw [e5, e6]
          exact ⟨e1, e2, e3, e4, reach_lift HAt3.out.re hx, work_lift HAt3.out.re hx⟩
        have HS : Hid (∀ x : World, Below w3.heap.size w3 x → Below w3.heap.size w3 x ∧ x.cell? ⟨w2.heap.size, 0, none⟩ = some (.int .i64 (N : Int)) ∧ x.cell? ⟨w2.heap.size, 1, none⟩ = some (.int .i64 (sN : Int)) ∧ x.cell? ⟨w2.heap.size, 2, none⟩ = some (.int .i64 (tN : Int)) ∧
            x.cell? ⟨w2.heap.size, 3, none⟩ = some (.slice a1 L.length c1) ∧ x.cell? ⟨w2.heap.size, 4, none⟩ = some (.slice a2 L.length c2) ∧ x.cell? ⟨w2.heap.size, 5, none⟩ = some (.slice a3 N c3) ∧ x.cell? ⟨bB, oB, none⟩ = some (.int .i64 (v : Int))) :=
          fun x h => ⟨h, later h q0 hwr, later h q1 hwr, later h q2 hwr, later h q3 hwr, later h q4 hwr, later h q5 hwr, later h e0 hbB⟩
        have HJ4 : Hid ((j : Int) ≤ 40000) := hj4
        have HS6 : Hid (∀ x : World, Below w3.heap.size w3 x → ∀ y0 y1 y2 y3 y4 y5, Below w3.heap.size w3 ((((((x.setCell ⟨w3.heap.size, 0, none⟩ y0).setCell ⟨w3.heap.size, 1, none⟩ y1).setCell ⟨w3.heap.size, 2, none⟩ y2).setCell ⟨w3.heap.size, 3, none⟩ y3).setCell ⟨w3.heap.size, 4, none⟩ y4).setCell ⟨w3.heap.size, 5, none⟩ y5) ∧
            ((((((x.setCell ⟨w3.heap.size, 0, none⟩ y0).setCell ⟨w3.heap.size, 1, none⟩ y1).setCell ⟨w3.heap.size, 2, none⟩ y2).setCell ⟨w3.heap.size, 3, none⟩ y3).setCell ⟨w3.heap.size, 4, none⟩ y4).setCell ⟨w3.heap.size, 5, none⟩ y5).cell? ⟨w2.heap.size, 0, none⟩ = some (.int .i64 (N : Int)) ∧ 
            ((((((x.setCell ⟨w3.heap.size, 0, none⟩ y0).setCell ⟨w3.heap.size, 1, none⟩ y1).setCell ⟨w3.heap.size, 2, none⟩ y2).setCell ⟨w3.heap.size, 3, none⟩ y3).setCell ⟨w3.heap.size, 4, none⟩ y4).setCell ⟨w3.heap.size, 5, none⟩ y5).cell? ⟨w2.heap.size, 1, none⟩ = some (.int .i64 (sN : Int)) ∧ 
            ((((((x.setCell ⟨w3.heap.size, 0, none⟩ y0).setCell ⟨w3.heap.size, 1, none⟩ y1).setCell ⟨w3.heap.size, 2, none⟩ y2).setCell ⟨w3.heap.size, 3, none⟩ y3).setCell ⟨w3.heap.size, 4, none⟩ y4).setCell ⟨w3.heap.size, 5, none⟩ y5).cell? ⟨w2.heap.size, 2, none⟩ = some (.int .i64 (tN : Int)) ∧
            ((((((x.setCell ⟨w3.heap.size, 0, none⟩ y0).setCell ⟨w3.heap.size, 1, none⟩ y1).setCell ⟨w3.heap.size, 2, none⟩ y2).setCell ⟨w3.heap.size, 3, none⟩ y3).setCell ⟨w3.heap.size, 4, none⟩ y4).setCell ⟨w3.heap.size, 5, none⟩ y5).cell? ⟨w2.heap.size, 3, none⟩ = some (.slice a1 L.length c1) ∧ 
            ((((((x.setCell ⟨w3.heap.size, 0, none⟩ y0).setCell ⟨w3.heap.size, 1, none⟩ y1).setCell ⟨w3.heap.size, 2, none⟩ y2).setCell ⟨w3.heap.size, 3, none⟩ y3).setCell ⟨w3.heap.size, 4, none⟩ y4).setCell ⟨w3.heap.size, 5, none⟩ y5).cell? ⟨w2.heap.size, 4, none⟩ = some (.slice a2 L.length c2) ∧ 
            ((((((x.setCell ⟨w3.heap.size, 0, none⟩ y0).setCell ⟨w3.heap.size, 1, none⟩ y1).setCell ⟨w3.heap.size, 2, none⟩ y2).setCell ⟨w3.heap.size, 3, none⟩ y3).setCell ⟨w3.heap.size, 4, none⟩ y4).setCell ⟨w3.heap.size, 5, none⟩ y5).cell? ⟨w2.heap.size, 5, none⟩ = some (.slice a3 N c3) ∧ 
            ((((((x.setCell ⟨w3.heap.size, 0, none⟩ y0).setCell ⟨w3.heap.size, 1, none⟩ y1).setCell ⟨w3.heap.size, 2, none⟩ y2).setCell ⟨w3.heap.size, 3, none⟩ y3).setCell ⟨w3.heap.size, 4, none⟩ y4).setCell ⟨w3.heap.size, 5, none⟩ y5).cell? ⟨bB, oB, none⟩ = some (.int .i64 (v : Int))) :=
          fun x h y0 y1 y2 y3 y4 y5 => HS.out _ (below_set6 h y0 y1 y2 y3 y4 y5)
        clear HB1 HBa HIB hvN hvB hB0 hv0 hj hlt hj4 hB4 hB5
        go_upto_region 12 with fail
        go_cut [8, 10, 11] (fun lb qp fe wx => lb = .slice (some ⟨bB, oB, none⟩) B.length cB ∧ ∃ (qb : Nat) (E n' s' t' : Int) (b1 : Option Addr) (d1 : Nat) (L' : List Arc3) (b2 : Option Addr) (d2 : Nat) (F' : List Int) (b3 : Option Addr) (d3 : Nat) (H' : List Int), qp = .pointer (some ⟨qb, 0, none⟩) ∧ fe = .int .i64 E ∧
          Hid (QAt w3 qb wx n' s' t' b1 d1 L' b2 d2 F' b3 d3 H') ∧ Hid (NextIs N sN tN L F H E n' s' t' L' F' H') ∧ Hid (E ≠ 0 → ¬ ∃ x, CanLift N sN tN L F H v x))
        case first =>
          clear q0 q1 q2 q3 q4 q5 e0 HAt3 X2 HG2 HB2 HE HTop HvN HvB HJ4 v0 hB2 h00 hbs hz3 hl
          go_wp2_with fail
          go_region_held3 (fun x => Below w3.heap.size w3 x ∧ x.cell? ⟨w2.heap.size, 0, none⟩ = some (.int .i64 (N : Int)) ∧ x.cell? ⟨w2.heap.size, 1, none⟩ = some (.int .i64 (sN : Int)) ∧ x.cell? ⟨w2.heap.size, 2, none⟩ = some (.int .i64 (tN : Int)) ∧
            x.cell? ⟨w2.heap.size, 3, none⟩ = some (.slice a1 L.length c1) ∧ x.cell? ⟨w2.heap.size, 4, none⟩ = some (.slice a2 L.length c2) ∧ x.cell? ⟨w2.heap.size, 5, none⟩ = some (.slice a3 N c3) ∧ x.cell? ⟨bB, oB, none⟩ = some (.int .i64 (v : Int)))
            (first
              | with_reducible exact HS6.out _ hs5.1 _ _ _ _ _ _
              | with_reducible assumption
              | with_reducible exact HS.out _ ((Below.refl _ _).drew)
              | with_reducible exact HS.out _ (below_al (And.left (by with_reducible assumption)) _))
            (first
              | (go_at_call 11; refine (HLift.out _ (And.left (by with_reducible assumption))).mono ?_; rintro e w5 ⟨hb5, E, n', s', t', b1, d1, L', b2, d2, F', b3, d3, H', rfl, hNew, hNx, hNo⟩; have hs5 := HS.out w5 (below_tr (And.left (by with_reducible assumption)) hb5); (try (have tA : w5.heap[w3.heap.size]? = some (.cells #[.int .i64 0, .int .i64 0, .int .i64 0, .slice none 0 0, .slice none 0 0, .slice none 0 0] 28 (0, 0)) := (by with_reducible exact pre_al6 hb5); obtain ⟨⟨a0, a1, a2, a3, a4, a5⟩, f6⟩ := blk6 tA; have f0 := f6 0; have f1 := f6 1; have f2 := f6 2; have f3 := f6 3; have f4 := f6 4; have f5 := f6 5; clear f6)); have HQ : Hid _ := hNew; have HNx : Hid (NextIs N sN tN L F H E n' s' t' L' F' H') := hNx; have HNo : Hid (E ≠ 0 → ¬ ∃ x, CanLift N sN tN L F H v x) := hNo; clear hNew hNx hNo hb5))
          all_goals
            go_wp2_with fail
            go_meet
            case rel =>
              first
              | exact ⟨rfl, _, E, n', s', t', b1, d1, L', b2, d2, F', b3, d3, H', rfl, rfl, QAt.early (HQ.out.from_ (by simp)) hs5.1 tA, HNx, HNo⟩
              | exact ⟨rfl, _, E, n', s', t', b1, d1, L', b2, d2, F', b3, d3, H', rfl, rfl, QAt.fresh (HQ.out.from_ (by simp)) hs5.1, HNx, HNo⟩
        case rest =>
          obtain ⟨rfl, qb, E, n', s', t', b1, d1, L', b2, d2, F', b3, d3, H', rfl, rfl, HQ, HNx, HNo⟩ := hcut
          clear q0 q1 q2 q3 q4 q5
          have HA2 : Hid (ArcsAt w2 ao L) := HG2.out.arcs
          have HBe : Hid (bB < w3.heap.size ∧ w3.cell? ⟨bB, oB, none⟩ = some (.int .i64 (v : Int))) := ⟨hbB, e0⟩
          have HJ4 : Hid ((j : Int) ≤ 40000) := HJ4
          have h22 : w2.heap.size < w3.heap.size := hwr
          clear e0 hbB HS HS6 HLift
          have hqs := HQ.out.bel.size
          obtain ⟨r0, r1, r2, r3⟩ := blk4 (blk_below (HAt3.out.bel.trans (HQ.out.bel.mono HAt3.out.bel.size)) X2.out (by omega))
          go_wp2
          go_loopw [11, 12] (fun fe kk wx => ∃ (k : Nat) (E n' s' t' : Int) (b1 : Option Addr) (d1 : Nat) (L' : List Arc3) (b2 : Option Addr) (d2 : Nat) (F' : List Int) (b3 : Option Addr) (d3 : Nat) (H' : List Int), k ≤ 2 * L.length ∧ kk = .int .i64 k ∧ fe = .int .i64 E ∧
            Hid (QAt w3 qb wx n' s' t' b1 d1 L' b2 d2 F' b3 d3 H') ∧ Hid (NextIs N sN tN L F H E n' s' t' L' F' H') ∧ Hid (E ≠ 0 → ¬ ∃ x, CanLift N sN tN L F H v x) ∧
            Hid (E ≠ 0 → ∀ i, i < k → frmN L (i / 2) (decide (i % 2 = 1)) = v → ¬ CanSend sN tN L F H (i / 2) (decide (i % 2 = 1)))) (fun _ kk _ => 2 * L.length - (intOf kk).toNat)
          case atStart => exact ⟨0, E, n', s', t', b1, d1, L', b2, d2, F', b3, d3, H', Nat.zero_le _, rfl, rfl, HQ, HNx, HNo, fun _ i hi => absurd hi (Nat.not_lt_zero _)⟩
          case round =>
            clear HQ HNx HNo r0 r1 r2 r3 hqs
            obtain ⟨k, E, n', s', t', b1, d1, L', b2, d2, F', b3, d3, H', hk, rfl, rfl, HQ, HNx, HNo, HNs⟩ := hrel
            have hqs := HQ.out.bel.size
            have hqi := HQ.out.hi
            have hB2w : Below w2.heap.size w2 wr := HAt3.out.bel.trans (HQ.out.bel.mono HAt3.out.bel.size)
            have xp := blk_below HQ.out.bel HAt3.out.blk HAt3.out.sz
            have hpwr : w2.heap.size < wr.heap.size := by omega
            have hwwr : w.heap.size < wr.heap.size := by omega
            obtain ⟨r0, r1, r2, r3⟩ := blk4 (blk_below hB2w X2.out hwz)
            by_cases hE0 : E = 0
            · subst hE0
              obtain ⟨rfl, rfl, rfl, rfl, hR, hW⟩ := HNx.out rfl
              have xq := HQ.out.blk
              rw [hR.ok.flen, hR.ok.hlen] at xq
              obtain ⟨⟨q0, q1, q2, q3, q4, q5⟩, _⟩ := blk6 xq
              have HR : Hid (Reach N sN tN L' F' H') := hR
              have HW : Hid (workN N sN tN L' F' H' + 1 ≤ workN N sN tN L' F H) := hW
              have h00 : ((0 : Int) != 0) = false := rfl
              clear hR hW HNx HNo HNs xq
              have hj4 : (j : Int) ≤ 40000 := HJ4.out
              go_wp2_with (first
                | (refine wpList_store_push rfl _ _ rfl w2.heap.size _ _ _ _ _ _ _ _ _ _ _ _ _ _ _ _ _ _ rfl rfl xp ?_; intro w6 ho6 yp6 hs6; clear hs6))
              go_roundw
              case rel => exact ⟨j + 1, b1, d1, b2, d2, b3, d3, F', H', by omega, by go_num, HAt3.out.put HQ.out HR.out HW.out (Nat.le_refl _) ho6 yp6⟩
              case measure => have := HTop.out; simp [intOf]; omega
            · have hE1 : (E != 0) = true := by simpa using hE0
              have HE0 : Hid (E ≠ 0) := hE0
              by_cases hlt : k < 2 * L.length
              · have HK : Hid (k + 1 ≤ 2 * L.length) := hlt
                have hltI : (k : Int) < 2 * (L.length : Int) := by omega
                obtain ⟨i, r, hkr, hr⟩ : ∃ i r, k = 2 * i + r ∧ r < 2 := ⟨k / 2, k % 2, by omega, by omega⟩
                have hil : i < L.length := by omega
                have hdiv : (k : Int) / 2 = (i : Int) := by omega
                have hdivN : k / 2 = i := by omega
                obtain ⟨bA, offA, rfl, hbA, b0, b1', b2'⟩ := HA2.out.below hB2w (Nat.le_refl _) i hil
                obtain ⟨e1, e2, hpN, hqN, _, _⟩ := arc_at HE.out hil
                have HIdx : Hid (frmN L i true = towN L i false ∧ frmN L i false = frmN L i false) := ⟨rfl, rfl⟩
                obtain ⟨p, hp⟩ : ∃ p, frmN L i false = p := ⟨_, rfl⟩
                obtain ⟨q, hq⟩ : ∃ q, towN L i false = q := ⟨_, rfl⟩
                rw [e1, hp] at b0
                rw [e2, hq] at b1'
                have hfp : frmN L i false = p := hp
                have hfq : frmN L i true = q := hq
                have z0 := later HQ.out.bel HBe.out.2 HBe.out.1
                have hbBr : bB < wr.heap.size := Nat.lt_of_lt_of_le HBe.out.1 hqs
                obtain ⟨⟨q0, q1, q2, q3, q4, q5⟩, _⟩ := blk6 xp
                have HPi : Hid (∀ W : World, Below w3.heap.size w3 W → PushIn W a1 c1 L a2 c2 F a3 c3 H) := fun W hW => HAt3.out.inn.below hW (Nat.le_refl _)
                generalize (at3 L i).2.2 = c at *
                clear e1 e2 hp hq hB2w xp hE0 hpN hqN
                by_cases hr0 : r = 0
                · subst hr0
                  have hmod : (k : Int) % 2 = 0 := by omega
                  have hmodT : Int.tmod (k : Int) 2 = 0 := by rw [Int.tmod_eq_emod_of_nonneg (by omega)]; exact hmod
                  have HKr : Hid (k = 2 * i + 0) := hkr
                  clear hkr hr
                  by_cases hpv : p = v
                  · subst hpv
                    have e1 : ((p : Int) == (p : Int)) = true := by simp
                    clear hfp hfq
                    have HSend : Hid (∀ W : World, PushIn W a1 c1 L a2 c2 F a3 c3 H → Calls Try.prog 12 #[.agg #[.int .i64 (N : Int), .int .i64 (sN : Int), .int .i64 (tN : Int), .slice a1 L.length c1, .slice a2 L.length c2, .slice a3 N c3], .int .i64 (i : Int), .bool false] W fun e w' => Below W.heap.size W w' ∧
                        ∃ E n' s' t' b1 d1 L' b2 d2 F' b3 d3 H', e = .returned (.tuple #[.agg #[.int .i64 n', .int .i64 s', .int .i64 t', .slice b1 (L' : List Arc3).length d1, .slice b2 (F' : List Int).length d2, .slice b3 (H' : List Int).length d3], .int .i64 E]) ∧ PushNew w' W.heap.size b1 d1 L' b2 d2 F' b3 d3 H' ∧
                          NextIs N sN tN L F H E n' s' t' L' F' H' ∧ (E ≠ 0 → ¬ CanSend sN tN L F H i false)) := fun W hW => by
                      have h := hS N sN tN (i : Int) false a1 a2 a3 c1 c2 c3 L F H W HAt3.out.re.ok hW
                      rw [HAt3.out.re.ok.flen, HAt3.out.re.ok.hlen] at h
                      refine h.mono ?_
                      rintro e w' ⟨hb, E, n', s', t', b1, d1, L', b2, d2, F', b3, d3, H', he, hNew, hi, hT⟩
                      rw [Int.toNat_natCast] at hi hT
                      refine ⟨hb, E, n', s', t', b1, d1, L', b2, d2, F', b3, d3, H', he, hNew, fun h0 => ?_, fun h0 hx => h0 (hi.2 ⟨by omega, hx⟩)⟩
                      have hx := (hi.1 h0).2
                      obtain ⟨e1, e2, e3, e4, e5, e6⟩ := hT h0
                      rw [e5, e6]
                      exact ⟨e1, e2, e3, e4, reach_send HAt3.out.re hx, work_send HAt3.out.re hx⟩
                    clear HIdx
                    go_wp2
                    go_quiet (fail)
                    go_wp2_with fail
                    refine (HSend.out _ (HPi.out _ (below_drewN (HQ.out.bel.alloc (by omega) _) _))).mono ?_
                    rintro e w5 ⟨hb5, E5, n5, s5, t5, e1, g1, L5, e2, g2, F5, e3, g3, H5, rfl, hN5, hX5, hC5⟩
                    have hbx : Below wr.heap.size wr w5 := (below_drewN ((Below.refl wr.heap.size wr).alloc (Nat.le_refl _) _) _).trans (hb5.mono (by simp))
                    have hz5 := hbx.size
                    have xq5 := blk_below hbx HQ.out.blk HQ.out.hi
                    have HN5 : Hid (PushNew w5 wr.heap.size e1 g1 L5 e2 g2 F5 e3 g3 H5) := hN5.from_ (by simp)
                    have HX5 : Hid (NextIs N sN tN L F H E5 n5 s5 t5 L5 F5 H5) := hX5
                    have HC5 : Hid (E5 ≠ 0 → ¬ CanSend sN tN L F H i false) := hC5
                    have HBx : Hid (Below wr.heap.size wr w5) := hbx
                    clear hb5 hN5 hX5 hC5 hbx b0 b1' b2' z0 q0 q1 q2 q3 q4 q5 HSend r0 r1 r2 r3
                    go_wp2_with (first
                      | (refine wpList_store_push rfl _ _ rfl qb _ _ _ _ _ _ _ _ _ _ _ _ _ _ _ _ _ _ rfl rfl xq5 ?_; intro w6 ho6 yq6 hs6; clear hs6))
                    go_roundw
                    case rel =>
                      refine ⟨k + 1, E5, n5, s5, t5, e1, g1, L5, e2, g2, F5, e3, g3, H5, HK.out, by go_num, rfl, HQ.out.again HN5.out HBx.out ho6 yq6, HX5, fun _ => HNo.out HE0.out, fun h0 u hu hfr => ?_⟩
                      by_cases c : u = k
                      · have c1 : u / 2 = i := by have := HKr.out; omega
                        have c2 : decide (u % 2 = 1) = false := by have := HKr.out; simp; omega
                        rw [c1, c2]
                        exact HC5.out h0
                      · exact HNs.out HE0.out u (by omega) hfr
                    case measure => have := HK.out; simp [intOf]; omega
                  · have e1 : ((p : Int) == (v : Int)) = false := by simp; omega
                    have HNv : Hid (frmN L i false ≠ v) := by rw [hfp]; exact hpv
                    clear hfp hfq hpv
                    clear HIdx HPi
                    go_wp2
                    go_quiet (fail)
                    go_wp2
                    go_roundw
                    case rel =>
                      refine ⟨k + 1, E, n', s', t', b1, d1, L', b2, d2, F', b3, d3, H', HK.out, by go_num, rfl, HQ.out.on (below_drewN ((Below.refl wr.heap.size wr).alloc (Nat.le_refl _) _) _), HNx, fun _ => HNo.out HE0.out, fun h0 u hu hfr => ?_⟩
                      by_cases c : u = k
                      · have c1 : u / 2 = i := by have := HKr.out; omega
                        have c2 : decide (u % 2 = 1) = false := by have := HKr.out; simp; omega
                        rw [c1, c2] at hfr
                        exact absurd hfr HNv.out
                      · exact HNs.out HE0.out u (by omega) hfr
                    case measure => have := HK.out; simp [intOf]; omega
                · obtain rfl : r = 1 := by omega
                  have hmod : (k : Int) % 2 = 1 := by omega
                  have hmodT : Int.tmod (k : Int) 2 = 1 := by rw [Int.tmod_eq_emod_of_nonneg (by omega)]; exact hmod
                  have HKr : Hid (k = 2 * i + 1) := hkr
                  clear hkr hr
                  by_cases hqv : q = v
                  · subst hqv
                    have e1 : ((q : Int) == (q : Int)) = true := by simp
                    clear hfp hfq
                    have HSend : Hid (∀ W : World, PushIn W a1 c1 L a2 c2 F a3 c3 H → Calls Try.prog 12 #[.agg #[.int .i64 (N : Int), .int .i64 (sN : Int), .int .i64 (tN : Int), .slice a1 L.length c1, .slice a2 L.length c2, .slice a3 N c3], .int .i64 (i : Int), .bool true] W fun e w' => Below W.heap.size W w' ∧
                        ∃ E n' s' t' b1 d1 L' b2 d2 F' b3 d3 H', e = .returned (.tuple #[.agg #[.int .i64 n', .int .i64 s', .int .i64 t', .slice b1 (L' : List Arc3).length d1, .slice b2 (F' : List Int).length d2, .slice b3 (H' : List Int).length d3], .int .i64 E]) ∧ PushNew w' W.heap.size b1 d1 L' b2 d2 F' b3 d3 H' ∧
                          NextIs N sN tN L F H E n' s' t' L' F' H' ∧ (E ≠ 0 → ¬ CanSend sN tN L F H i true)) := fun W hW => by
                      have h := hS N sN tN (i : Int) true a1 a2 a3 c1 c2 c3 L F H W HAt3.out.re.ok hW
                      rw [HAt3.out.re.ok.flen, HAt3.out.re.ok.hlen] at h
                      refine h.mono ?_
                      rintro e w' ⟨hb, E, n', s', t', b1, d1, L', b2, d2, F', b3, d3, H', he, hNew, hi, hT⟩
                      rw [Int.toNat_natCast] at hi hT
                      refine ⟨hb, E, n', s', t', b1, d1, L', b2, d2, F', b3, d3, H', he, hNew, fun h0 => ?_, fun h0 hx => h0 (hi.2 ⟨by omega, hx⟩)⟩
                      have hx := (hi.1 h0).2
                      obtain ⟨e1, e2, e3, e4, e5, e6⟩ := hT h0
                      rw [e5, e6]
                      exact ⟨e1, e2, e3, e4, reach_send HAt3.out.re hx, work_send HAt3.out.re hx⟩
                    clear HIdx
                    go_wp2
                    go_quiet (fail)
                    go_wp2_with fail
                    refine (HSend.out _ (HPi.out _ (below_drewN (HQ.out.bel.alloc (by omega) _) _))).mono ?_
                    rintro e w5 ⟨hb5, E5, n5, s5, t5, e1, g1, L5, e2, g2, F5, e3, g3, H5, rfl, hN5, hX5, hC5⟩
                    have hbx : Below wr.heap.size wr w5 := (below_drewN ((Below.refl wr.heap.size wr).alloc (Nat.le_refl _) _) _).trans (hb5.mono (by simp))
                    have hz5 := hbx.size
                    have xq5 := blk_below hbx HQ.out.blk HQ.out.hi
                    have HN5 : Hid (PushNew w5 wr.heap.size e1 g1 L5 e2 g2 F5 e3 g3 H5) := hN5.from_ (by simp)
                    have HX5 : Hid (NextIs N sN tN L F H E5 n5 s5 t5 L5 F5 H5) := hX5
                    have HC5 : Hid (E5 ≠ 0 → ¬ CanSend sN tN L F H i true) := hC5
                    have HBx : Hid (Below wr.heap.size wr w5) := hbx
                    clear hb5 hN5 hX5 hC5 hbx b0 b1' b2' z0 q0 q1 q2 q3 q4 q5 HSend r0 r1 r2 r3
                    go_wp2_with (first
                      | (refine wpList_store_push rfl _ _ rfl qb _ _ _ _ _ _ _ _ _ _ _ _ _ _ _ _ _ _ rfl rfl xq5 ?_; intro w6 ho6 yq6 hs6; clear hs6))
                    go_roundw
                    case rel =>
                      refine ⟨k + 1, E5, n5, s5, t5, e1, g1, L5, e2, g2, F5, e3, g3, H5, HK.out, by go_num, rfl, HQ.out.again HN5.out HBx.out ho6 yq6, HX5, fun _ => HNo.out HE0.out, fun h0 u hu hfr => ?_⟩
                      by_cases c : u = k
                      · have c1 : u / 2 = i := by have := HKr.out; omega
                        have c2 : decide (u % 2 = 1) = true := by have := HKr.out; simp; omega
                        rw [c1, c2]
                        exact HC5.out h0
                      · exact HNs.out HE0.out u (by omega) hfr
                    case measure => have := HK.out; simp [intOf]; omega
                  · have e1 : ((q : Int) == (v : Int)) = false := by simp; omega
                    have HNv : Hid (frmN L i true ≠ v) := by rw [hfq]; exact hqv
                    clear hfp hfq hqv
                    clear HIdx HPi
                    go_wp2
                    go_quiet (fail)
                    go_wp2
                    go_roundw
                    case rel =>
                      refine ⟨k + 1, E, n', s', t', b1, d1, L', b2, d2, F', b3, d3, H', HK.out, by go_num, rfl, HQ.out.on (below_drewN ((Below.refl wr.heap.size wr).alloc (Nat.le_refl _) _) _), HNx, fun _ => HNo.out HE0.out, fun h0 u hu hfr => ?_⟩
                      by_cases c : u = k
                      · have c1 : u / 2 = i := by have := HKr.out; omega
                        have c2 : decide (u % 2 = 1) = true := by have := HKr.out; simp; omega
                        rw [c1, c2] at hfr
                        exact absurd hfr HNv.out
                      · exact HNs.out HE0.out u (by omega) hfr
                    case measure => have := HK.out; simp [intOf]; omega
              · refine False.elim ?_
                rcases busy_on HAt3.out.re HvN.out HvB.out with hx | ⟨k0, b, hfr, hC⟩
                · exact HNo.out hE0 hx
                · have hk0 := hC.lt
                  cases b
                  · exact HNs.out hE0 (2 * k0) (by omega) (by rw [show 2 * k0 / 2 = k0 by omega, show decide (2 * k0 % 2 = 1) = false by simp]; exact hfr) (by rw [show 2 * k0 / 2 = k0 by omega, show decide (2 * k0 % 2 = 1) = false by simp]; exact hC)
                  · exact HNs.out hE0 (2 * k0 + 1) (by omega) (by rw [show (2 * k0 + 1) / 2 = k0 by omega, show decide ((2 * k0 + 1) % 2 = 1) = true by simp]; exact hfr) (by rw [show (2 * k0 + 1) / 2 = k0 by omega, show decide ((2 * k0 + 1) % 2 = 1) = true by simp]; exact hC)
  · obtain rfl := hno hE
    clear hE hyes hno hIn hWi hFr
    obtain ⟨r0, r1, r2, r3⟩ := blk4 x2
    go_wp2
    go_ret
    exact ⟨rfl, HB2.out.alloc HB2.out.size _⟩

end Go.Proofs.Ytgmifepfbcgfbaa
