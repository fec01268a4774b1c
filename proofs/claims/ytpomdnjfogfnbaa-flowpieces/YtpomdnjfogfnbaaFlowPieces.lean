/- The law FlowPieces, walked, out of the contracts of Split and Value. -/
import Derived.Test.YtpomdnjfogfnbaaFlowPiecesC
import Derived.Test.YtpomdnjfogfnbaaCloneI
import Derived.Test.YtpomdnjfogfnbaaRest
import Derived.Test.YtpomdnjfogfnbaaSl
namespace Go.Proofs.Ytpomdnjfogfnbaa
open Go.RowKit
set_option linter.unusedVariables false

set_option maxHeartbeats 4000000 in
set_option maxRecDepth 100000 in
theorem sumP_any (L wl bn bw : Nat) (aoA ao aw : Option Addr) (capA cap cw : Nat) (P : List PcV) (w : World) (hbn : bn < w.heap.size) (hn3 : w.cell? ⟨bn, 3, none⟩ = some (.slice aoA L capA)) (hbw : bw < w.heap.size) (hw0 : w.cell? ⟨bw, 0, none⟩ = some (.slice aw wl cw))
    (hP : PiecesAt w ao P) (h60 : P.length ≤ 60) (hL : L ≤ 60) (hwl : wl ≤ 60) (hS : SumOk L wl P) :
    Calls Try.prog 21 #[.slice ao P.length cap, .pointer (some ⟨bn, 0, none⟩), .pointer (some ⟨bw, 0, none⟩)] w fun e w' => Below w.heap.size w w' ∧
      ∃ g, w.heap.size ≤ g ∧ e = .returned (.tuple #[.slice (some ⟨g, 0, none⟩) L L, .int .i64 (totV P (min P.length wl)), .bool true]) ∧ IntsAt w' (some ⟨g, 0, none⟩) ((List.range L).map (amtV P P.length)) := by
  have hmk := make_ints L (by omega)
  have HP : Hid (PiecesAt w ao P) := hP
  have HS : Hid (SumOk L wl P) := hS
  obtain ⟨M, hM⟩ : ∃ M, P.length = M := ⟨_, rfl⟩
  rw [hM] at h60
  rw [hM]
  have HM : Hid (P.length = M) := hM
  clear hP hS hM
  go_enter Try.func21, Try.ntmps21
  go_wp2
  go_loopw [8, 19] (fun u i wr => ∃ k : Nat, k ≤ M ∧ i = .int .i64 k ∧ u = .int .i64 (totV P (min k wl)) ∧ OwnI wr w.heap.size L L (amtV P k) ∧ Below w.heap.size w wr) (fun _ i _ => M - (intOf i).toNat)
  case atStart => exact ⟨0, Nat.zero_le _, rfl, by simp [totV, total], ⟨_, zeri_row _ _ _, Nat.le_refl _, fun j hj => by simp [amtV, amtAt]⟩, below_one _ _⟩
  case round =>
    obtain ⟨k, hk, rfl, rfl, hO, hB⟩ := hrel
    have hz := hB.size
    have hgl0 := hO.lt
    have q3 := later hB hn3 hbn
    have q0 := later hB hw0 hbw
    by_cases hlt : k < M
    · have hlP : k < P.length := by rw [HM.out]; exact hlt
      obtain ⟨b, off, rfl, hb, c0, c1, hAt⟩ := HP.out k hlP
      have c0 := later hB c0 hb
      have c1 := later hB c1 hb
      have h1 := HS.out.once k hlP
      have h2 := HS.out.lt k hlP
      obtain ⟨h3, h4⟩ := HS.out.pos k hlP
      obtain ⟨t1, t2⟩ := HS.out.tot k (by omega)
      obtain ⟨t3, t4⟩ := HS.out.tot (k + 1) (by omega)
      have hpin := hAt.ints
      have hple := hAt.le
      have hpmx := hAt.max
      have Hone : Hid ((atp P k).k.Nodup) := h1
      have Hlt : Hid (∀ j ∈ (atp P k).k, j < L) := h2
      have HA : Hid (∀ j, j < L → amtV P (k + 1) j = amtV P k j + along (atp P k).a (atp P k).k j) := fun j _ => amtV_succ P hlP j
      have HT : Hid (totV P (min (k + 1) wl) = if k < wl then totV P (min k wl) + (atp P k).a else totV P (min k wl)) := by
        by_cases c : k < wl
        · rw [Hid, if_pos c, show min (k + 1) wl = k + 1 by omega, show min k wl = k by omega, totV_succ P hlP]
        · rw [Hid, if_neg c, show min (k + 1) wl = wl by omega, show min k wl = wl by omega]
      have HAm : Hid (∀ j, j < L → 0 ≤ amtV P k j ∧ amtV P (k + 1) j ≤ 10000) := fun j hj => ⟨(HS.out.amt k (by omega) j hj).1, (HS.out.amt (k + 1) (by omega) j hj).2⟩
      have Hin : Hid (IntsAt w (atp P k).ao (numP (atp P k).k)) := hpin
      obtain ⟨X, hX⟩ : ∃ X, totV P (min k wl) = X := ⟨_, rfl⟩
      obtain ⟨a, ha⟩ : ∃ a, (atp P k).a = a := ⟨_, rfl⟩
      obtain ⟨K, hK⟩ : ∃ K, (atp P k).k = K := ⟨_, rfl⟩
      obtain ⟨pa, hpa⟩ : ∃ pa, (atp P k).ao = pa := ⟨_, rfl⟩
      obtain ⟨pc, hpc⟩ : ∃ pc, (atp P k).cap = pc := ⟨_, rfl⟩
      rw [ha, hK] at HA
      rw [hX, ha] at HT
      rw [hX] at t1 t2
      rw [ha] at c0 h3 h4
      rw [hpa, hK, hpc] at c1
      rw [hK, hpc] at hple
      rw [hpc] at hpmx
      rw [hK] at Hone Hlt
      rw [hpa, hK] at Hin
      rw [hX]
      have HO : Hid (OwnI wr w.heap.size L L (amtV P k)) := hO
      have HB : Hid (Below w.heap.size w wr) := hB
      unfold maxLen at hpmx
      have hbl : b < wr.heap.size := by omega
      clear h1 h2 hAt hpin hX ha hK hpa hpc hO hB
      obtain ⟨V, hV⟩ : ∃ V, V = wr := ⟨_, rfl⟩
      subst hV
      go_wp2
      go_loopw [27] (fun i wq => ∃ j : Nat, j ≤ K.length ∧ i = .int .i64 j ∧ OwnI wq w.heap.size L L (fun x => amtV P k x + along a (K.take j) x) ∧ wq.cell? ⟨V.heap.size, 0, none⟩ = some (.int .i64 a) ∧ V.heap.size < wq.heap.size ∧ Below w.heap.size w wq) (fun i _ => K.length - (intOf i).toNat)
      case atStart =>
        refine ⟨0, Nat.zero_le _, rfl, (HO.out.alloc _).congr fun j hj => ?_, ?_, by simp, HB.out.alloc (by omega) _⟩
        · simp [along]
        · rw [newest]; rfl
      case round =>
        obtain ⟨j, hj, rfl, hO, hca, hVl, hB⟩ := hrel
        have hz := hB.size
        have hgl := hO.lt
        by_cases hjl : j < K.length
        · obtain ⟨pb, po, rfl, hpb, d0⟩ := Hin.out j (by rw [numP_len]; exact hjl)
          rw [numP_at hjl] at d0
          have hmem : K.getD j 0 ∈ K := by simp [hjl]
          have hlL := Hlt.out _ hmem
          have hal := fun x => along_snoc (a := a) Hone.out hjl x
          generalize K.getD j 0 = m at *
          have d1 := later hB d0 hpb
          have o1 := hO.cell hlL
          have o2 := hO.frozen m
          obtain ⟨am1, am2⟩ := HAm.out m hlL
          have al := along_le (a := a) (by omega) K j m
          have HA' := HA.out m hlL
          have HN : Hid (∀ x, x < L → (if x = m then amtV P k m + along a (K.take j) m + a else amtV P k x + along a (K.take j) x) = amtV P k x + along a (K.take (j + 1)) x) := fun x hx => by
            rw [hal x]
            by_cases e : x = m
            · subst e; rw [if_pos rfl, if_pos rfl]; omega
            · rw [if_neg e, if_neg e]; omega
          have hax : amtV P k m + along a (K.take (j + 1)) m ≤ 10000 := by
            have := (along_le (a := a) (by omega) K (j + 1) m).2
            omega
          rw [hal m, if_pos rfl] at hax
          have hy0 : 0 ≤ amtV P k m + along a (K.take j) m := by omega
          generalize hyy : amtV P k m + along a (K.take j) m = y at *
          have v1 : IntKind.i64.wrap (y + a) = y + a := by rw [IntKind.wrap_i64]; omega
          have hpbr : pb < wr.heap.size := by omega
          have HO2 : Hid (OwnI wr w.heap.size L L (fun x => amtV P k x + along a (K.take j) x)) := hO
          have hmn : ¬ (m : Int) < 0 := by omega
          have hmL : ¬ (L : Int) ≤ (m : Int) := by omega
          clear hO hal al HA' am1 am2 d0 hyy hmem
          go_wp2
          go_region
          go_wp2
          go_roundw
          case rel =>
            refine ⟨j + 1, by omega, by go_num, ((HO2.out.set m (y + a)).congr fun x hx => HN.out x hx).drewN 1, ?_, ?_, (hB.setCell (Nat.le_refl _) _).drew⟩
            · exact (World.cell?_of_block (w := wr) (a := ⟨V.heap.size, 0, none⟩) (Below.heap_setCell wr _ _ V.heap.size (by simp; omega))).trans hca
            · simpa [World.setCell] using hVl
          case measure => simp [intOf]; omega
        · have hjK : K.length = j := by omega
          subst hjK
          have HO1 : Hid (OwnI wr w.heap.size L L (amtV P (k + 1))) := hO.congr fun x hx => by rw [List.take_length, HA.out x hx]
          have q0' := later hB hw0 hbw
          by_cases hkw : k < wl
          · have HT1 : Hid (totV P (min (k + 1) wl) = X + a) := by rw [Hid, HT.out, if_pos hkw]
            have v1 : IntKind.i64.wrap (X + a) = X + a := by rw [IntKind.wrap_i64]; omega
            have hbw' : bw < wr.heap.size := by omega
            clear hO
            go_wp2
            go_roundw
            case rel => exact ⟨k + 1, by omega, by go_num, by rw [HT1.out], HO1.out, hB⟩
            case measure => simp [intOf]; omega
          · have HT1 : Hid (totV P (min (k + 1) wl) = X) := by rw [Hid, HT.out, if_neg hkw]
            have hbw' : bw < wr.heap.size := by omega
            clear hO
            go_wp2
            go_roundw
            case rel => exact ⟨k + 1, by omega, by go_num, by rw [HT1.out], HO1.out, hB⟩
            case measure => simp [intOf]; omega
    · have hkM : M = k := by omega
      subst hkM
      have HI : Hid (IntsAt wr (some ⟨w.heap.size, 0, none⟩) ((List.range L).map (amtV P M))) := hO.ints
      clear hO
      go_wp2
      go_ret3
      exact ⟨hB, _, Nat.le_refl _, rfl, HI.out⟩

theorem sum_list {l : List Arc3} {W R : List PcV} {m : Nat} : (List.range l.length).map (amtV ((W ++ R).take m) ((W ++ R).take m).length) = firstF l (W.map PcV.pc) (R.map PcV.pc) m := by
  unfold firstF
  refine List.map_congr_left fun k hk => ?_
  unfold amtV
  rw [List.take_length, List.map_take, List.map_append]
theorem sum_tot {W R : List PcV} {m : Nat} (hm : m ≤ W.length + R.length) : totV ((W ++ R).take m) (min ((W ++ R).take m).length W.length) = total ((W.map PcV.pc).take m) := by
  unfold totV
  have e : ((W ++ R).take m).length = m := by rw [List.length_take, List.length_append]; omega
  rw [e, List.take_take, show min (min m W.length) m = min m W.length by omega, List.take_append_of_le_length (by omega), ← List.map_take]
  congr 2
  by_cases c : m ≤ W.length
  · rw [show min m W.length = m by omega]
  · rw [show min m W.length = W.length by omega, List.take_of_length_le (Nat.le_refl _), List.take_of_length_le (by omega)]
theorem PiecesAt.take {w : World} {ao : Option Addr} {P : List PcV} (h : PiecesAt w ao P) (m : Nat) : PiecesAt w ao (P.take m) := by
  intro i hi
  have hi2 : i < P.length := by rw [List.length_take] at hi; omega
  have e : atp (P.take m) i = atp P i := by rw [atp_lt _ _ hi, atp_lt _ _ hi2, List.getElem_take]
  rw [e]
  exact h i hi2

set_option maxHeartbeats 8000000 in
set_option maxRecDepth 100000 in
theorem FlowPieces_any (hC : FValueC) (hSp : FSplitC) (n s t many : Int) (ao af : Option Addr) (cap capf : Nat) (l : List Arc3) (f : List Int) (w : World) (hG : GraphIn w ao cap l) (hF : IntsIn w af capf f) :
    Calls Try.prog 7 #[.agg #[.int .i64 n, .int .i64 s, .int .i64 t, .slice ao l.length cap], .slice af f.length capf, .int .i64 many] w fun e w' => e = .returned (.bool true) ∧ Below w.heap.size w w' := by
  have hG0 := hG.alloc (.cells #[.int .i64 n, .int .i64 s, .int .i64 t, .slice ao l.length cap] 24)
  have hF0 := hF.alloc (.cells #[.int .i64 n, .int .i64 s, .int .i64 t, .slice ao l.length cap] 24)
  have x0 := blk_new w (.cells #[.int .i64 n, .int .i64 s, .int .i64 t, .slice ao l.length cap] 24)
  have g00 : ((0 : Int) != 0) = false := rfl
  have g01 : ((0 : Int) == 0) = true := rfl
  go_enter Try.func7, Try.ntmps7
  go_wp2_with fail
  refine (weir_any _).mono ?_
  rintro e w1 ⟨hb1, aoL, capL, rfl, hGL⟩
  simp only [World.size_alloc] at hb1
  have hz1 := hb1.size
  simp only [World.size_alloc] at hz1
  have x1 := blk_below hb1 x0 (by omega)
  have hG1 := hG0.below hb1 (by simp)
  have hF1 := hF0.below hb1 (by simp)
  have hbb1 := below_in hb1 (by omega)
  have hI := ints_new w1 [3, 2, 2, 1, 3] 3
  have hq := hSp 4 0 3 aoL (some ⟨w1.heap.size, 0, none⟩) capL 5 weirL [3, 2, 2, 1, 3] _ (hGL.alloc _) ⟨hI, by decide, by unfold maxLen; omega, fun e => by cases e⟩
  simp only [List.map_cons, List.map_nil] at hq
  have x1a := blk_old x1 (.cells #[.int .i64 3, .int .i64 2, .int .i64 2, .int .i64 1, .int .i64 3] 3)
  have hG1a := hG1.alloc (.cells #[.int .i64 3, .int .i64 2, .int .i64 2, .int .i64 1, .int .i64 3] 3)
  have hF1a := hF1.alloc (.cells #[.int .i64 3, .int .i64 2, .int .i64 2, .int .i64 1, .int .i64 3] 3)
  have hbb1a := hbb1.alloc (by omega) (.cells #[.int .i64 3, .int .i64 2, .int .i64 2, .int .i64 1, .int .i64 3] 3)
  clear hb1 x0 hG0 hF0 hI hGL x1 hG1 hF1 hbb1
  go_wp2_with fail
  refine hq.mono ?_
  clear hq
  rintro e w2 ⟨hb2, a1, c1, W0, a2, c2, R0, err0, rfl, _, _, hS0⟩
  simp only [World.size_alloc] at hb2
  have hz2 := hb2.size
  simp only [World.size_alloc] at hz2
  have x2 := blk_below hb2 x1a (by omega)
  have hG2 := hG1a.below hb2 (by simp)
  have hF2 := hF1a.below hb2 (by simp)
  have hbb2 := hbb1a.trans (hb2.mono (by omega))
  obtain ⟨rfl, hI0⟩ := hS0.ok weir_err (by decide)
  have hW5 : W0.length ≤ 5 := by
    have h1 := hI0.few
    have h2 : weirL.length = 5 := rfl
    rw [List.length_map, List.length_map, h2] at h1
    omega
  have hW0 : W0.length ≠ 0 := fun e => by
    have h1 := hI0.val
    rw [List.eq_nil_of_length_eq_zero e] at h1
    exact absurd h1 (by decide)
  obtain ⟨m0, hm0⟩ : ∃ m, W0.length = m := ⟨_, rfl⟩
  rw [hm0] at hW5 hW0 ⊢
  have gm : ((m0 : Int) == 0) = false := by simpa using hW0
  have gm2 : ¬ (5 : Int) < (m0 : Int) := by omega
  obtain ⟨r0, r1, r2, r3⟩ := blk4 x2
  clear hb2 x1a hG1a hF1a hbb1a hS0 hI0 hm0 hW0
  go_wp2_with fail
  refine (hSp n s t ao af cap capf l f _ hG2 hF2).mono ?_
  rintro e w3 ⟨hb3, a3, c3, W, a4, c4, R, err, rfl, hPW, hPR, hSS⟩
  have hz3 := hb3.size
  have x3 := blk_below hb3 x2 (by omega)
  have hG3 := hG2.below hb3 (Nat.le_refl _)
  have hF3 := hF2.below hb3 (Nat.le_refl _)
  have hbb3 := hbb2.trans (hb3.mono (by omega))
  clear r0 r1 r2 r3 x2 hG2 hF2 hb3 hbb2
  by_cases hE : err = 0
  · subst hE
    obtain ⟨hfe, hg0, hSI⟩ := hSS.right
    obtain ⟨hN, hFl⟩ := flow_ok hfe
    obtain ⟨hge, hs, ht, hst⟩ := net_ok hN
    obtain ⟨⟨hn1, hn2⟩, hl60, hall⟩ := err_ok hge
    obtain ⟨N, rfl⟩ := Int.eq_ofNat_of_zero_le (show 0 ≤ n by omega)
    rw [Int.toNat_natCast] at hFl
    have hfew := hSI.few
    rw [List.length_map, List.length_map] at hfew
    have HN : Hid (netErr N s t l = 0) := hN
    have HFl : Hid (FlowIs N s t l f) := hFl
    have HSI : Hid (SplitIs s t l f (W.map PcV.pc) (R.map PcV.pc)) := hSI
    have Hst : Hid (s ≠ t) := hst
    have y3 := blk_new w3 (.cells #[.slice a3 W.length c3] 29)
    have x4 := blk_old x3 (.cells #[.slice a3 W.length c3] 29)
    have hG4 := hG3.alloc (.cells #[.slice a3 W.length c3] 29)
    have hF4 := hF3.alloc (.cells #[.slice a3 W.length c3] 29)
    have hPW4 := hPW.alloc (.cells #[.slice a3 W.length c3] 29)
    have hPR4 := hPR.alloc (.cells #[.slice a3 W.length c3] 29)
    have hbb4 := hbb3.alloc (by omega) (.cells #[.slice a3 W.length c3] 29)
    clear hSS hfe hg0 hN hFl hge hall hs ht hst hSI x3 hG3 hF3 hPW hPR hbb3
    have z4 := blk_new (w3.alloc (.cells #[.slice a3 W.length c3] 29)) (.cells #[.slice a3 W.length c3, .slice a4 R.length c4] 29)
    rw [World.size_alloc] at z4
    obtain ⟨zc0, zc1, _, _⟩ := blk2 z4
    have hcat := concatP_any (w3.heap.size + 1) a3 a4 c3 c4 W R _ (by simp) zc0 zc1 (hPW4.alloc _) (hPR4.alloc _) (by omega)
    go_wp2_with fail
    refine hcat.mono ?_
    clear hcat zc0 zc1 z4
    rintro e w5 ⟨hb5, a5, c5, rfl, hP5, hc5, hm5, _⟩
    simp only [World.size_alloc] at hb5
    have hz5 := hb5.size
    simp only [World.size_alloc] at hz5
    have x5 := blk_below hb5 (blk_old x4 _) (by omega)
    have y5 := blk_below hb5 (blk_old y3 _) (by omega)
    have hG5 := (hG4.alloc _).below hb5 (by simp)
    have hF5 := (hF4.alloc _).below hb5 (by simp)
    have hbb5 := (hbb4.alloc (by simp; omega) _).trans (hb5.mono (by omega))
    have yc5 := (show w5.cell? ⟨w3.heap.size, 0, none⟩ = some (.slice a3 W.length c3) by simp [World.cell?, y5])
    clear hb5 x4 y3 hG4 hF4 hPW4 hPR4 hbb4 y5
    obtain ⟨r0, r1, r2, r3⟩ := blk4 x5
    obtain ⟨mw, hmw'⟩ : ∃ m, W.length = m := ⟨_, rfl⟩
    obtain ⟨mr, hmr⟩ : ∃ m, R.length = m := ⟨_, rfl⟩
    rw [hmw', hmr] at hc5 hfew ⊢
    rw [hmw'] at yc5
    have Hmw : Hid (W.length = mw) := hmw'
    have Hmr : Hid (R.length = mr) := hmr
    clear hmw' hmr
    unfold maxLen at hm5
    have hr := rest_any many (mw + mr + 1) (by omega) (by omega) w5
    obtain ⟨m1, m2⟩ := restV_in many (m := mw + mr + 1) (by omega)
    generalize restV many (mw + mr + 1) = rv at *
    obtain ⟨m, rfl⟩ := Int.eq_ofNat_of_zero_le m1
    have hm' : m ≤ mw + mr := by omega
    have e5 : ((mw + mr + 1 : Nat) : Int) = ((mw + mr : Nat) : Int) + 1 := by omega
    rw [e5] at hr
    clear m1 m2 e5
    go_wp2_with fail
    refine hr.mono ?_
    clear hr
    rintro e w5' ⟨rfl, hw⟩
    rw [hw]
    clear hw
    have hPt := hP5.take m
    have hlt : ((W ++ R).take m).length = m := by rw [List.length_take, List.length_append, Hmw.out, Hmr.out]; omega
    have hq1 := sumP_any l.length mw w.heap.size w3.heap.size ao a5 a3 cap c5 c3 ((W ++ R).take m) w5 (by omega) r3 (by omega) yc5 hPt (by rw [hlt]; omega) hl60 (by omega) (by have := sum_ok HN.out HFl.out HSI.out m; rwa [Hmw.out] at this)
    have et := sum_tot (W := W) (R := R) (m := m) (by rw [Hmw.out, Hmr.out]; exact hm')
    rw [Hmw.out] at et
    rw [et, sum_list, hlt] at hq1
    clear et hPt hlt
    go_wp2_with fail
    refine hq1.mono ?_
    clear hq1
    rintro e w6 ⟨hb6, g6, hg6, rfl, hI6⟩
    have hz6 := hb6.size
    have x6 := blk_below hb6 x5 (by omega)
    have hG6 := hG5.below hb6 (Nat.le_refl _)
    have hF6 := hF5.below hb6 (Nat.le_refl _)
    have hP6 := hP5.below hb6 (Nat.le_refl _)
    have hbb6 := hbb5.trans (hb6.mono (by omega))
    have yc6 := later hb6 yc5 (by omega)
    clear r0 r1 r2 r3 x5 hG5 hF5 hP5 hbb5 yc5 hb6
    obtain ⟨r0, r1, r2, r3⟩ := blk4 x6
    have hlt : ((W ++ R).take (mw + mr)).length = mw + mr := by rw [List.length_take, List.length_append, Hmw.out, Hmr.out]; omega
    have hq2 := sumP_any l.length mw w.heap.size w3.heap.size ao a5 a3 cap c5 c3 ((W ++ R).take (mw + mr)) w6 (by omega) r3 (by omega) yc6 (hP6.take (mw + mr)) (by rw [hlt]; omega) hl60 (by omega) (by have := sum_ok HN.out HFl.out HSI.out (mw + mr); rwa [Hmw.out] at this)
    rw [sum_list, hlt, first_all HFl.out.len HSI.out (by rw [List.length_map, List.length_map, Hmw.out, Hmr.out]; exact Nat.le_refl _)] at hq2
    generalize totV ((W ++ R).take (mw + mr)) (min (mw + mr) mw) = tv at hq2
    clear hlt
    go_wp2_with fail
    refine hq2.mono ?_
    clear hq2
    rintro e w7 ⟨hb7, g7, hg7, rfl, hI7⟩
    have hz7 := hb7.size
    have x7 := blk_below hb7 x6 (by omega)
    have hG7 := hG6.below hb7 (Nat.le_refl _)
    have hF7 := hF6.below hb7 (Nat.le_refl _)
    have hI67 := hI6.below hb7 (Nat.le_refl _)
    have hbb7 := hbb6.trans (hb7.mono (by omega))
    clear r0 r1 r2 r3 x6 hG6 hF6 hP6 hbb6 yc6 hb7 hI6
    obtain ⟨r0, r1, r2, r3⟩ := blk4 x7
    have e1 : flowErr N s t l (firstF l (W.map PcV.pc) (R.map PcV.pc) m) = 0 := flow_mk HN.out (by rw [Int.toNat_natCast]; exact first_flow HFl.out HSI.out m)
    have e2 : valueOf N s t l (firstF l (W.map PcV.pc) (R.map PcV.pc) m) = total ((W.map PcV.pc).take m) := by unfold valueOf; rw [if_pos e1, first_val Hst.out HSI.out]
    have hq3 := hC N s t ao (some ⟨g6, 0, none⟩) cap l.length l _ w7 hG7 ⟨hI67, by rw [firstF_len]; exact Nat.le_refl _, by unfold maxLen; omega, fun e => by cases e⟩
    rw [e1, e2, firstF_len] at hq3
    generalize total ((W.map PcV.pc).take m) = tw at *
    clear e1 e2 hG7 hI67
    go_wp2_with fail
    refine hq3.mono ?_
    clear hq3
    rintro e w8 ⟨hb8, rfl⟩
    have hz8 := hb8.size
    have hI8 := hI7.below hb8 (Nat.le_refl _)
    have hF8 := hF7.below hb8 (Nat.le_refl _)
    have HB8 : Hid (Below w.heap.size w w8) := hbb7.trans (hb8.mono (by omega))
    have gt : (tw == tw) = true := by simp
    have hq4 := equalIntsB (some ⟨g7, 0, none⟩) af l.length capf f f w8 hF8.len hF8.len hI8 hF8.ints
    rw [decide_eq_true rfl] at hq4
    have hfl := HFl.out.len
    rw [hfl] at hq4 ⊢
    clear hb8 hI8 hF8 hI7 hF7 hbb7 r0 r1 r2 r3 x7 hfl
    go_wp2_with fail
    refine hq4.mono ?_
    clear hq4
    rintro e w9 ⟨rfl, hb9⟩
    have HB9 : Hid (Below w.heap.size w w9) := HB8.out.trans (hb9.mono (by have := HB8.out.size; omega))
    clear hb9
    go_wp2
    go_ret
    exact ⟨rfl, HB9.out⟩
  · obtain ⟨h1, h2⟩ := hSS.none hE
    have e1 : W = [] := List.map_eq_nil_iff.1 h1
    have e2 : R = [] := List.map_eq_nil_iff.1 h2
    subst e1 e2
    have hE' : (err != 0) = true := by simpa using hE
    clear hE hSS h1 h2
    go_wp2
    go_ret
    exact ⟨rfl, hbb3.alloc (by omega) _⟩

end Go.Proofs.Ytpomdnjfogfnbaa
