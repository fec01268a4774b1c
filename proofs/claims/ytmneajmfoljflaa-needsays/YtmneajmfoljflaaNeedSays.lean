/- The law NeedSays, walked out of contracts of package need. -/
import Derived.Test.YtmneajmfoljflaaNeedR2
import Derived.Test.YtmneajmfoljflaaNeeds
import Derived.Test.YtmneajmfoljflaaMk
import Derived.BigRegion
namespace Go.Proofs.Ytmneajmfoljflaa
open Go.RowKit
set_option linter.unusedVariables false

set_option maxHeartbeats 400000 in
theorem roundZero_any (x : Int) (w : World) : Calls Try.prog 25 #[.int .i64 x] w fun e w' => e = .returned (.bool (x != 0)) ∧ w' = w := by
  go_enter Try.func25, Try.ntmps25
  go_wp2
  go_ret
  exact ⟨rfl, rfl⟩
set_option maxHeartbeats 400000 in
theorem roundIx (ao : Option Addr) (cap : Nat) (l : List Int) (w : World) (hm : l.length ≤ maxLen) (hA : IntsAt w ao l) (hz : ∀ j, j < l.length → ati l j = 0) :
    Calls Try.prog 33 #[.slice ao l.length cap, .func (.func 25) #[] #[]] w fun e w' => e = .returned (.int .i64 (-1)) ∧ w' = w := by
  unfold maxLen at hm
  have HZ : Hid (∀ j, j < l.length → ati l j = 0) := hz
  clear hz
  go_enter Try.func33, Try.ntmps33
  go_wp2
  go_loop [8] (fun i => ∃ k : Nat, k ≤ l.length ∧ i = .int .i64 k) (fun i => l.length - (intOf i).toNat)
  case atStart => exact ⟨0, Nat.zero_le _, rfl⟩
  case round =>
    obtain ⟨k, hk, rfl⟩ := hrel
    by_cases hlt : k < l.length
    · obtain ⟨b, off, rfl, hb, c0⟩ := hA k hlt
      rw [HZ.out k hlt] at c0
      have hd : ((0 : Int) != 0) = false := rfl
      go_wp2_with (go_at_call 25; refine (roundZero_any _ _).mono ?_; rintro e w1 ⟨rfl, hw⟩; rw [hw]; clear hw)
      go_round
      case rel => exact ⟨k + 1, by omega, by go_num⟩
      case measure => simp [intOf]; omega
    · go_wp2
      go_ret
      exact ⟨rfl, rfl⟩
set_option maxHeartbeats 400000 in
theorem roundNone (ao : Option Addr) (cap : Nat) (l : List Int) (w : World) (hm : l.length ≤ maxLen) (hA : IntsAt w ao l) (hz : ∀ j, j < l.length → ati l j = 0) :
    Calls Try.prog 24 #[.slice ao l.length cap, .func (.func 25) #[] #[]] w fun e w' => e = .returned (.bool false) ∧ w' = w := by
  go_enter Try.func24, Try.ntmps24
  go_wp2_with fail
  refine (roundIx ao cap l w hm hA hz).mono ?_
  rintro e w' ⟨rfl, hw⟩
  rw [hw]
  clear hw
  go_wp2
  go_ret
  exact ⟨rfl, rfl⟩

theorem rowN_drewN {w : World} {b n : Nat} {t : TypeId} {f : Nat → Value} (h : w.rowIs b t n f) (q : Nat) : (w.drewN q).rowIs b t n f := by
  induction q with
  | zero => exact h
  | succ q ih => exact ih.drew
/-- more comes to a node than goes from it, along the first k arcs -/
def moreK (l : List Need4) (f : List Int) (v : Int) (k : Nat) : Int := -goneK (needA l) (ati f) v k
theorem moreK_succ {l : List Need4} {f : List Int} {v : Int} {k : Nat} (hk : k < l.length) : moreK l f v (k + 1) = moreK l f v k - ((if (at4 l k).1 = v then ati f k else 0) - (if (at4 l k).2.1 = v then ati f k else 0)) := by
  unfold moreK
  rw [goneK_succ, needA_at hk]
  dsimp only
  omega

set_option maxHeartbeats 4000000 in
set_option maxRecDepth 100000 in
theorem roundTrue_any (N : Nat) (ao af : Option Addr) (cap capf : Nat) (l : List Need4) (f : List Int) (w : World) (hn : needErr N l = 0) (hX : NeedsAt w ao l) (hI : IntsAt w af f) (hR : RoundIs N l f) :
    Calls Try.prog 14 #[.int .i64 (N : Int), .slice ao l.length cap, .slice af l.length capf] w fun e w' => e = .returned (.bool true) ∧ Below w.heap.size w w' := by
  obtain ⟨⟨hn1, hn2⟩, hl30, hall⟩ := need_ok hn
  have hN10 : N ≤ 10 := by omega
  have hmk := make_ints N (by omega)
  have HX : Hid (NeedsAt w ao l) := hX
  have HI : Hid (IntsAt w af f) := hI
  have HR : Hid (RoundIs N l f) := hR
  have HAll : Hid (∀ k, k < l.length → (0 ≤ (at4 l k).1 ∧ (at4 l k).1 < (N : Int)) ∧ (0 ≤ (at4 l k).2.1 ∧ (at4 l k).2.1 < (N : Int)) ∧ 0 ≤ (at4 l k).2.2.1 ∧ (at4 l k).2.2.1 ≤ (at4 l k).2.2.2 ∧ (at4 l k).2.2.2 ≤ 333) := hall
  have HD : Hid (∀ (v : Int) k, k ≤ l.length → -20000 ≤ moreK l f v k ∧ moreK l f v k ≤ 20000) := fun v k hk => by
    have := goneK_bound (l := needA l) (f := ati f) (v := v) (C := 333) (by omega) k fun i hi => by
      have h1 := hR.bnd i (by omega)
      have h2 := hall i (by omega)
      omega
    unfold moreK; omega
  have gl : ((l.length : Int) != (l.length : Int)) = false := by simp
  clear hn hX hI hR hall hn1 hn2
  go_enter Try.func14, Try.ntmps14
  go_wp2
  go_loopw [19] (fun i wr => ∃ k : Nat, k ≤ l.length ∧ i = .int .i64 k ∧ wr.rowIs w.heap.size 3 N (fun j => .int .i64 (moreK l f (j : Int) k)) ∧ Below w.heap.size w wr) (fun i _ => l.length - (intOf i).toNat)
  case atStart => exact ⟨0, Nat.zero_le _, rfl, zeri_row w N 3, below_one w _⟩
  case round =>
    obtain ⟨k, hk, rfl, hrow, hB⟩ := hrel
    have hz := hB.size
    have hzr := hrow.lt
    by_cases hlt : k < l.length
    · have HK : Hid (k + 1 ≤ l.length) := hlt
      obtain ⟨b, off, rfl, hbb, c0, c1, c2, c3⟩ := HX.out.below hB (Nat.le_refl _) k hlt
      obtain ⟨b2, o2, rfl, hb2, d0⟩ := HI.out.below hB (Nat.le_refl _) k (by rw [HR.out.len]; exact hlt)
      obtain ⟨b', off', e1, hbb', _⟩ := HX.out k hlt
      obtain ⟨b2', o2', e2, hb2', _⟩ := HI.out k (by rw [HR.out.len]; exact hlt)
      cases e1
      cases e2
      have hne1 : b ≠ w.heap.size := by omega
      have hne2 : b2 ≠ w.heap.size := by omega
      have hbd := HR.out.bnd k hlt
      obtain ⟨⟨p1, p2⟩, ⟨p3, p4⟩, p5, p6, p7⟩ := HAll.out k hlt
      have HN : Hid (∀ v, moreK l f v (k + 1) = moreK l f v k - ((if (at4 l k).1 = v then ati f k else 0) - (if (at4 l k).2.1 = v then ati f k else 0))) := fun v => moreK_succ hlt
      generalize (at4 l k).1 = p at *
      generalize (at4 l k).2.1 = q at *
      generalize (at4 l k).2.2.1 = lo at *
      generalize (at4 l k).2.2.2 = c at *
      generalize ati f k = y at *
      obtain ⟨p, rfl⟩ := Int.eq_ofNat_of_zero_le p1
      obtain ⟨q, rfl⟩ := Int.eq_ofNat_of_zero_le p3
      have r0 := hrow.cell (i := p) (by omega)
      have r1 := hrow.cell (i := q) (by omega)
      have f0 := hrow.frozen p
      have f1 := hrow.frozen q
      have hD0 := HD.out p k hk
      have hD1 := HD.out q k hk
      have HRow : Hid (wr.rowIs w.heap.size 3 N (fun j => .int .i64 (moreK l f (j : Int) k))) := hrow
      have HB : Hid (Below w.heap.size w wr) := hB
      have hpN : p < N := by omega
      have hqN : q < N := by omega
      obtain ⟨x, hx⟩ : ∃ x, moreK l f p k = x := ⟨_, rfl⟩
      obtain ⟨z, hzz⟩ : ∃ z, moreK l f q k = z := ⟨_, rfl⟩
      rw [hx] at r0 hD0
      rw [hzz] at r1 hD1
      have HXx : Hid (moreK l f p k = x) := hx
      have HZz : Hid (moreK l f q k = z) := hzz
      have d1 : decide (y < lo) = false := by simpa using hbd.1
      have d2 : decide (c < y) = false := by simpa using hbd.2
      have d3 : decide (y > c) = false := by simpa using hbd.2
      clear hx hzz hrow p1 p2 p3 p4 hB
      have w1 : IntKind.i64.wrap (x - y) = x - y := by rw [IntKind.wrap_i64]; omega
      have w2 : IntKind.i64.wrap (z + y) = z + y := by rw [IntKind.wrap_i64]; omega
      by_cases e : p = q
      · subst e
        have hxz : x = z := HXx.out.symm.trans HZz.out
        subst hxz
        have w3 : IntKind.i64.wrap (x - y + y) = x - y + y := by rw [IntKind.wrap_i64]; omega
        go_wp2
        go_quiet (fail)
        go_wp2
        go_region
        go_wp2
        go_region
        go_wp2
        go_roundw
        case rel =>
          refine ⟨k + 1, HK.out, by go_num, ?_, ?_⟩
          · refine World.rowIs.congr (World.rowIs.drew (World.rowIs.set (World.rowIs.set (rowN_drewN (HRow.out.alloc _) _) p _) p _)) fun j hj => ?_
            rw [HN.out]
            by_cases ej : j = p
            · subst ej
              rw [if_pos rfl, HXx.out, if_pos rfl]
              congr 1; omega
            · rw [if_neg ej, if_neg ej, if_neg (by omega)]
              congr 1; omega
          · exact Below.drew (Below.setCell (Below.setCell (below_drewN (HB.out.alloc (by omega) _) _) (by show w.heap.size ≤ w.heap.size; omega) _) (by show w.heap.size ≤ w.heap.size; omega) _)
        case measure => have := HK.out; simp [intOf]; omega
      · go_wp2
        go_quiet (fail)
        go_wp2
        go_region
        go_wp2
        go_region
        go_wp2
        go_roundw
        case rel =>
          refine ⟨k + 1, HK.out, by go_num, ?_, ?_⟩
          · refine World.rowIs.congr (World.rowIs.drew (World.rowIs.set (World.rowIs.set (rowN_drewN (HRow.out.alloc _) _) p _) q _)) fun j hj => ?_
            rw [HN.out]
            by_cases ej : j = q
            · subst ej
              rw [if_pos rfl, HZz.out, if_neg (by omega), if_pos rfl]
              congr 1; omega
            · rw [if_neg ej]
              by_cases ep : j = p
              · subst ep
                rw [if_pos rfl, HXx.out, if_pos rfl, if_neg (by omega)]
                congr 1; omega
              · rw [if_neg ep, if_neg (by omega), if_neg (by omega)]
                congr 1; omega
          · exact Below.drew (Below.setCell (Below.setCell (below_drewN (HB.out.alloc (by omega) _) _) (by show w.heap.size ≤ w.heap.size; omega) _) (by show w.heap.size ≤ w.heap.size; omega) _)
        case measure => have := HK.out; simp [intOf]; omega
    · have hkk : k = l.length := by omega
      subst hkk
      have hint : IntsAt wr (some ⟨w.heap.size, 0, none⟩) (List.replicate N 0) := fun i hi => by
        rw [List.length_replicate] at hi
        refine ⟨_, 0, rfl, hzr, ?_⟩
        rw [Nat.zero_add, hrow.cell (i := i) hi]
        have h0 := HR.out.bal i hi
        have e : moreK l f (i : Int) l.length = 0 := by
          unfold moreK
          have : gone (needA l) (ati f) i = goneK (needA l) (ati f) i l.length := by unfold gone; rw [needA_len]
          omega
        rw [e]
        simp [ati, hi]
      have hq := roundNone (some ⟨w.heap.size, 0, none⟩) N (List.replicate N 0) wr (by rw [List.length_replicate]; unfold maxLen; omega) hint (fun j hj => by simp at hj; simp [ati, hj])
      rw [List.length_replicate] at hq
      have HB : Hid (Below w.heap.size w wr) := hB
      clear hrow hB hint
      go_wp2_with fail
      refine hq.mono ?_
      clear hq
      rintro e w' ⟨rfl, hw⟩
      rw [hw]
      clear hw
      go_wp2
      go_ret
      exact ⟨rfl, HB.out⟩

set_option maxHeartbeats 4000000 in
set_option maxRecDepth 100000 in
theorem NeedSays_any (hR : NRoundC) (hFa : NFaultC) (hC : NCheckC) (n : Int) (ao : Option Addr) (cap : Nat) (l : List Need4) (w : World) (hX : NeedsIn w ao cap l) :
    Calls Try.prog 3 #[.int .i64 n, .slice ao l.length cap] w fun e w' => e = .returned (.bool true) ∧ Below w.heap.size w w' := by
  have hq := hR n ao cap l w hX
  go_enter Try.func3, Try.ntmps3
  go_wp2_with fail
  refine hq.mono ?_
  clear hq
  rintro e w2 ⟨hb2, a1, c1, F, E, rfl, hO, hT⟩
  have HX2 : Hid (NeedsIn w2 ao cap l) := hX.below hb2 (Nat.le_refl _)
  have HB2 : Hid (Below w.heap.size w w2) := hb2
  have HT : Hid (RoundTells n l F E) := hT
  have HI2 : Hid (IntsIn w2 a1 c1 F) := hO.arg
  have hq := hFa n ao cap l w2 HX2.out
  clear hb2 hO hT hX
  go_wp2_with fail
  refine hq.mono ?_
  clear hq
  rintro e w3 ⟨hb3, x, G, rfl, hT3⟩
  have HX3 : Hid (NeedsIn w3 ao cap l) := HX2.out.below hb3 (Nat.le_refl _)
  have HB3 : Hid (Below w.heap.size w w3) := HB2.out.trans (hb3.mono HB2.out.size)
  have HI3 : Hid (IntsIn w3 a1 c1 F) := HI2.out.below hb3 (Nat.le_refl _)
  have HT3 : Hid (FaultTells n l x G) := hT3
  have hq := refNeedErr_any n ao cap l w3 HX3.out
  clear hb3 hT3 HX2 HB2 HI2
  obtain ⟨W, hWE⟩ : ∃ W, needErr n l = W := ⟨_, rfl⟩
  rw [hWE] at hq
  have HW : Hid (needErr n l = W) := hWE
  go_wp2_with fail
  refine hq.mono ?_
  clear hq
  rintro e w4 ⟨rfl, hb4⟩
  have HX4 : Hid (NeedsIn w4 ao cap l) := HX3.out.below hb4 (Nat.le_refl _)
  have HB4 : Hid (Below w.heap.size w w4) := HB3.out.trans (hb4.mono HB3.out.size)
  have HI4 : Hid (IntsIn w4 a1 c1 F) := HI3.out.below hb4 (Nat.le_refl _)
  have hq := hC n ao cap l w4 HX4.out
  rw [hWE] at hq
  clear hb4 HX3 HB3 HI3 hWE
  go_wp2_with fail
  refine hq.mono ?_
  clear hq
  rintro e w5 ⟨hb5, rfl⟩
  have HX5 : Hid (NeedsIn w5 ao cap l) := HX4.out.below hb5 (Nat.le_refl _)
  have HB5 : Hid (Below w.heap.size w w5) := HB4.out.trans (hb5.mono HB4.out.size)
  have HI5 : Hid (IntsIn w5 a1 c1 F) := HI4.out.below hb5 (Nat.le_refl _)
  have gW : (W != W) = false := by simp
  have gWW : (W == W) = true := by simp
  clear hb5 HX4 HB4 HI4
  by_cases hE : W = 0
  · subst hE
    have hn : needErr n l = 0 := HW.out
    obtain ⟨⟨hn1, hn2⟩, hl30, _⟩ := need_ok hn
    obtain ⟨N, rfl⟩ := Int.eq_ofNat_of_zero_le (show 0 ≤ n by omega)
    have hes := refEased_any N ao cap l w5 hn HX5.out.needs
    have hts := tells_same hn HT.out HT3.out
    rw [Int.toNat_natCast] at hts
    have HTs : Hid ((E = 0 ∧ G = 5 ∧ x = 0 ∧ RoundIs N l F) ∨ (E = 5 ∧ G = 0 ∧ F = [] ∧ x < 2 ^ N ∧ Strains l x)) := hts
    have HNE : Hid (needErr N l = 0) := hn
    have g00 : ((0 : Int) != 0) = false := rfl
    have hN12 : N < 12 := by omega
    clear hn hts HT HT3 HW hn1 hn2
    go_wp2_with fail
    refine hes.mono ?_
    clear hes
    rintro e w6 ⟨hb6, hcase⟩
    have HX6 : Hid (NeedsIn w6 ao cap l) := HX5.out.below hb6 (Nat.le_refl _)
    have HB6 : Hid (Below w.heap.size w w6) := HB5.out.trans (hb6.mono HB5.out.size)
    have HI6 : Hid (IntsIn w6 a1 c1 F) := HI5.out.below hb6 (Nat.le_refl _)
    clear hb6 HX5 HB5 HI5
    rcases hcase with ⟨rfl, hno⟩ | ⟨rfl, y, hy, hs⟩
    · rcases HTs.out with ⟨rfl, rfl, rfl, hRd⟩ | ⟨_, _, _, hx, hs⟩
      · have hq := roundTrue_any N ao a1 cap c1 l F w6 HNE.out HX6.out.needs HI6.out.ints hRd
        have hFl := hRd.len
        rw [hFl]
        have g5 : ((5 : Int) == 5) = true := rfl
        have g0 : ((0 : Int) == 0) = true := rfl
        clear hno HTs hRd hFl
        go_wp2_with fail
        refine hq.mono ?_
        clear hq
        rintro e w7 ⟨rfl, hb7⟩
        have HB7 : Hid (Below w.heap.size w w7) := HB6.out.trans (hb7.mono HB6.out.size)
        clear hb7
        go_wp2
        go_ret
        exact ⟨rfl, HB7.out⟩
      · exact absurd hs (hno x hx)
    · rcases HTs.out with ⟨_, _, _, hRd⟩ | ⟨rfl, rfl, rfl, hx, hs2⟩
      · have := hRd.eased HNE.out y
        unfold Strains at hs; omega
      · obtain ⟨M, hM⟩ : ∃ M, 2 ^ N = M := ⟨_, rfl⟩
        have hM1 : M ≤ 4096 := by rw [← hM]; exact Nat.pow_le_pow_right (n := 2) (by omega) (show N ≤ 12 by omega)
        have hq := refStrains_any N x (by omega) ao cap l w6 HNE.out HX6.out.needs
        rw [decide_eq_true (show mayS l x < mustS l x from hs2)] at hq
        have hsh : IntKind.i64.wrap (2 ^ N) = (M : Int) := by
          rw [IntKind.wrap_i64, show ((2 : Int) ^ N) = ((2 ^ N : Nat) : Int) by simp, hM]; omega
        have hxM : x < M := by omega
        have hxi : (x : Int) < (M : Int) := by omega
        have vx : IntKind.i64.wrap (x : Int) = (x : Int) := by rw [IntKind.wrap_i64]; omega
        have g5 : ((5 : Int) == 5) = true := rfl
        have g0 : ((0 : Int) == 0) = true := rfl
        clear hy hs HTs hx hs2 hM
        simp only [List.length_nil]
        go_wp2_with fail
        refine hq.mono ?_
        clear hq
        rintro e w7 ⟨rfl, hb7⟩
        have HB7 : Hid (Below w.heap.size w w7) := HB6.out.trans (hb7.mono HB6.out.size)
        clear hb7
        go_wp2
        go_ret
        exact ⟨rfl, HB7.out⟩
  · obtain ⟨h1, h2⟩ := HT.out.1 (by rw [HW.out]; exact hE)
    obtain ⟨h3, h4⟩ := HT3.out.1 (by rw [HW.out]; exact hE)
    rw [HW.out] at h1 h3
    rw [h1, h2, h3, h4]
    have hE' : (W != 0) = true := by simpa using hE
    clear hE HT HT3 HW h1 h2 h3 h4
    simp only [List.length_nil]
    go_wp2
    go_ret
    exact ⟨rfl, HB5.out⟩

end Go.Proofs.Ytmneajmfoljflaa
