/- The law PushRight, walked out of contracts of package push. -/
import Derived.Test.YtgmifepfbcgfbaaPuRun
import Derived.Test.YtgmifepfbcgfbaaBitN
namespace Go.Proofs.Ytgmifepfbcgfbaa
open Go.RowKit
set_option linter.unusedVariables false

/-- a set of nodes that are all on this side -/
def OnSide (N : Nat) (P : Nat → Bool) (x : Nat) : Prop := x < 2 ^ N ∧ ∀ v, hasN x v = true → P v = true
theorem OnSide.or {N : Nat} {P : Nat → Bool} {x v m : Nat} (h : OnSide N P x) (hv : v < N) (hm : 2 ^ v = m) (hP : P v = true) : OnSide N P (x ||| m) := by
  refine ⟨Nat.or_lt_two_pow h.1 (by rw [← hm]; exact Nat.pow_lt_pow_right (by omega) hv), fun u hu => ?_⟩
  rw [hasN_or _ _ _ _ hm, Bool.or_eq_true] at hu
  rcases hu with hu | hu
  · exact h.2 u hu
  · have : v = u := by simpa using hu
    rw [← this]; exact hP
theorem OnSide.one {N : Nat} {P : Nat → Bool} {v m : Nat} (hv : v < N) (hm : 2 ^ v = m) (hP : P v = true) : OnSide N P m := by
  have h0 : OnSide N P 0 := ⟨Nat.two_pow_pos N, fun u hu => by unfold hasN at hu; simp at hu⟩
  have := h0.or hv hm hP
  rwa [Nat.zero_or] at this

set_option maxHeartbeats 8000000 in
set_option maxRecDepth 100000 in
theorem PushRight_any (hP : PNewC) (hS : PSendC) (hL : PLiftC) (hC : PCheckC) (n s t : Int) (ao ax : Option Addr) (cap cs : Nat) (l : List Arc3) (xs : List Int) (w : World) (hG : GraphIn w ao cap l) (hI : IntsIn w ax cs xs) :
    Calls Try.prog 3 #[.agg #[.int .i64 n, .int .i64 s, .int .i64 t, .slice ao l.length cap], .slice ax xs.length cs] w fun e w' => e = .returned (.bool true) ∧ Below w.heap.size w w' := by
  have hG0 := hG.alloc (.cells #[.int .i64 n, .int .i64 s, .int .i64 t, .slice ao l.length cap] 24)
  have x0 := blk_new w (.cells #[.int .i64 n, .int .i64 s, .int .i64 t, .slice ao l.length cap] 24)
  have hI0 := hI.alloc (.cells #[.int .i64 n, .int .i64 s, .int .i64 t, .slice ao l.length cap] 24)
  clear hG hI
  go_enter Try.func3, Try.ntmps3
  go_wp2_with fail
  refine (pushes_any hP _).mono ?_
  rintro e w1 ⟨rfl, hb1⟩
  simp only [World.size_alloc] at hb1
  have hz1 := hb1.size
  simp only [World.size_alloc] at hz1
  have x1 := blk_below hb1 x0 (by omega)
  have hG1 := hG0.below hb1 (by simp)
  have hI1 := hI0.below hb1 (by simp)
  have HB1 : Hid (Below w.heap.size w w1) := below_in hb1 (by omega)
  have HG1 : Hid (GraphIn w1 ao cap l) := hG1
  obtain ⟨r0, r1, r2, r3⟩ := blk4 x1
  have hq := pushed_any hP hS hL n s t ao ax cap cs l xs w1 hG1 hI1
  clear hb1 x0 hG0 hI0 hG1 hI1
  go_wp2_with fail
  refine hq.mono ?_
  clear hq
  rintro e w2 ⟨hb2, n', s', t', a1, c1, L, a2, c2, F, a3, c3, H, d, ok, rfl, hIn, hWi, hFr, hno, hyes⟩
  have hz2 := hb2.size
  have x2 := blk_below hb2 x1 (by omega)
  have HB2 : Hid (Below w.heap.size w w2) := HB1.out.trans (hb2.mono (by omega))
  have HG2 : Hid (GraphIn w2 ao cap l) := HG1.out.below hb2 (Nat.le_refl _)
  clear hb2 x1 HB1 HG1 r0 r1 r2 r3
  by_cases hE : netErr n s t l = 0
  · obtain ⟨rfl, rfl, rfl, rfl, rfl, hRun⟩ := hyes hE
    have hge := net_ok hE
    obtain ⟨⟨hn1, hn2⟩, hl60, _⟩ := err_ok hge.1
    obtain ⟨N, rfl⟩ := Int.eq_ofNat_of_zero_le (show 0 ≤ n' by omega)
    obtain ⟨sN, rfl⟩ := Int.eq_ofNat_of_zero_le hge.2.1.1
    obtain ⟨tN, rfl⟩ := Int.eq_ofNat_of_zero_le hge.2.2.1.1
    simp only [Int.toNat_natCast] at hRun
    have hre := run_reach (xs.map (stepN N L)) (newF sN L) (newH N sN) (reach_new hE)
    rw [← hRun] at hre
    have hok : PushOk N sN tN L F H := hre.1.ok
    have hfl := hok.flen
    have hhl := hok.hlen
    obtain ⟨P, p1, p2, p3⟩ := no_way hok
    obtain ⟨s1, s2, _, _, s3, _⟩ := hok.st
    have h4 : (2 : Nat) ^ N ≤ 4096 := pow_small (show N < 13 by omega) rfl
    have H4 : Hid ((2 : Nat) ^ N ≤ 4096) := h4
    have HE : Hid (netErr (N : Int) sN tN L = 0) := hE
    have HOk : Hid (PushOk N sN tN L F H) := hok
    have HP1 : Hid (P sN = true) := p1
    have HP2 : Hid (P tN = false) := p2
    have HP3 : Hid (∀ (k : Nat) (b : Bool), k < L.length → 0 < room L F k b → P (frmN L k b) = true → P (towN L k b) = true) := p3
    have hcall : Hid (∀ W : World, PushIn W a1 c1 L a2 c2 F a3 c3 H → Calls Try.prog 9 #[.agg #[.int .i64 (N : Int), .int .i64 (sN : Int), .int .i64 (tN : Int), .slice a1 L.length c1, .slice a2 L.length c2, .slice a3 N c3]] W fun e w' => Below W.heap.size W w' ∧ e = .returned (.int .i64 0)) := fun W hW => by
      have h := hC N sN tN a1 a2 a3 c1 c2 c3 L F H W HOk.out hW
      rw [hfl, hhl] at h
      exact h
    have HIn : Hid (PushIn w2 a1 c1 L a2 c2 F a3 c3 H) := hIn
    rw [hfl, hhl]
    obtain ⟨r0, r1, r2, r3⟩ := blk4 x2
    have hwz : w.heap.size < w2.heap.size := by omega
    clear hE hno hyes hge hRun hre hok hfl hhl p1 p2 p3 hIn hn1 hn2 h4
    have g0 : ((0 : Int) != 0) = false := rfl
    go_wp2_with fail
    refine (hcall.out _ (HIn.out.alloc _)).mono ?_
    rintro e w3 ⟨hb3, rfl⟩
    simp only [World.size_alloc] at hb3
    have hz3 := hb3.size
    simp only [World.size_alloc] at hz3
    have X3 : Hid (w3.heap[w.heap.size]? = some (.cells #[.int .i64 (N : Int), .int .i64 (sN : Int), .int .i64 (tN : Int), .slice ao L.length cap] 24 (0, 0))) := blk_below hb3 (blk_old x2 _) (by omega)
    have P3 : Hid (w3.heap[w2.heap.size]? = some (.cells #[.int .i64 (N : Int), .int .i64 (sN : Int), .int .i64 (tN : Int), .slice a1 L.length c1, .slice a2 L.length c2, .slice a3 N c3] 28 (0, 0))) := blk_below hb3 (blk_new w2 _) (by omega)
    have HB3 : Hid (Below w.heap.size w w3) := (HB2.out.alloc (by omega) _).trans (hb3.mono (by omega))
    have HA3 : Hid (ArcsAt w3 ao L) := (HG2.out.alloc _).arcs.below hb3 (by simp)
    have HF3 : Hid (IntsAt w3 a2 F) := (HIn.out.alloc _).flow.ints.below hb3 (by simp)
    obtain ⟨S0, hS0⟩ : ∃ S0, 2 ^ sN = S0 := ⟨_, rfl⟩
    have hsh := shl_u16 (show sN < 13 by omega) hS0
    have HS0 : Hid (OnSide N P S0) := OnSide.one s1 hS0 HP1.out
    have hwz3 : w.heap.size < w3.heap.size := by omega
    have hpz3 : w2.heap.size < w3.heap.size := by omega
    clear hb3 x2 HB2 HG2 HIn hcall hS0 r0 r1 r2 r3
    obtain ⟨r0, r1, r2, r3⟩ := blk4 X3.out
    obtain ⟨⟨q0, q1, q2, q3, q4, q5⟩, _⟩ := blk6 P3.out
    go_wp2
    go_loopw [8, 39] (fun u i wr => ∃ (j x : Nat), j ≤ N ∧ i = .int .i64 j ∧ u = .int .u16 (x : Int) ∧ Hid (OnSide N P x) ∧ Hid (Below w3.heap.size w3 wr)) (fun _ i _ => N - (intOf i).toNat)
    case atStart => exact ⟨0, S0, Nat.zero_le _, rfl, rfl, HS0, Below.refl _ _⟩
    case round =>
      obtain ⟨j, x, hj, rfl, rfl, HX, HB⟩ := hrel
      have hzr := HB.out.size
      clear r0 r1 r2 r3 q0 q1 q2 q3 q4 q5
      obtain ⟨r0, r1, r2, r3⟩ := blk4 (blk_below HB.out X3.out (by omega))
      by_cases hlt : j < N
      · have HJ : Hid (j < N) := hlt
        go_wp2
        go_loopw [8, 44] (fun u i wx => ∃ (k y : Nat), k ≤ L.length ∧ i = .int .i64 k ∧ u = .int .u16 (y : Int) ∧ Hid (OnSide N P y) ∧ Hid (Below w3.heap.size w3 wx)) (fun _ i _ => L.length - (intOf i).toNat)
        case atStart => exact ⟨0, x, Nat.zero_le _, rfl, rfl, HX, HB⟩
        case round =>
          obtain ⟨k, y, hk, rfl, rfl, HY, HBx⟩ := hrel
          have hzx := HBx.out.size
          clear r0 r1 r2 r3 HX HB
          by_cases hlt2 : k < L.length
          · have HK : Hid (k < L.length) := hlt2
            obtain ⟨e1, e2, hpN, hqN, hc0, hc1⟩ := arc_at HE.out hlt2
            obtain ⟨p, hp⟩ : ∃ p, frmN L k false = p := ⟨_, rfl⟩
            obtain ⟨q, hq⟩ : ∃ q, towN L k false = q := ⟨_, rfl⟩
            rw [hp] at e1 hpN
            rw [hq] at e2 hqN
            obtain ⟨bA, offA, rfl, hbA, b0, b1, b2⟩ := HA3.out.below HBx.out (Nat.le_refl _) k hlt2
            obtain ⟨bF, offF, rfl, hbF, d0⟩ := HF3.out.below HBx.out (Nat.le_refl _) k (by rw [HOk.out.flen]; exact hlt2)
            have hcells := (blk6 (blk_below HBx.out P3.out hpz3)).1
            obtain ⟨q0, q1, q2, q3, q4, q5⟩ := hcells
            have hpx : w2.heap.size < wr.heap.size := by omega
            obtain ⟨PB, hPB⟩ : ∃ PB, 2 ^ p = PB := ⟨_, rfl⟩
            obtain ⟨QB, hQB⟩ : ∃ QB, 2 ^ q = QB := ⟨_, rfl⟩
            have hP4 := pow_small (show p < 13 by omega) hPB
            have hQ4 := pow_small (show q < 13 by omega) hQB
            have hs1 := shl_u16 (show p < 13 by omega) hPB
            have hs2 := shl_u16 (show q < 13 by omega) hQB
            have hy4 : y < 4096 := by have := HY.out.1; have := H4.out; omega
            have hyQ : y ||| QB < 65536 := Nat.or_lt_two_pow (n := 16) (by omega) (by omega)
            have u1 := or_u16_nat y QB (by omega) (by omega)
            have u2 := or_u16_nat y PB (by omega) (by omega)
            have u3 := or_u16_nat (y ||| QB) PB (by omega) (by omega)
            have b3 := bit_is (x := y) (by omega) p
            have b4 := bit_is (x := y) (by omega) q
            have b5 := bit_is (x := y ||| QB) (by omega) q
            have e5 : hasN (y ||| QB) q = true := by rw [hasN_or _ _ _ _ hQB]; simp
            have M1 : Hid (∀ z, OnSide N P z → hasN z p = true → ati F k < (at3 L k).2.2 → OnSide N P (z ||| QB)) := fun z hz h1 h2 => hz.or hqN hQB (by
              have := HP3.out k false HK.out (by unfold room; simp; omega)
              rw [hp, hq] at this
              exact this (hz.2 p h1))
            have M2 : Hid (∀ z, OnSide N P z → hasN z q = true → 0 < ati F k → OnSide N P (z ||| PB)) := fun z hz h1 h2 => hz.or hpN hPB (by
              have := HP3.out k true HK.out (by unfold room; simpa using h2)
              rw [show frmN L k true = towN L k false from rfl, show towN L k true = frmN L k false from rfl, hp, hq] at this
              exact this (hz.2 q h1))
            rw [e5] at b5
            simp only [if_true] at b5
            rw [e1] at b0
            rw [e2] at b1
            generalize (at3 L k).2.2 = c at *
            generalize ati F k = z at *
            clear hPB hQB e1 e2 hp hq
            cases g1 : hasN y p
            · rw [g1] at b3
              simp only [Bool.false_eq_true, if_false] at b3
              clear g1 b5 e5 u1 u3 hyQ
              cases g2 : hasN y q
              · have HR : Hid (OnSide N P y) := HY
                rw [g2] at b4
                simp only [Bool.false_eq_true, if_false] at b4
                clear M1 M2 HY g2
                go_wp2
                go_quiet (fail)
                go_wp2
                go_roundw
                case rel => exact ⟨k + 1, _, HK.out, by go_num, rfl, HR, below_drewN (HBx.out.alloc (by omega) _) _⟩
                case measure => have := HK.out; simp [intOf]; omega
              · rw [g2] at b4
                simp only [if_true] at b4
                by_cases g3 : 0 < z
                · have HR : Hid (OnSide N P (y ||| PB)) := M2.out y HY.out g2 g3
                  have e7 : decide (0 < z) = true := by simpa using g3
                  clear M1 M2 HY g2 g3
                  go_wp2
                  go_quiet (fail)
                  go_wp2
                  go_roundw
                  case rel => exact ⟨k + 1, _, HK.out, by go_num, rfl, HR, below_drewN (HBx.out.alloc (by omega) _) _⟩
                  case measure => have := HK.out; simp [intOf]; omega
                · have HR : Hid (OnSide N P y) := HY
                  have e7 : decide (0 < z) = false := by simpa using g3
                  clear M1 M2 HY g2 g3
                  go_wp2
                  go_quiet (fail)
                  go_wp2
                  go_roundw
                  case rel => exact ⟨k + 1, _, HK.out, by go_num, rfl, HR, below_drewN (HBx.out.alloc (by omega) _) _⟩
                  case measure => have := HK.out; simp [intOf]; omega
            · rw [g1] at b3
              simp only [if_true] at b3
              by_cases g4 : z < c
              · have HM : Hid (OnSide N P (y ||| QB)) := M1.out y HY.out g1 g4
                have e6 : decide (z < c) = true := by simpa using g4
                by_cases g3 : 0 < z
                · have HR : Hid (OnSide N P (y ||| QB ||| PB)) := M2.out _ HM.out e5 g3
                  have e7 : decide (0 < z) = true := by simpa using g3
                  clear M1 M2 HM HY g1 g3 g4 e5 b4 u2
                  generalize y ||| QB = y2 at *
                  generalize y2 ||| PB = y3 at *
                  go_wp2
                  go_quiet (fail)
                  go_wp2
                  go_roundw
                  case rel => exact ⟨k + 1, _, HK.out, by go_num, rfl, HR, below_drewN (HBx.out.alloc (by omega) _) _⟩
                  case measure => have := HK.out; simp [intOf]; omega
                · have HR : Hid (OnSide N P (y ||| QB)) := HM
                  have e7 : decide (0 < z) = false := by simpa using g3
                  clear M1 M2 HM HY g1 g3 g4 e5 b4 u2 u3
                  generalize y ||| QB = y2 at *
                  go_wp2
                  go_quiet (fail)
                  go_wp2
                  go_roundw
                  case rel => exact ⟨k + 1, _, HK.out, by go_num, rfl, HR, below_drewN (HBx.out.alloc (by omega) _) _⟩
                  case measure => have := HK.out; simp [intOf]; omega
              · have e6 : decide (z < c) = false := by simpa using g4
                clear g1 g4 b5 e5 u1 u3 hyQ
                cases g2 : hasN y q
                · have HR : Hid (OnSide N P y) := HY
                  rw [g2] at b4
                  simp only [Bool.false_eq_true, if_false] at b4
                  clear M1 M2 HY g2
                  go_wp2
                  go_quiet (fail)
                  go_wp2
                  go_roundw
                  case rel => exact ⟨k + 1, _, HK.out, by go_num, rfl, HR, below_drewN (HBx.out.alloc (by omega) _) _⟩
                  case measure => have := HK.out; simp [intOf]; omega
                · rw [g2] at b4
                  simp only [if_true] at b4
                  by_cases g3 : 0 < z
                  · have HR : Hid (OnSide N P (y ||| PB)) := M2.out y HY.out g2 g3
                    have e7 : decide (0 < z) = true := by simpa using g3
                    clear M1 M2 HY g2 g3
                    go_wp2
                    go_quiet (fail)
                    go_wp2
                    go_roundw
                    case rel => exact ⟨k + 1, _, HK.out, by go_num, rfl, HR, below_drewN (HBx.out.alloc (by omega) _) _⟩
                    case measure => have := HK.out; simp [intOf]; omega
                  · have HR : Hid (OnSide N P y) := HY
                    have e7 : decide (0 < z) = false := by simpa using g3
                    clear M1 M2 HY g2 g3
                    go_wp2
                    go_quiet (fail)
                    go_wp2
                    go_roundw
                    case rel => exact ⟨k + 1, _, HK.out, by go_num, rfl, HR, below_drewN (HBx.out.alloc (by omega) _) _⟩
                    case measure => have := HK.out; simp [intOf]; omega
          · have hkk : L.length = k := by omega
            subst hkk
            go_wp2
            go_roundw
            case rel => exact ⟨j + 1, y, HJ.out, by go_num, rfl, HY, HBx⟩
            case measure => have := HJ.out; simp [intOf]; omega
      · have hxt : hasN x tN = false := by
          cases e : hasN x tN
          · rfl
          · have := HX.out.2 tN e
            rw [HP2.out] at this; cases this
        have hx4 : x < 4096 := by have := HX.out.1; have := H4.out; omega
        have b3 := bit_is (x := x) (by omega) tN
        rw [hxt] at b3
        simp only [Bool.false_eq_true, if_false] at b3
        have g1 : ((0 : Int) == 0) = true := rfl
        clear hxt
        go_wp2
        go_ret
        exact ⟨rfl, HB3.out.trans (HB.out.mono (by omega))⟩
  · obtain rfl := hno hE
    clear hE hyes hno hIn hWi hFr
    obtain ⟨r0, r1, r2, r3⟩ := blk4 x2
    go_wp2
    go_ret
    exact ⟨rfl, HB2.out.alloc HB2.out.size _⟩

end Go.Proofs.Ytgmifepfbcgfbaa
