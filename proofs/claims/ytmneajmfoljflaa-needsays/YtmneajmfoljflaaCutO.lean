/- Package cut: onward, arc by arc, pass by pass. -/
import Derived.Test.YtmneajmfoljflaaCutN
import Derived.Test.YtmneajmfoljflaaJoinedA
namespace Go.Proofs.Ytmneajmfoljflaa
open Go.RowKit
set_option linter.unusedVariables false

theorem arcNodes {N : Nat} {s t : Int} {l : List Arc3} (hE : netErr N s t l = 0) {k : Nat} (hk : k < l.length) : ∃ p q : Nat, (at3 l k).1 = (p : Int) ∧ (at3 l k).2.1 = (q : Int) ∧ p < N ∧ q < N ∧ 0 ≤ (at3 l k).2.2 ∧ (at3 l k).2.2 ≤ 10000 := by
  obtain ⟨⟨p1, p2⟩, ⟨p3, p4⟩⟩ := net_nodes hE _ (at3_mem l k hk)
  obtain ⟨p, hp⟩ := Int.eq_ofNat_of_zero_le p1
  obtain ⟨q, hq⟩ := Int.eq_ofNat_of_zero_le p3
  exact ⟨p, q, hp, hq, by omega, by omega, (err_ok (net_ok hE).1).2.2 _ (at3_mem l k hk) |>.2.2⟩

set_option maxHeartbeats 8000000 in
set_option maxRecDepth 100000 in
theorem onward_any (N s t x0 : Nat) (best : Int) (ao af : Option Addr) (cap capf : Nat) (l : List Arc3) (f : List Int) (w : World) (hE : netErr N s t l = 0) (hf : FlowIs N s t l f) (hb : gone l (ati f) s = best) (hx : Win N s t l best x0) (hA : ArcsAt w ao l) (hF : IntsAt w af f) :
    Calls Try.prog 30 #[.agg #[.int .i64 (N : Int), .int .i64 (s : Int), .int .i64 (t : Int), .slice ao l.length cap], .slice af l.length capf, .int .u16 (x0 : Int)] w fun e w' => Below w.heap.size w w' ∧
      ∃ x : Nat, e = .returned (.int .u16 (x : Int)) ∧ x < 2 ^ N ∧ Hid (Win N s t l best x ∧ ∀ i, i < l.length → ShutAt l f x i) := by
  obtain ⟨hge, _, _, _⟩ := net_ok hE
  obtain ⟨⟨hn1, hn2⟩, hl60, hall⟩ := err_ok hge
  have hN12 : N ≤ 12 := by omega
  have h4 : (2 : Nat) ^ N ≤ 4096 := pow_small (show N < 13 by omega) rfl
  have HE : Hid (netErr N s t l = 0) := hE
  have Hf : Hid (FlowIs N s t l f) := hf
  have Hb : Hid (gone l (ati f) s = best) := hb
  have HX0 : Hid (Win N s t l best x0) := hx
  have HA : Hid (ArcsAt w ao l) := hA
  have HF : Hid (IntsAt w af f) := hF
  have H4 : Hid ((2 : Nat) ^ N ≤ 4096) := h4
  have X0 : Hid ((w.alloc (.cells #[.int .i64 (N : Int), .int .i64 (s : Int), .int .i64 (t : Int), .slice ao l.length cap] 43)).heap[w.heap.size]? = some (.cells #[.int .i64 (N : Int), .int .i64 (s : Int), .int .i64 (t : Int), .slice ao l.length cap] 43 (0, 0))) := blk_new w _
  clear hE hf hb hA hF hge hall hn1 hn2 hx h4
  go_enter Try.func30, Try.ntmps30
  go_wp2
  go_loopw [2] (fun x wr => ∃ y : Nat, x = .int .u16 (y : Int) ∧ Hid (Win N s t l best y) ∧ Below (w.heap.size + 1) (w.alloc (.cells #[.int .i64 (N : Int), .int .i64 (s : Int), .int .i64 (t : Int), .slice ao l.length cap] 43)) wr) (fun x _ => 4096 - (intOf x).toNat)
  case atStart => exact ⟨x0, rfl, HX0, Below.refl _ _⟩
  case round =>
    obtain ⟨x, rfl, HX, hB⟩ := hrel
    have hz := hB.size
    simp only [World.size_alloc] at hz
    obtain ⟨r0, r1, r2, r3⟩ := blk4 (blk_below hB X0.out (by omega))
    have HB : Hid (Below (w.heap.size + 1) (w.alloc (.cells #[.int .i64 (N : Int), .int .i64 (s : Int), .int .i64 (t : Int), .slice ao l.length cap] 43)) wr) := hB
    clear hB
    go_wp2
    go_loopw [2, 14] (fun u i wx => ∃ (k y : Nat), k ≤ l.length ∧ i = .int .i64 k ∧ u = .int .u16 (y : Int) ∧ Hid (PassIs N s t l f best x k y) ∧ Hid (Below (w.heap.size + 1) (w.alloc (.cells #[.int .i64 (N : Int), .int .i64 (s : Int), .int .i64 (t : Int), .slice ao l.length cap] 43)) wx)) (fun _ i _ => l.length - (intOf i).toNat)
    case atStart => exact ⟨0, x, Nat.zero_le _, rfl, rfl, PassIs.start HX.out, HB⟩
    case round =>
      obtain ⟨k, y, hk, rfl, rfl, HP, HBx⟩ := hrel
      have hzx := HBx.out.size
      simp only [World.size_alloc] at hzx
      clear r0 r1 r2 r3 HX HB
      by_cases hlt : k < l.length
      · obtain ⟨p, q, hp, hq, hpN, hqN, hc0, hc1⟩ := arcNodes HE.out hlt
        obtain ⟨bA, offA, rfl, hbA, a0, a1, a2⟩ := (HA.out.alloc (.cells #[.int .i64 (N : Int), .int .i64 (s : Int), .int .i64 (t : Int), .slice ao l.length cap] 43)).below HBx.out (by simp) k hlt
        obtain ⟨bF, offF, rfl, hbF, d0⟩ := (HF.out.alloc (.cells #[.int .i64 (N : Int), .int .i64 (s : Int), .int .i64 (t : Int), .slice (some ⟨bA, offA, none⟩) l.length cap] 43)).below HBx.out (by simp) k (by rw [Hf.out.len]; exact hlt)
        obtain ⟨P, hP⟩ : ∃ P, 2 ^ p = P := ⟨_, rfl⟩
        obtain ⟨Q, hQ⟩ : ∃ Q, 2 ^ q = Q := ⟨_, rfl⟩
        have hP4 := pow_small (show p < 13 by omega) hP
        have hQ4 := pow_small (show q < 13 by omega) hQ
        have hy4 : y < 4096 := by have := HP.out.win.lt; have := H4.out; omega
        have hyQ : y ||| Q < 65536 := Nat.or_lt_two_pow (n := 16) (by omega) (by omega)
        have hyP : y ||| P < 65536 := Nat.or_lt_two_pow (n := 16) (by omega) (by omega)
        have u1 := or_u16_nat y Q (by omega) (by omega)
        have u2 := or_u16_nat y P (by omega) (by omega)
        have u3 := or_u16_nat (y ||| Q) P (by omega) (by omega)
        have BP : Hid (∀ W, Calls Try.prog 31 #[.int .i64 (p : Int)] W fun e w' => e = .returned (.int .u16 (P : Int)) ∧ w' = W) := bit_any p P (by omega) hP
        have BQ : Hid (∀ W, Calls Try.prog 31 #[.int .i64 (q : Int)] W fun e w' => e = .returned (.int .u16 (Q : Int)) ∧ w' = W) := bit_any q Q (by omega) hQ
        have S1 : Hid (∀ W, Calls Try.prog 38 #[.int .u16 (y : Int), .int .i64 (p : Int)] W fun e w' => e = .returned (.bool (hasN y p)) ∧ w' = W) := has_any y p (by omega) (by omega)
        have S2 : Hid (∀ W, Calls Try.prog 38 #[.int .u16 (y : Int), .int .i64 (q : Int)] W fun e w' => e = .returned (.bool (hasN y q)) ∧ w' = W) := has_any y q (by omega) (by omega)
        have S3 : Hid (∀ W, Calls Try.prog 38 #[.int .u16 ((y ||| Q : Nat) : Int), .int .i64 (q : Int)] W fun e w' => e = .returned (.bool (hasN (y ||| Q) q)) ∧ w' = W) := has_any (y ||| Q) q (by omega) (by omega)
        have e5 : hasN (y ||| Q) q = true := by rw [hasN_or _ _ _ _ hQ]; simp
        have M1 : Hid ((hasN y p = true → ¬ ati f k < (at3 l k).2.2) → MidIs N s t l f best x k y p q) := HP.out.not
        have M2 : Hid (hasN y p = true → ati f k < (at3 l k).2.2 → MidIs N s t l f best x k (y ||| Q) p q) := HP.out.on HE.out Hf.out Hb.out hlt hp hq hqN hQ
        have M3 : Hid (∀ z, MidIs N s t l f best x k z p q → (hasN z q = true → ¬ 0 < ati f k) → PassIs N s t l f best x (k + 1) z) := fun z h => h.not hp hq
        have M4 : Hid (∀ z, MidIs N s t l f best x k z p q → hasN z q = true → 0 < ati f k → PassIs N s t l f best x (k + 1) (z ||| P)) := fun z h => h.back HE.out Hf.out Hb.out hlt hp hq hpN hP
        rw [e5] at S3
        rw [hp] at a0
        rw [hq] at a1
        generalize (at3 l k).2.2 = c at *
        generalize ati f k = z at *
        clear hP hQ hp hq
        cases g1 : hasN y p
        · have HM : Hid (MidIs N s t l f best x k y p q) := M1.out (fun h => by rw [g1] at h; cases h)
          rw [g1] at S1
          clear g1 S3 e5 u1 u3 hyQ
          cases g2 : hasN y q
          · have HR : Hid (PassIs N s t l f best x (k + 1) y) := M3.out y HM.out (fun h => by rw [g2] at h; cases h)
            rw [g2] at S2
            clear M1 M2 M3 M4 HM HP g2
            go_wp2
            go_quiet (first
              | (go_at_call_of 38 (Value.int .i64 (p : Int)); exact Calls.quiet_of_same (S1.out _))
              | (go_at_call_of 38 (Value.int .i64 (q : Int)); exact Calls.quiet_of_same (S2.out _)))
            go_wp2_with (first
              | (go_at_call_of 31 (Value.int .i64 (q : Int)); refine (BQ.out _).mono ?_; rintro e w' ⟨rfl, hw⟩; rw [hw]; clear hw)
              | (go_at_call_of 31 (Value.int .i64 (p : Int)); refine (BP.out _).mono ?_; rintro e w' ⟨rfl, hw⟩; rw [hw]; clear hw)
              | (go_at_call_of 38 (Value.int .i64 (q : Int)); refine (S2.out _).mono ?_; rintro e w' ⟨rfl, hw⟩; rw [hw]; clear hw))
            go_roundw
            case rel => exact ⟨k + 1, _, by omega, by go_num, rfl, HR, below_drewN (HBx.out.alloc (by omega) _) _⟩
            case measure => simp [intOf]; omega
          · rw [g2] at S2
            by_cases g3 : 0 < z
            · have HR : Hid (PassIs N s t l f best x (k + 1) (y ||| P)) := M4.out y HM.out g2 g3
              have e7 : decide (0 < z) = true := by simpa using g3
              clear M1 M2 M3 M4 HM HP g2 g3
              go_wp2
              go_quiet (first
                | (go_at_call_of 38 (Value.int .i64 (p : Int)); exact Calls.quiet_of_same (S1.out _))
                | (go_at_call_of 38 (Value.int .i64 (q : Int)); exact Calls.quiet_of_same (S2.out _)))
              go_wp2_with (first
                | (go_at_call_of 31 (Value.int .i64 (q : Int)); refine (BQ.out _).mono ?_; rintro e w' ⟨rfl, hw⟩; rw [hw]; clear hw)
                | (go_at_call_of 31 (Value.int .i64 (p : Int)); refine (BP.out _).mono ?_; rintro e w' ⟨rfl, hw⟩; rw [hw]; clear hw)
                | (go_at_call_of 38 (Value.int .i64 (q : Int)); refine (S2.out _).mono ?_; rintro e w' ⟨rfl, hw⟩; rw [hw]; clear hw))
              go_roundw
              case rel => exact ⟨k + 1, _, by omega, by go_num, rfl, HR, below_drewN (HBx.out.alloc (by omega) _) _⟩
              case measure => simp [intOf]; omega
            · have HR : Hid (PassIs N s t l f best x (k + 1) y) := M3.out y HM.out (fun _ => g3)
              have e7 : decide (0 < z) = false := by simpa using g3
              clear M1 M2 M3 M4 HM HP g2 g3
              go_wp2
              go_quiet (first
                | (go_at_call_of 38 (Value.int .i64 (p : Int)); exact Calls.quiet_of_same (S1.out _))
                | (go_at_call_of 38 (Value.int .i64 (q : Int)); exact Calls.quiet_of_same (S2.out _)))
              go_wp2_with (first
                | (go_at_call_of 31 (Value.int .i64 (q : Int)); refine (BQ.out _).mono ?_; rintro e w' ⟨rfl, hw⟩; rw [hw]; clear hw)
                | (go_at_call_of 31 (Value.int .i64 (p : Int)); refine (BP.out _).mono ?_; rintro e w' ⟨rfl, hw⟩; rw [hw]; clear hw)
                | (go_at_call_of 38 (Value.int .i64 (q : Int)); refine (S2.out _).mono ?_; rintro e w' ⟨rfl, hw⟩; rw [hw]; clear hw))
              go_roundw
              case rel => exact ⟨k + 1, _, by omega, by go_num, rfl, HR, below_drewN (HBx.out.alloc (by omega) _) _⟩
              case measure => simp [intOf]; omega
        · rw [g1] at S1
          by_cases g4 : z < c
          · have HM : Hid (MidIs N s t l f best x k (y ||| Q) p q) := M2.out g1 g4
            have e6 : decide (z < c) = true := by simpa using g4
            by_cases g3 : 0 < z
            · have HR : Hid (PassIs N s t l f best x (k + 1) (y ||| Q ||| P)) := M4.out _ HM.out e5 g3
              have e7 : decide (0 < z) = true := by simpa using g3
              clear M1 M2 M3 M4 HM HP g1 g3 g4 e5 S2 u2 hyP
              generalize y ||| Q = y2 at *
              generalize y2 ||| P = y3 at *
              go_wp2
              go_quiet (first
                | (go_at_call_of 38 (Value.int .i64 (p : Int)); exact Calls.quiet_of_same (S1.out _))
                | (go_at_call_of 38 (Value.int .i64 (q : Int)); exact Calls.quiet_of_same (S3.out _)))
              go_wp2_with (first
                | (go_at_call_of 31 (Value.int .i64 (q : Int)); refine (BQ.out _).mono ?_; rintro e w' ⟨rfl, hw⟩; rw [hw]; clear hw)
                | (go_at_call_of 31 (Value.int .i64 (p : Int)); refine (BP.out _).mono ?_; rintro e w' ⟨rfl, hw⟩; rw [hw]; clear hw)
                | (go_at_call_of 38 (Value.int .i64 (q : Int)); refine (S3.out _).mono ?_; rintro e w' ⟨rfl, hw⟩; rw [hw]; clear hw))
              go_roundw
              case rel => exact ⟨k + 1, _, by omega, by go_num, rfl, HR, below_drewN (HBx.out.alloc (by omega) _) _⟩
              case measure => simp [intOf]; omega
            · have HR : Hid (PassIs N s t l f best x (k + 1) (y ||| Q)) := M3.out _ HM.out (fun _ => g3)
              have e7 : decide (0 < z) = false := by simpa using g3
              clear M1 M2 M3 M4 HM HP g1 g3 g4 e5 S2 u2 u3 hyP
              generalize y ||| Q = y2 at *
              go_wp2
              go_quiet (first
                | (go_at_call_of 38 (Value.int .i64 (p : Int)); exact Calls.quiet_of_same (S1.out _))
                | (go_at_call_of 38 (Value.int .i64 (q : Int)); exact Calls.quiet_of_same (S3.out _)))
              go_wp2_with (first
                | (go_at_call_of 31 (Value.int .i64 (q : Int)); refine (BQ.out _).mono ?_; rintro e w' ⟨rfl, hw⟩; rw [hw]; clear hw)
                | (go_at_call_of 31 (Value.int .i64 (p : Int)); refine (BP.out _).mono ?_; rintro e w' ⟨rfl, hw⟩; rw [hw]; clear hw)
                | (go_at_call_of 38 (Value.int .i64 (q : Int)); refine (S3.out _).mono ?_; rintro e w' ⟨rfl, hw⟩; rw [hw]; clear hw))
              go_roundw
              case rel => exact ⟨k + 1, _, by omega, by go_num, rfl, HR, below_drewN (HBx.out.alloc (by omega) _) _⟩
              case measure => simp [intOf]; omega
          · have HM : Hid (MidIs N s t l f best x k y p q) := M1.out (fun _ => g4)
            have e6 : decide (z < c) = false := by simpa using g4
            clear g1 g4 S3 e5 u1 u3 hyQ
            cases g2 : hasN y q
            · have HR : Hid (PassIs N s t l f best x (k + 1) y) := M3.out y HM.out (fun h => by rw [g2] at h; cases h)
              rw [g2] at S2
              clear M1 M2 M3 M4 HM HP g2
              go_wp2
              go_quiet (first
                | (go_at_call_of 38 (Value.int .i64 (p : Int)); exact Calls.quiet_of_same (S1.out _))
                | (go_at_call_of 38 (Value.int .i64 (q : Int)); exact Calls.quiet_of_same (S2.out _)))
              go_wp2_with (first
                | (go_at_call_of 31 (Value.int .i64 (q : Int)); refine (BQ.out _).mono ?_; rintro e w' ⟨rfl, hw⟩; rw [hw]; clear hw)
                | (go_at_call_of 31 (Value.int .i64 (p : Int)); refine (BP.out _).mono ?_; rintro e w' ⟨rfl, hw⟩; rw [hw]; clear hw)
                | (go_at_call_of 38 (Value.int .i64 (q : Int)); refine (S2.out _).mono ?_; rintro e w' ⟨rfl, hw⟩; rw [hw]; clear hw))
              go_roundw
              case rel => exact ⟨k + 1, _, by omega, by go_num, rfl, HR, below_drewN (HBx.out.alloc (by omega) _) _⟩
              case measure => simp [intOf]; omega
            · rw [g2] at S2
              by_cases g3 : 0 < z
              · have HR : Hid (PassIs N s t l f best x (k + 1) (y ||| P)) := M4.out y HM.out g2 g3
                have e7 : decide (0 < z) = true := by simpa using g3
                clear M1 M2 M3 M4 HM HP g2 g3
                go_wp2
                go_quiet (first
                  | (go_at_call_of 38 (Value.int .i64 (p : Int)); exact Calls.quiet_of_same (S1.out _))
                  | (go_at_call_of 38 (Value.int .i64 (q : Int)); exact Calls.quiet_of_same (S2.out _)))
                go_wp2_with (first
                  | (go_at_call_of 31 (Value.int .i64 (q : Int)); refine (BQ.out _).mono ?_; rintro e w' ⟨rfl, hw⟩; rw [hw]; clear hw)
                  | (go_at_call_of 31 (Value.int .i64 (p : Int)); refine (BP.out _).mono ?_; rintro e w' ⟨rfl, hw⟩; rw [hw]; clear hw)
                  | (go_at_call_of 38 (Value.int .i64 (q : Int)); refine (S2.out _).mono ?_; rintro e w' ⟨rfl, hw⟩; rw [hw]; clear hw))
                go_roundw
                case rel => exact ⟨k + 1, _, by omega, by go_num, rfl, HR, below_drewN (HBx.out.alloc (by omega) _) _⟩
                case measure => simp [intOf]; omega
              · have HR : Hid (PassIs N s t l f best x (k + 1) y) := M3.out y HM.out (fun _ => g3)
                have e7 : decide (0 < z) = false := by simpa using g3
                clear M1 M2 M3 M4 HM HP g2 g3
                go_wp2
                go_quiet (first
                  | (go_at_call_of 38 (Value.int .i64 (p : Int)); exact Calls.quiet_of_same (S1.out _))
                  | (go_at_call_of 38 (Value.int .i64 (q : Int)); exact Calls.quiet_of_same (S2.out _)))
                go_wp2_with (first
                  | (go_at_call_of 31 (Value.int .i64 (q : Int)); refine (BQ.out _).mono ?_; rintro e w' ⟨rfl, hw⟩; rw [hw]; clear hw)
                  | (go_at_call_of 31 (Value.int .i64 (p : Int)); refine (BP.out _).mono ?_; rintro e w' ⟨rfl, hw⟩; rw [hw]; clear hw)
                  | (go_at_call_of 38 (Value.int .i64 (q : Int)); refine (S2.out _).mono ?_; rintro e w' ⟨rfl, hw⟩; rw [hw]; clear hw))
                go_roundw
                case rel => exact ⟨k + 1, _, by omega, by go_num, rfl, HR, below_drewN (HBx.out.alloc (by omega) _) _⟩
                case measure => simp [intOf]; omega
      · have hkk : l.length = k := by omega
        subst hkk
        have hle := HP.out.le
        have hy4 : y < 4096 := by have := HP.out.win.lt; have := H4.out; omega
        by_cases e : y = x
        · subst e
          have e1 : ((y : Int) == (y : Int)) = true := by simp
          have HR : Hid (Win N s t l best y ∧ ∀ i, i < l.length → ShutAt l f y i) := ⟨HP.out.win, HP.out.keep rfl⟩
          clear HP
          go_wp2
          go_ret
          exact ⟨below_in HBx.out (by omega), y, rfl, HR.out.1.lt, HR⟩
        · have e1 : ((y : Int) == (x : Int)) = false := by simp; omega
          have HW : Hid (Win N s t l best y) := HP.out.win
          clear HP
          go_wp2
          go_roundw
          case rel => exact ⟨y, rfl, HW, HBx.out⟩
          case measure => simp [intOf]; omega

end Go.Proofs.Ytmneajmfoljflaa
