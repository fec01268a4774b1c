/- Package level: a look. -/
import Derived.Test.YtlfhnhfhaifchaaLRound
import Derived.Test.YtlfhnhfhaifchaaAppJoin
import Derived.BigQuiet
namespace Go.Proofs.Ytlfhnhfhaifchaa
open Go.RowKit
set_option linter.unusedVariables false

set_option maxHeartbeats 4000000 in
set_option maxRecDepth 100000 in
theorem llook_any (R N s t gf cf cap : Nat) (ao : Option Addr) (l : List Arc3) (F : List Int) (E : Nat → Int) (w : World) (hE : netErr N s t l = 0) (hA : ArcsAt w ao l) (hAR : ∀ c off, ao = some ⟨c, off, none⟩ → 0 < l.length → c ≠ R) (hFl : F.length = l.length) (hF : IntsAt w (some ⟨gf, 0, none⟩) F) (hgR : gf ≠ R) (hcf : F.length ≤ cf)
    (hR : RoundAt w R N s t ao l.length cap gf F.length cf E) :
    Calls Try.prog 17 #[.pointer (some ⟨R, 0, none⟩)] w fun e w' => e = .returned (.tuple #[]) ∧ Only R w w' ∧ ∃ D, RoundAt w' R N s t ao l.length cap gf F.length cf D ∧ LookIs N s l F D := by
  obtain ⟨hge, hs, ht, hst⟩ := net_ok hE
  obtain ⟨⟨hn1, hn2⟩, hl60, hall⟩ := err_ok hge
  have hN : N ≤ 12 := by omega
  have hsN : s < N := by omega
  have hsi : (s : Int) < 12 := by omega
  have h0 := hR.lt
  have HA : Hid (ArcsAt w ao l) := hA
  have HF : Hid (IntsAt w (some ⟨gf, 0, none⟩) F) := hF
  have HE : Hid (netErr N s t l = 0) := hE
  have HR : Hid (RoundAt w R N s t ao l.length cap gf F.length cf E) := hR
  have HAR : Hid (∀ c off, ao = some ⟨c, off, none⟩ → 0 < l.length → c ≠ R) := hAR
  have HFl : Hid (F.length = l.length) := hFl
  clear hA hF hE hR hge hs ht hst hall hAR hFl
  go_enter Try.func17, Try.ntmps17
  go_wp2
  go_loopw [6] (fun i wr => ∃ (v : Nat) (E : Nat → Int), v ≤ 12 ∧ i = .int .i64 v ∧ Hid (∀ u, u < v → E u = -1) ∧ Hid (Only R w wr) ∧ Hid (RoundAt wr R N s t ao l.length cap gf F.length cf E)) (fun i _ => 12 - (intOf i).toNat)
  case atStart => exact ⟨0, E, by omega, rfl, fun u hu => absurd hu (Nat.not_lt_zero _), Only.refl R w, HR⟩
  case round =>
    obtain ⟨v, E, hv, rfl, Hv, HO, HR⟩ := hrel
    by_cases hlt : v < 12
    · have hvi : (v : Int) < 12 := by omega
      have f0 := HR.out.frozen (5 + v)
      have c0 := HR.out.far hlt
      go_wp2
      go_roundw
      case rel =>
        refine ⟨v + 1, _, by omega, by go_num, fun u hu => ?_, HO.out.setCell _, HR.out.set v (-1)⟩
        show (if u = v then (-1 : Int) else E u) = -1
        split
        · rfl
        · exact Hv.out u (by omega)
      case measure => simp [intOf]; omega
    · have hv12 : ¬ (v : Int) < 12 := by omega
      have c0 := HR.out.far (v := s) (by omega)
      have f0 := HR.out.frozen (5 + s)
      obtain ⟨r0, r1, r2, r3, r4⟩ := HR.out.cells
      go_wp2
      go_region
      go_wp2
      have HK0 : Hid (LookK N s l F 0 0 (fun u => if u = s then 0 else E u)) := LookK.start l F hsN (fun u hu => by
        show (if u = s then (0 : Int) else E u) = _
        by_cases e : u = s
        · rw [if_pos e, if_pos e]
        · rw [if_neg e, if_neg e]; exact Hv.out u (by omega)) hN
      have HR0 : Hid (RoundAt (wr.drew.setCell ⟨R, 5 + s, none⟩ (.int .i64 0)) R N s t ao l.length cap gf F.length cf (fun u => if u = s then 0 else E u)) := HR.out.drew.set s 0
      have HO0 : Hid (Only R w (wr.drew.setCell ⟨R, 5 + s, none⟩ (.int .i64 0))) := HO.out.drew.setCell _
      clear c0 f0 r0 r1 r2 r3 r4
      go_loopw [29] (fun i wx => ∃ (d : Nat) (D : Nat → Int), d ≤ N ∧ i = .int .i64 d ∧ Hid (LookK N s l F d 0 D) ∧ Hid (Only R w wx) ∧ Hid (RoundAt wx R N s t ao l.length cap gf F.length cf D)) (fun i _ => N - (intOf i).toNat)
      case atStart => exact ⟨0, _, by omega, rfl, HK0, HO0, HR0⟩
      case round =>
        clear HK0 HR0 HO0 Hv HO HR
        obtain ⟨d, D, hd, rfl, HK, HO, HR⟩ := hrel
        by_cases hdN : d < N
        · obtain ⟨r0, r1, r2, r3, r4⟩ := HR.out.cells
          go_wp2
          clear r0 r1 r2 r3 r4
          go_loopw [38] (fun i wy => ∃ (k : Nat) (D : Nat → Int), k ≤ l.length ∧ i = .int .i64 k ∧ Hid (LookK N s l F d k D) ∧ Hid (Only R w wy) ∧ Hid (RoundAt wy R N s t ao l.length cap gf F.length cf D)) (fun i _ => l.length - (intOf i).toNat)
          case atStart => exact ⟨0, D, Nat.zero_le _, rfl, HK, HO, HR⟩
          case round =>
            clear HK HO HR
            obtain ⟨k, D, hk, rfl, HK, HO, HR⟩ := hrel
            by_cases hlt : k < l.length
            · obtain ⟨bA, offA, e, hbA, a0, a1, a2⟩ := HA.out k hlt
              subst e
              have hneA := HAR.out _ _ rfl (by omega)
              replace a0 := only_cell HO.out a0 hneA
              replace a1 := only_cell HO.out a1 hneA
              replace a2 := only_cell HO.out a2 hneA
              obtain ⟨bF, offF, e, hbF, d0⟩ := HF.out k (by rw [HFl.out]; exact hlt)
              cases e
              replace d0 := only_cell HO.out d0 hgR
              rw [Nat.zero_add] at d0
              obtain ⟨p1, p2, p3, p4, p5, p6⟩ := arc_at HE.out hlt
              obtain ⟨p, hp⟩ : ∃ p, frmN l k false = p := ⟨_, rfl⟩
              obtain ⟨q, hq⟩ : ∃ q, towN l k false = q := ⟨_, rfl⟩
              obtain ⟨c, hc⟩ : ∃ c, (at3 l k).2.2 = c := ⟨_, rfl⟩
              obtain ⟨y, hy⟩ : ∃ y, ati F k = y := ⟨_, rfl⟩
              rw [p1, hp] at a0
              rw [p2, hq] at a1
              rw [hc] at a2 p5 p6
              rw [hy] at d0
              rw [hp] at p3
              rw [hq] at p4
              have q1 : 0 < room l F k false ↔ y < c := by unfold room; simp [hc, hy]
              have q2 : 0 < room l F k true ↔ 0 < y := by unfold room; simp [hy]
              have hn := fun D1 D2 => HK.out.next (D1 := D1) (D2 := D2) HE.out hN hlt
              rw [show frmN l k true = towN l k false from rfl, show towN l k true = frmN l k false from rfl, hp, hq] at hn
              simp only [q1, q2] at hn
              have HN : Hid (∀ D1 D2 : Nat → Int, D1 = (if y < c then comeD D p q d else D) → D2 = (if 0 < y then comeD D1 q p d else D1) → LookK N s l F d (k + 1) D2) := hn
              obtain ⟨r0, r1, r2, r3, r4⟩ := HR.out.cells
              have HY : Hid (ati F k = y) := hy
              clear hn q1 q2 p1 p2 hp hq hc hy
              have HD0 : Hid (∀ x : World, Only R w x → x.cell? ⟨gf, k, none⟩ = some (.int .i64 y)) := fun x hx => only_cell hx (by have := HF.out k (by rw [HFl.out]; exact hlt); obtain ⟨_, _, e, _, q0⟩ := this; cases e; rw [Nat.zero_add] at q0; rw [← HY.out]; exact q0) hgR
              have hwR : wr.heap.size ≠ R := by have := HR.out.lt; omega
              have hkf : k < F.length := by rw [HFl.out]; exact hlt
              have hp12 : p < 12 := by omega
              have hq12 : q < 12 := by omega
              have hd12 : (0 : Int) ≤ (d : Int) ∧ (d : Int) ≤ 12 := by omega
              go_wp2
              have hA9 := blk_new wr (.cells #[.int .i64 (p : Int), .int .i64 (q : Int), .int .i64 c] 39)
              have HO9 : Hid (Only R w (wr.alloc (.cells #[.int .i64 (p : Int), .int .i64 (q : Int), .int .i64 c] 39))) := HO.out.alloc _
              have HR9 : Hid (RoundAt (wr.alloc (.cells #[.int .i64 (p : Int), .int .i64 (q : Int), .int .i64 c] 39)) R N s t (some ⟨bA, offA, none⟩) l.length cap gf F.length cf D) := HR.out.alloc _
              clear r0 r1 r2 r3 r4 a0 a1 a2 d0
              obtain ⟨A, hAe⟩ : ∃ A, wr.heap.size = A := ⟨_, rfl⟩
              rw [hAe] at hA9 hwR
              simp only [hAe]
              generalize wr.alloc (.cells #[.int .i64 (p : Int), .int .i64 (q : Int), .int .i64 c] 39) = W9 at *
              clear hAe HO HR
              obtain ⟨b0, b1, b2⟩ := blk3 hA9
              have d0 := HD0.out W9 HO9.out
              obtain ⟨r0, r1, r2, r3, r4⟩ := HR9.out.cells
              have HA9 : Hid (W9.heap[A]? = some (.cells #[.int .i64 (p : Int), .int .i64 (q : Int), .int .i64 c] 39 (0, 0))) := hA9
              clear hA9
              by_cases c1 : y < c
              · have c1' : decide (y < c) = true := decide_eq_true c1
                have HD1 : Hid (comeD D p q d = if y < c then comeD D p q d else D) := (if_pos c1).symm
                clear c1
                go_quiet (fail)
                go_wp2_with fail
                refine (lcome_any R p q d N s t _ _ _ _ _ _ D _ hp12 hq12 hd12 (HR9.out.drewN _)).mono ?_
                rintro e w3 ⟨rfl, ho3, hr3⟩
                have HO3 : Hid (Only R w w3) := only_trans (only_drewN HO9.out _) ho3
                have HA3 : Hid (w3.heap[A]? = some (.cells #[.int .i64 (p : Int), .int .i64 (q : Int), .int .i64 c] 39 (0, 0))) := ho3.blk HA9.out hwR
                have HR3 : Hid (RoundAt w3 R N s t (some ⟨bA, offA, none⟩) l.length cap gf F.length cf (comeD D p q d)) := hr3
                clear ho3 hr3 b0 b1 b2 d0 r0 r1 r2 r3 r4
                obtain ⟨b0, b1, b2⟩ := blk3 HA3.out
                have d0 := HD0.out w3 HO3.out
                obtain ⟨r0, r1, r2, r3, r4⟩ := HR3.out.cells
                by_cases c2 : 0 < y
                · have c2' : decide (0 < y) = true := decide_eq_true c2
                  have HK3 : Hid (LookK N s l F d (k + 1) (comeD (comeD D p q d) q p d)) := HN.out (comeD D p q d) _ HD1.out (by rw [if_pos c2])
                  clear c2
                  go_wp2_with fail
                  refine (lcome_any R q p d N s t _ _ _ _ _ _ (comeD D p q d) _ hq12 hp12 hd12 HR3.out).mono ?_
                  rintro e w4 ⟨rfl, ho4, hr4⟩
                  have HO4 : Hid (Only R w w4) := only_trans HO3.out ho4
                  have HR4 : Hid (RoundAt w4 R N s t (some ⟨bA, offA, none⟩) l.length cap gf F.length cf (comeD (comeD D p q d) q p d)) := hr4
                  clear ho4 hr4 b0 b1 b2 d0 r0 r1 r2 r3 r4
                  go_wp2
                  go_roundw
                  case rel => exact ⟨k + 1, _, by omega, by go_num, HK3, HO4, HR4⟩
                  case measure => simp [intOf]; omega
                · have c2' : decide (0 < y) = false := decide_eq_false c2
                  have HK3 : Hid (LookK N s l F d (k + 1) (comeD D p q d)) := HN.out (comeD D p q d) _ HD1.out (by rw [if_neg c2])
                  clear c2
                  go_wp2
                  go_roundw
                  case rel => exact ⟨k + 1, _, by omega, by go_num, HK3, HO3.out, HR3.out⟩
                  case measure => simp [intOf]; omega
              · have c1' : decide (y < c) = false := decide_eq_false c1
                have HD1 : Hid (D = if y < c then comeD D p q d else D) := (if_neg c1).symm
                clear c1
                go_quiet (fail)
                by_cases c2 : 0 < y
                · have c2' : decide (0 < y) = true := decide_eq_true c2
                  have HK3 : Hid (LookK N s l F d (k + 1) (comeD D q p d)) := HN.out D _ HD1.out (by rw [if_pos c2])
                  clear c2
                  go_wp2_with fail
                  refine (lcome_any R q p d N s t _ _ _ _ _ _ D _ hq12 hp12 hd12 (HR9.out.drewN _)).mono ?_
                  rintro e w4 ⟨rfl, ho4, hr4⟩
                  have HO4 : Hid (Only R w w4) := only_trans (only_drewN HO9.out _) ho4
                  have HR4 : Hid (RoundAt w4 R N s t (some ⟨bA, offA, none⟩) l.length cap gf F.length cf (comeD D q p d)) := hr4
                  clear ho4 hr4 b0 b1 b2 d0 r0 r1 r2 r3 r4
                  go_wp2
                  go_roundw
                  case rel => exact ⟨k + 1, _, by omega, by go_num, HK3, HO4, HR4⟩
                  case measure => simp [intOf]; omega
                · have c2' : decide (0 < y) = false := decide_eq_false c2
                  have HK3 : Hid (LookK N s l F d (k + 1) D) := HN.out D _ HD1.out (by rw [if_neg c2])
                  clear c2
                  go_wp2
                  go_roundw
                  case rel => exact ⟨k + 1, _, by omega, by go_num, HK3, (only_drewN HO9.out _), (HR9.out.drewN _)⟩
                  case measure => simp [intOf]; omega
            · obtain rfl : k = l.length := by omega
              have HK3 : Hid (LookK N s l F (d + 1) 0 D) := HK.out.pass
              go_wp2
              go_roundw
              case rel => exact ⟨d + 1, _, by omega, by go_num, HK3, HO, HR⟩
              case measure => simp [intOf]; omega
        · obtain rfl : d = N := by omega
          have HLk : Hid (LookIs d s l F D) := HK.out.done HE.out hN hsN
          go_wp2
          go_end0
          exact ⟨rfl, HO.out, D, HR.out, HLk.out⟩

end Go.Proofs.Ytlfhnhfhaifchaa
