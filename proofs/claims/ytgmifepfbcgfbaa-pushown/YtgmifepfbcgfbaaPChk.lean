/- Package push: Check of what is right. -/
import Derived.Test.YtgmifepfbcgfbaaPStep
namespace Go.Proofs.Ytgmifepfbcgfbaa
open Go.RowKit
set_option linter.unusedVariables false

set_option maxHeartbeats 4000000 in
theorem checkFlow_ok {N s t : Nat} {l : List Arc3} {f h : List Int} (ao af ah : Option Addr) (cap cf ch : Nat) (w : World) (H : PushOk N s t l f h) (hP : PushIn w ao cap l af cf f ah ch h) :
    Calls Try.prog 25 #[.agg #[.int .i64 (N : Int), .int .i64 (s : Int), .int .i64 (t : Int), .slice ao l.length cap, .slice af l.length cf, .slice ah N ch]] w fun e w' => Below w.heap.size w w' ∧ e = .returned (.int .i64 0) := by
  have x0 := blk_new w (.cells #[.int .i64 (N : Int), .int .i64 (s : Int), .int .i64 (t : Int), .slice ao l.length cap, .slice af l.length cf, .slice ah N ch] 28)
  have HX0 : Hid ((w.alloc (.cells #[.int .i64 (N : Int), .int .i64 (s : Int), .int .i64 (t : Int), .slice ao l.length cap, .slice af l.length cf, .slice ah N ch] 28)).heap[w.heap.size]? = some (.cells #[.int .i64 (N : Int), .int .i64 (s : Int), .int .i64 (t : Int), .slice ao l.length cap, .slice af l.length cf, .slice ah N ch] 28 (0, 0))) := x0
  have HP0 : Hid (PushIn (w.alloc (.cells #[.int .i64 (N : Int), .int .i64 (s : Int), .int .i64 (t : Int), .slice ao l.length cap, .slice af l.length cf, .slice ah N ch] 28)) ao cap l af cf f ah ch h) := hP.alloc _
  have HOk : Hid (PushOk N s t l f h) := H
  have hl60 := H.st.2.2.2.2.2
  have hN := H.st.2.2.2.2.1
  have hs := H.st.1
  clear hP H x0
  go_enter Try.func25, Try.ntmps25
  go_wp2
  go_loopw [11] (fun i wr => ∃ k : Nat, k ≤ l.length ∧ i = .int .i64 k ∧ Below (w.heap.size + 1) (w.alloc (.cells #[.int .i64 (N : Int), .int .i64 (s : Int), .int .i64 (t : Int), .slice ao l.length cap, .slice af l.length cf, .slice ah N ch] 28)) wr) (fun i _ => l.length - (intOf i).toNat)
  case atStart => exact ⟨0, Nat.zero_le _, rfl, Below.refl _ _⟩
  case round =>
    obtain ⟨k, hk, rfl, hB⟩ := hrel
    have hz := hB.size
    simp only [World.size_alloc] at hz
    have x1 := blk_below hB HX0.out (Nat.lt_succ_self _)
    obtain ⟨⟨m0, m1, m2, m3, m4, m5⟩, _⟩ := blk6 x1
    have hw0 : w.heap.size < wr.heap.size := by omega
    by_cases hlt : k < l.length
    · obtain ⟨b, off, rfl, hbb, c0, c1, c2⟩ := HP0.out.arcs.arcs.below hB (by simp) k hlt
      obtain ⟨b2, o2, rfl, hb2, d0⟩ := HP0.out.flow.ints.below hB (by simp) k (by rw [HOk.out.flen]; exact hlt)
      have hbd := HOk.out.bnd k hlt
      generalize (at3 l k).1 = p at *
      generalize (at3 l k).2.1 = q at *
      generalize (at3 l k).2.2 = c at *
      generalize ati f k = y at *
      have e1 : decide (y < 0) = false := decide_eq_false (by omega)
      have e2 : decide (c < y) = false := decide_eq_false (by omega)
      have HB : Hid (Below (w.heap.size + 1) _ wr) := hB
      clear x1 hB hbd
      go_wp2
      go_quiet (fail)
      go_wp2
      go_roundw
      case rel => exact ⟨k + 1, by omega, by go_num, below_drewN (HB.out.alloc (by omega) _) _⟩
      case measure => simp [intOf]; omega
    · have hkk : k = l.length := by omega
      subst hkk
      have hwt := waitsP_any ao af ah cap cf ch wr HOk.out (HP0.out.below hB (by simp))
      have HB : Hid (Below (w.heap.size + 1) _ wr) := hB
      have HX1 : Hid (wr.heap[w.heap.size]? = some (.cells #[.int .i64 (N : Int), .int .i64 (s : Int), .int .i64 (t : Int), .slice ao l.length cap, .slice af l.length cf, .slice ah N ch] 28 (0, 0))) := x1
      have HW : Hid (∀ v : Nat, v < N → v ≠ s → gone l (ati f) v ≤ 0) := HOk.out.wait
      clear x1 hB HX0 HP0 HOk
      go_wp2_with fail
      refine hwt.mono ?_
      clear hwt
      rintro e V ⟨hb4, gb, hgb, rfl, hrow⟩
      have x3 := blk_below hb4 HX1.out hw0
      have HB2 : Hid (Below w.heap.size w V) := (below_in HB.out (by omega)).trans (hb4.mono (by omega))
      have HR : Hid (V.rowIs gb 3 N (fun j => .int .i64 (-gone l (ati f) (j : Int)))) := hrow
      have hz4 := hb4.size
      have hw4 : w.heap.size < V.heap.size := by omega
      clear m0 m1 m2 m3 m4 m5 hb4 hrow HX1 HB hgb
      obtain ⟨⟨m0, m1, m2, m3, m4, m5⟩, _⟩ := blk6 x3
      clear x3
      go_wp2
      go_loopw [36] (fun i wr => ∃ v : Nat, v ≤ N ∧ i = .int .i64 v ∧ wr = V) (fun i _ => N - (intOf i).toNat)
      case atStart => exact ⟨0, Nat.zero_le _, rfl, rfl⟩
      case round =>
        obtain ⟨v, hv, rfl, rfl⟩ := hrel
        by_cases hlt : v < N
        · have c0 : wr.cell? ⟨gb, v, none⟩ = some (.int .i64 (-gone l (ati f) (v : Int))) := HR.out.cell hlt
          have hzr := HR.out.lt
          have hwv : v ≠ s → 0 ≤ -gone l (ati f) (v : Int) := fun e => by have := HW.out v hlt e; omega
          generalize -gone l (ati f) (v : Int) = y at *
          by_cases hy : y < 0
          · have hy' : decide (y < 0) = true := decide_eq_true hy
            have hvs : v = s := by
              by_cases e : v = s
              · exact e
              · have := hwv e; omega
            subst hvs
            have e1 : ((v : Int) != (v : Int)) = false := by simp
            clear hwv hy
            go_wp2
            go_roundw
            case rel => exact ⟨v + 1, by omega, by go_num, trivial⟩
            case measure => simp [intOf]; omega
          · have hy' : decide (y < 0) = false := decide_eq_false hy
            clear hwv hy
            go_wp2
            go_roundw
            case rel => exact ⟨v + 1, by omega, by go_num, trivial⟩
            case measure => simp [intOf]; omega
        · have hvN : N = v := by omega
          subst hvN
          go_wp2
          go_ret
          exact ⟨HB2.out, rfl⟩

set_option maxHeartbeats 4000000 in
theorem checkHeights_ok {N s t : Nat} {l : List Arc3} {f h : List Int} (ao af ah : Option Addr) (cap cf ch : Nat) (w : World) (H : PushOk N s t l f h) (hP : PushIn w ao cap l af cf f ah ch h) :
    Calls Try.prog 26 #[.agg #[.int .i64 (N : Int), .int .i64 (s : Int), .int .i64 (t : Int), .slice ao l.length cap, .slice af l.length cf, .slice ah N ch]] w fun e w' => Below w.heap.size w w' ∧ e = .returned (.int .i64 0) := by
  have x0 := blk_new w (.cells #[.int .i64 (N : Int), .int .i64 (s : Int), .int .i64 (t : Int), .slice ao l.length cap, .slice af l.length cf, .slice ah N ch] 28)
  have HX0 : Hid ((w.alloc (.cells #[.int .i64 (N : Int), .int .i64 (s : Int), .int .i64 (t : Int), .slice ao l.length cap, .slice af l.length cf, .slice ah N ch] 28)).heap[w.heap.size]? = some (.cells #[.int .i64 (N : Int), .int .i64 (s : Int), .int .i64 (t : Int), .slice ao l.length cap, .slice af l.length cf, .slice ah N ch] 28 (0, 0))) := x0
  have HP0 : Hid (PushIn (w.alloc (.cells #[.int .i64 (N : Int), .int .i64 (s : Int), .int .i64 (t : Int), .slice ao l.length cap, .slice af l.length cf, .slice ah N ch] 28)) ao cap l af cf f ah ch h) := hP.alloc _
  have HOk : Hid (PushOk N s t l f h) := H
  obtain ⟨hs, ht, hst, _, hN, hl60⟩ := H.st
  clear hP H x0
  go_enter Try.func26, Try.ntmps26
  go_wp2
  go_loopw [10] (fun i wr => ∃ k : Nat, k ≤ N ∧ i = .int .i64 k ∧ Below (w.heap.size + 1) (w.alloc (.cells #[.int .i64 (N : Int), .int .i64 (s : Int), .int .i64 (t : Int), .slice ao l.length cap, .slice af l.length cf, .slice ah N ch] 28)) wr) (fun i _ => N - (intOf i).toNat)
  case atStart => exact ⟨0, Nat.zero_le _, rfl, Below.refl _ _⟩
  case round =>
    obtain ⟨k, hk, rfl, hB⟩ := hrel
    have hz := hB.size
    simp only [World.size_alloc] at hz
    have x1 := blk_below hB HX0.out (Nat.lt_succ_self _)
    obtain ⟨⟨m0, m1, m2, m3, m4, m5⟩, _⟩ := blk6 x1
    have hw0 : w.heap.size < wr.heap.size := by omega
    have HHl : Hid (h.length = N) := HOk.out.hlen
    by_cases hlt : k < N
    · obtain ⟨b2, o2, rfl, hb2, d0⟩ := HP0.out.hgt.ints.below hB (by simp) k (by rw [HHl.out]; exact hlt)
      have hbd := HOk.out.high k hlt
      generalize ati h k = y at *
      have e1 : decide (y < 0) = false := decide_eq_false (by omega)
      have e2 : decide (2 * (N : Int) < y) = false := decide_eq_false (by omega)
      have htop := top_any N s t ao l.length cap wr hN
      have HB : Hid (Below (w.heap.size + 1) _ wr) := hB
      clear x1 hB hbd
      go_wp2_with fail
      refine htop.mono ?_
      clear htop
      rintro e w2 ⟨hb2', rfl⟩
      have HB2 : Hid (Below (w.heap.size + 1) _ w2) := HB.out.trans (hb2'.mono (by omega))
      clear hb2' HB m0 m1 m2 m3 m4 m5
      go_wp2
      go_roundw
      case rel => exact ⟨k + 1, by omega, by go_num, HB2.out⟩
      case measure => simp [intOf]; omega
    · have hkk : k = N := by omega
      subst hkk
      have HB : Hid (Below (w.heap.size + 1) _ wr) := hB
      have HP1 : Hid (PushIn wr ao cap l af cf f ah ch h) := HP0.out.below hB (by simp)
      have HX1 : Hid (wr.heap[w.heap.size]? = some (.cells #[.int .i64 (k : Int), .int .i64 (s : Int), .int .i64 (t : Int), .slice ao l.length cap, .slice af l.length cf, .slice ah k ch] 28 (0, 0))) := x1
      clear x1 hB HX0 HP0
      obtain ⟨b3, o3, rfl, hb3, dS⟩ := HP1.out.hgt.ints s (by rw [HHl.out]; exact hs)
      obtain ⟨b3', o3', e3, _, dT⟩ := HP1.out.hgt.ints t (by rw [HHl.out]; exact ht)
      cases e3
      rw [HOk.out.src] at dS
      rw [HOk.out.snk] at dT
      have e1 : ((k : Int) != (k : Int)) = false := by simp
      have e2 : ((0 : Int) != 0) = false := rfl
      have hsi : (s : Int) < (k : Int) := by omega
      have hti : (t : Int) < (k : Int) := by omega
      go_wp2
      go_quiet (fail)
      go_wp2_with fail
      refine (steps_any _ _ _ _ _ _ _ HOk.out (HP1.out.below (below_drewN (Below.refl _ _) _) (Nat.le_refl _))).mono ?_
      rintro e V ⟨hb4, a1, c1, rfl, hA1⟩
      have hb5 : Below wr.heap.size wr V := (below_drewN (Below.refl _ _) _).trans hb4
      have HB2 : Hid (Below w.heap.size w V) := (below_in HB.out (by omega)).trans (hb5.mono (by omega))
      have HP2 : Hid (PushIn V ao cap l af cf f (some ⟨b3, o3, none⟩) ch h) := HP1.out.below hb5 (Nat.le_refl _)
      have HA1 : Hid (ArcsAt V a1 (stepsC l f (2 * l.length))) := hA1
      have x3 := blk_below hb5 HX1.out hw0
      have HX3 : Hid (V.heap[w.heap.size]? = some (.cells #[.int .i64 (k : Int), .int .i64 (s : Int), .int .i64 (t : Int), .slice ao l.length cap, .slice af l.length cf, .slice (some ⟨b3, o3, none⟩) k ch] 28 (0, 0))) := x3
      have hz4 := hb5.size
      have hw4 : w.heap.size < V.heap.size := by omega
      have HSm : Hid (∀ x : Arc3, x ∈ stepsC l f (2 * l.length) ↔ ∃ (k : Nat) (b : Bool), k < l.length ∧ 0 < room l f k b ∧ x = dirS l f k b) := fun x => steps_all
      have hLl := steps_len l f (2 * l.length)
      obtain ⟨L, hL⟩ : ∃ L, stepsC l f (2 * l.length) = L := ⟨_, rfl⟩
      rw [hL] at HA1 HSm hLl
      rw [hL]
      clear m0 m1 m2 m3 m4 m5 hb4 hb5 HX1 HB HP1 dS dT hA1 x3 hL
      go_wp2
      go_loopw [48] (fun i wr => ∃ j : Nat, j ≤ L.length ∧ i = .int .i64 j ∧ Below V.heap.size V wr) (fun i _ => L.length - (intOf i).toNat)
      case atStart => exact ⟨0, Nat.zero_le _, rfl, Below.refl _ _⟩
      case round =>
        obtain ⟨j, hj, rfl, hB⟩ := hrel
        have hz5 := hB.size
        by_cases hlt : j < L.length
        · obtain ⟨m, d, hm, hr, he⟩ := (HSm.out _).1 (at3_mem L j hlt)
          obtain ⟨bL, oL, rfl, hbL, c0, c1', c2⟩ := HA1.out.below hB (Nat.le_refl _) j hlt
          rw [he] at c0 c1' c2
          obtain ⟨hf, hg⟩ := ends_lt HOk.out.net hm d
          have hdn := HOk.out.down m d hm hr
          have hh0 := HOk.out.high _ hf
          have hh1 := HOk.out.high _ hg
          change wr.cell? ⟨bL, oL + j * 3, none⟩ = some (.int .i64 (frmN l m d : Int)) at c0
          change wr.cell? ⟨bL, oL + j * 3 + 1, none⟩ = some (.int .i64 (towN l m d : Int)) at c1'
          change wr.cell? ⟨bL, oL + j * 3 + 2, none⟩ = some (.int .i64 (room l f m d)) at c2
          generalize frmN l m d = p at *
          generalize towN l m d = q at *
          generalize room l f m d = y at *
          obtain ⟨b4, o4, e4, hb4, dF⟩ := HP2.out.hgt.ints.below hB (Nat.le_refl _) p (by rw [HHl.out]; exact hf)
          cases e4
          obtain ⟨b4', o4', e4, _, dG⟩ := HP2.out.hgt.ints.below hB (Nat.le_refl _) q (by rw [HHl.out]; exact hg)
          cases e4
          generalize ati h p = hp at *
          generalize ati h q = hq at *
          have hpi : (p : Int) < (k : Int) := by omega
          have hqi : (q : Int) < (k : Int) := by omega
          have w1 : IntKind.i64.wrap (hq + 1) = hq + 1 := by rw [IntKind.wrap_i64]; omega
          have e5 : decide (hq + 1 < hp) = false := decide_eq_false (by omega)
          have x4 := blk_below hB HX3.out hw4
          have hw5 : w.heap.size < wr.heap.size := by omega
          obtain ⟨⟨m0, m1, m2, m3, m4, m5⟩, _⟩ := blk6 x4
          have HBV : Hid (Below V.heap.size V wr) := hB
          clear he hr hdn hh0 hh1 x4 hB
          go_wp2
          go_quiet (fail)
          go_wp2
          go_roundw
          case rel => exact ⟨j + 1, by omega, by go_num, below_drewN (HBV.out.alloc (by omega) _) _⟩
          case measure => simp [intOf]; omega
        · have hjj : L.length = j := by omega
          subst hjj
          go_wp2
          go_ret
          exact ⟨HB2.out.trans (hB.mono (by omega)), rfl⟩

end Go.Proofs.Ytgmifepfbcgfbaa
