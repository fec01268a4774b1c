/- Package push: how much waits at each node; whether a node is busy; how high one may stand. -/
import Derived.Test.YtgmifepfbcgfbaaPuC
import Derived.Test.YtgmifepfbcgfbaaGErr
import Derived.BigRegion
import Derived.BigQuiet
namespace Go.Proofs.Ytgmifepfbcgfbaa
open Go.RowKit
set_option linter.unusedVariables false

theorem blk6_below {w w' : World} {p : Nat} {x0 x1 x2 x3 x4 x5 : Value} {t : TypeId} (h : w.heap[p]? = some (.cells #[x0, x1, x2, x3, x4, x5] t (0, 0))) {B : Nat} (hb : Below B w w') (hp : p < B) : w'.heap[p]? = some (.cells #[x0, x1, x2, x3, x4, x5] t (0, 0)) :=
  blk_below hb h hp

set_option maxHeartbeats 4000000 in
theorem waits_any (N : Nat) (s t : Int) (ao af ah : Option Addr) (cap cf nh ch : Nat) (l : List Arc3) (f : List Int) (w : World) (hN : N ≤ 12) (hl60 : l.length ≤ 60) (hl : ∀ a ∈ l, (0 ≤ a.1 ∧ a.1 < (N : Int)) ∧ (0 ≤ a.2.1 ∧ a.2.1 < (N : Int))) (hfl : f.length = l.length)
    (hA : ArcsAt w ao l) (hF : IntsAt w af f) (hb : ∀ k, k < l.length → 0 ≤ ati f k ∧ ati f k ≤ 10000) :
    Calls Try.prog 32 #[.agg #[.int .i64 (N : Int), .int .i64 s, .int .i64 t, .slice ao l.length cap, .slice af l.length cf, .slice ah nh ch]] w fun e w' => Below w.heap.size w w' ∧
      ∃ b, w.heap.size ≤ b ∧ e = .returned (.slice (some ⟨b, 0, none⟩) N N) ∧ w'.rowIs b 3 N (fun j => .int .i64 (-gone l (ati f) (j : Int))) := by
  have hmk := make_ints N (by omega)
  have HA : Hid (ArcsAt w ao l) := hA
  have HF : Hid (IntsAt w af f) := hF
  have HL : Hid (∀ a ∈ l, (0 ≤ a.1 ∧ a.1 < (N : Int)) ∧ (0 ≤ a.2.1 ∧ a.2.1 < (N : Int))) := hl
  have Hfl : Hid (f.length = l.length) := hfl
  have HBd : Hid (∀ k, k < l.length → 0 ≤ ati f k ∧ ati f k ≤ 10000) := hb
  have HD : Hid (∀ (v : Int) k, k ≤ l.length → -600000 ≤ goneK l (ati f) v k ∧ goneK l (ati f) v k ≤ 600000) := fun v k hk => by
    have := goneK_bound (l := l) (f := ati f) (v := v) (C := 10000) (by omega) k fun i hi => hb i (by omega)
    omega
  clear hA hF hl hfl hb
  go_enter Try.func32, Try.ntmps32
  go_wp2
  go_loopw [14] (fun i wr => ∃ k : Nat, k ≤ l.length ∧ i = .int .i64 k ∧ wr.rowIs (w.heap.size + 1) 3 N (fun j => .int .i64 (-goneK l (ati f) (j : Int) k)) ∧ Below (w.heap.size + 1) (w.alloc (.cells #[.int .i64 (N : Int), .int .i64 s, .int .i64 t, .slice ao l.length cap, .slice af l.length cf, .slice ah nh ch] 28)) wr) (fun i _ => l.length - (intOf i).toNat)
  case atStart => exact ⟨0, Nat.zero_le _, rfl, by have := zeri_row (w.alloc (.cells #[.int .i64 (N : Int), .int .i64 s, .int .i64 t, .slice ao l.length cap, .slice af l.length cf, .slice ah nh ch] 28)) N 3; rw [World.size_alloc] at this; exact this, (Below.refl _ _).alloc (by simp) _⟩
  case round =>
    obtain ⟨k, hk, rfl, hrow, hB⟩ := hrel
    have hz := hB.size
    simp only [World.size_alloc] at hz
    have hzr := hrow.lt
    have hw0 : w.heap.size < wr.heap.size := by omega
    by_cases hlt : k < l.length
    · have x1 := blk_below hB (blk_new w (.cells #[.int .i64 (N : Int), .int .i64 s, .int .i64 t, .slice ao l.length cap, .slice af l.length cf, .slice ah nh ch] 28)) (Nat.lt_succ_self _)
      obtain ⟨⟨m0, m1, m2, m3, m4, m5⟩, _⟩ := blk6 x1
      obtain ⟨b, off, rfl, hbb, c0, c1, c2⟩ := (HA.out.alloc (.cells #[.int .i64 (N : Int), .int .i64 s, .int .i64 t, .slice ao l.length cap, .slice af l.length cf, .slice ah nh ch] 28)).below hB (by simp) k hlt
      obtain ⟨b2, o2, rfl, hb2, d0⟩ := (HF.out.alloc (.cells #[.int .i64 (N : Int), .int .i64 s, .int .i64 t, .slice (some ⟨b, off, none⟩) l.length cap, .slice af l.length cf, .slice ah nh ch] 28)).below hB (by simp) k (by rw [Hfl.out]; exact hlt)
      obtain ⟨b', off', e1, hbb', _⟩ := HA.out k hlt
      obtain ⟨b2', o2', e2, hb2', _⟩ := HF.out k (by rw [Hfl.out]; exact hlt)
      cases e1
      cases e2
      have hne1 : b ≠ w.heap.size + 1 := by omega
      have hne2 : b2 ≠ w.heap.size + 1 := by omega
      have hbd := HBd.out k hlt
      obtain ⟨⟨p1, p2⟩, ⟨p3, p4⟩⟩ := HL.out _ (at3_mem l k hlt)
      have HN : Hid (∀ v, goneK l (ati f) v (k + 1) = goneK l (ati f) v k + ((if (at3 l k).1 = v then ati f k else 0) - (if (at3 l k).2.1 = v then ati f k else 0))) := fun v => goneK_succ _ _ _ _
      generalize (at3 l k).1 = p at *
      generalize (at3 l k).2.1 = q at *
      generalize (at3 l k).2.2 = c at *
      generalize ati f k = y at *
      obtain ⟨p, rfl⟩ := Int.eq_ofNat_of_zero_le p1
      obtain ⟨q, rfl⟩ := Int.eq_ofNat_of_zero_le p3
      have r0 := hrow.cell (i := p) (by omega)
      have r1 := hrow.cell (i := q) (by omega)
      have f0 := hrow.frozen p
      have f1 := hrow.frozen q
      have hD0 := HD.out p k hk
      have hD1 := HD.out q k hk
      have HR : Hid (wr.rowIs (w.heap.size + 1) 3 N (fun j => .int .i64 (-goneK l (ati f) (j : Int) k))) := hrow
      have hpN : p < N := by omega
      have hqN : q < N := by omega
      obtain ⟨x, hx⟩ : ∃ x, -goneK l (ati f) p k = x := ⟨_, rfl⟩
      obtain ⟨z, hzz⟩ : ∃ z, -goneK l (ati f) q k = z := ⟨_, rfl⟩
      have hxb : -600000 ≤ x ∧ x ≤ 600000 := by omega
      have hzb : -600000 ≤ z ∧ z ≤ 600000 := by omega
      rw [hx] at r0
      rw [hzz] at r1
      have HXx : Hid (-goneK l (ati f) p k = x) := hx
      have HZz : Hid (-goneK l (ati f) q k = z) := hzz
      clear hx hzz hrow p1 p2 p3 p4 hD0 hD1 x1
      have w1 : IntKind.i64.wrap (z + y) = z + y := by rw [IntKind.wrap_i64]; omega
      have w2 : IntKind.i64.wrap (x - y) = x - y := by rw [IntKind.wrap_i64]; omega
      by_cases e : q = p
      · subst e
        have hxz : z = x := HZz.out.symm.trans HXx.out
        subst hxz
        have w3 : IntKind.i64.wrap (z + y - y) = z + y - y := by rw [IntKind.wrap_i64]; omega
        go_wp2
        go_region
        go_wp2
        go_region
        go_wp2
        go_roundw
        case rel =>
          refine ⟨k + 1, by omega, by go_num, ((((HR.out.set q _).set q _).alloc _).drew.drew).congr fun j hj => ?_, ((((hB.setCell (by simp) _).setCell (by simp) _).alloc (by simp; omega) _).drew).drew⟩
          rw [HN.out]
          by_cases ej : j = q
          · subst ej
            rw [if_pos rfl, if_pos rfl, Int.sub_self, Int.add_zero, HXx.out]
            try (congr 1; omega)
          · rw [if_neg ej, if_neg ej, if_neg (by omega), Int.sub_self, Int.add_zero]
        case measure => simp [intOf]; omega
      · go_wp2
        go_region
        go_wp2
        go_region
        go_wp2
        go_roundw
        case rel =>
          refine ⟨k + 1, by omega, by go_num, ((((HR.out.set q _).set p _).alloc _).drew.drew).congr fun j hj => ?_, ((((hB.setCell (by simp) _).setCell (by simp) _).alloc (by simp; omega) _).drew).drew⟩
          rw [HN.out]
          by_cases ej : j = p
          · subst ej
            rw [if_pos rfl, if_pos rfl, if_neg (by omega), ← HXx.out]
            congr 1; omega
          · rw [if_neg ej]
            by_cases ep : j = q
            · subst ep
              rw [if_pos rfl, if_neg (by omega), if_pos rfl, ← HZz.out]
              congr 1; omega
            · rw [if_neg ep, if_neg (by omega), if_neg (by omega), Int.sub_self, Int.add_zero]
        case measure => simp [intOf]; omega
    · have hkk : k = l.length := by omega
      subst hkk
      go_wp2
      go_ret
      exact ⟨below_in hB (by omega), w.heap.size + 1, by omega, rfl, hrow⟩

/-- of what is right: how much waits at each node -/
theorem PushOk.bound {N s t : Nat} {l : List Arc3} {f h : List Int} (H : PushOk N s t l f h) (v : Int) : -600000 ≤ gone l (ati f) v ∧ gone l (ati f) v ≤ 600000 := by
  have hl60 := H.st.2.2.2.2.2
  have := goneK_bound (l := l) (f := ati f) (v := v) (C := 10000) (by omega) l.length fun i hi => by
    have := H.bnd i hi
    have := (arc_at H.net hi).2.2.2.2
    omega
  unfold gone
  omega

theorem waitsP_any {N s t : Nat} {l : List Arc3} {f h : List Int} (ao af ah : Option Addr) (cap cf ch : Nat) (w : World) (H : PushOk N s t l f h) (hP : PushIn w ao cap l af cf f ah ch h) :
    Calls Try.prog 32 #[.agg #[.int .i64 (N : Int), .int .i64 (s : Int), .int .i64 (t : Int), .slice ao l.length cap, .slice af l.length cf, .slice ah N ch]] w fun e w' => Below w.heap.size w w' ∧
      ∃ b, w.heap.size ≤ b ∧ e = .returned (.slice (some ⟨b, 0, none⟩) N N) ∧ w'.rowIs b 3 N (fun j => .int .i64 (-gone l (ati f) (j : Int))) :=
  waits_any N s t ao af ah cap cf N ch l f w H.st.2.2.2.2.1 H.st.2.2.2.2.2 (net_nodes H.net) H.flen hP.arcs.arcs hP.flow.ints fun k hk => by
    have := H.bnd k hk
    have := (arc_at H.net hk).2.2.2.2
    omega

set_option maxHeartbeats 2000000 in
theorem isBusy_any {N s t : Nat} {l : List Arc3} {f h : List Int} (v : Nat) (b : Bool) (ao af ah : Option Addr) (cap cf ch : Nat) (w : World) (H : PushOk N s t l f h) (hv : v < N) (hb : b = true ↔ BusyN s t l f v) (hP : PushIn w ao cap l af cf f ah ch h) :
    Calls Try.prog 27 #[.agg #[.int .i64 (N : Int), .int .i64 (s : Int), .int .i64 (t : Int), .slice ao l.length cap, .slice af l.length cf, .slice ah N ch], .int .i64 (v : Int)] w fun e w' => Below w.heap.size w w' ∧ e = .returned (.bool b) := by
  have x0 := blk_new w (.cells #[.int .i64 (N : Int), .int .i64 (s : Int), .int .i64 (t : Int), .slice ao l.length cap, .slice af l.length cf, .slice ah N ch] 28)
  obtain ⟨⟨r0, r1, r2, r3, r4, r5⟩, _⟩ := blk6 x0
  have HB0 : Hid (Below w.heap.size w (w.alloc (.cells #[.int .i64 (N : Int), .int .i64 (s : Int), .int .i64 (t : Int), .slice ao l.length cap, .slice af l.length cf, .slice ah N ch] 28))) := below_one w _
  have hwt := waitsP_any ao af ah cap cf ch _ H (hP.alloc (.cells #[.int .i64 (N : Int), .int .i64 (s : Int), .int .i64 (t : Int), .slice ao l.length cap, .slice af l.length cf, .slice ah N ch] 28))
  have HBu : Hid (b = true ↔ BusyN s t l f v) := hb
  clear x0 hP H hb
  by_cases e1 : v = s
  · have e1' : ((v : Int) != (s : Int)) = false := by simp [e1]
    have HR : Hid (b = false) := by
      cases b
      · rfl
      · exact absurd (HBu.out.1 rfl).1 (by simp [e1])
    clear hwt e1 HBu
    go_enter Try.func27, Try.ntmps27
    go_wp2
    go_ret
    rw [HR.out]
    exact ⟨HB0.out, rfl⟩
  · have e1' : ((v : Int) != (s : Int)) = true := by simp; omega
    by_cases e2 : v = t
    · have e2' : ((v : Int) != (t : Int)) = false := by simp [e2]
      have HR : Hid (b = false) := by
        cases b
        · rfl
        · exact absurd (HBu.out.1 rfl).2.1 (by simp [e2])
      clear hwt e1 e2 HBu
      go_enter Try.func27, Try.ntmps27
      go_wp2
      go_ret
      rw [HR.out]
      exact ⟨HB0.out, rfl⟩
    · have e2' : ((v : Int) != (t : Int)) = true := by simp; omega
      have HR : Hid (b = decide (gone l (ati f) v < 0)) := by
        have : BusyN s t l f v ↔ gone l (ati f) v < 0 := ⟨fun h => h.2.2, fun h => ⟨e1, e2, h⟩⟩
        show b = _
        rw [Bool.eq_iff_iff, HBu.out, this, decide_eq_true_iff]
      clear e1 e2 HBu
      go_enter Try.func27, Try.ntmps27
      go_wp2_with (go_at_call 32; refine hwt.mono ?_; rintro e w1 ⟨hb1, g, hg, rfl, hrow⟩; have c0 := hrow.cell (i := v) hv; have hzr := hrow.lt; clear hwt)
      go_ret
      rw [HR.out]
      exact ⟨HB0.out.trans (hb1.mono (by simp)), rfl⟩

set_option maxHeartbeats 400000 in
theorem top_any (N : Nat) (s t : Int) (ao : Option Addr) (len cap : Nat) (w : World) (hN : N ≤ 12) :
    Calls Try.prog 29 #[.agg #[.int .i64 (N : Int), .int .i64 s, .int .i64 t, .slice ao len cap]] w fun e w' => Below w.heap.size w w' ∧ e = .returned (.int .i64 (2 * (N : Int))) := by
  have w1 : IntKind.i64.wrap (2 * (N : Int)) = 2 * (N : Int) := by rw [IntKind.wrap_i64]; omega
  go_enter Try.func29, Try.ntmps29
  go_wp2
  go_ret
  exact ⟨below_one _ _, rfl⟩

end Go.Proofs.Ytgmifepfbcgfbaa
