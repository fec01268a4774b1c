/- The laws' own helpers pushes and pushed, walked out of contracts of package push. -/
import Derived.Test.YtgmifepfbcgfbaaPuC
import Derived.Test.YtgmifepfbcgfbaaRest
import Derived.Test.YtgmifepfbcgfbaaSl
import Derived.Test.YtgmifepfbcgfbaaLits
namespace Go.Proofs.Ytgmifepfbcgfbaa
open Go.RowKit
set_option linter.unusedVariables false

theorem two_net : netErr 2 0 1 [(0, 1, 7)] = 0 := by decide
theorem two_flow : newF (0 : Int).toNat [(0, 1, 7)] = [7] := by decide
theorem two_high : newH (2 : Int).toNat (0 : Int).toNat = [2, 0] := by decide

set_option maxHeartbeats 2000000 in
theorem pushes_any (hP : PNewC) (w : World) : Calls Try.prog 7 #[] w fun e w' => e = .returned (.bool true) ∧ Below w.heap.size w w' := by
  go_enter Try.func7, Try.ntmps7
  go_wp2_with fail
  have hL := arcs_new w [(0, 1, 7)] 54
  refine (arcs_any _ 1 [(0, 1, 7)] _ hL (by decide)).mono ?_
  rintro e w1 ⟨hb1, ao', cap', rfl, hA', hfr, hcl, hcm⟩
  simp only [World.size_alloc] at hb1 hfr
  have hz1 := hb1.size
  simp only [World.size_alloc] at hz1
  have hG : GraphIn w1 ao' cap' [(0, 1, 7)] := ⟨hA', hcl, hcm, fun e => by
    obtain ⟨b, off, e', _⟩ := hA' 0 (by decide)
    rw [e] at e'; cases e'⟩
  have hq := hP 2 0 1 ao' cap' [(0, 1, 7)] w1 hG
  rw [two_net] at hq
  have HB1 : Hid (Below w.heap.size w w1) := below_in hb1 (by omega)
  have hl1 : ([(0, 1, 7)] : List Arc3).length = 1 := rfl
  rw [hl1] at hq
  clear hL hb1 hA' hfr hcl hcm hG hl1
  go_wp2_with fail
  refine hq.mono ?_
  clear hq
  rintro e w2 ⟨hb2, n', s', t', a1, c1, L, a2, c2, F, a3, c3, H, rfl, hN, hT⟩
  obtain ⟨rfl, rfl, rfl, rfl, rfl, rfl⟩ := hT (by simp)
  rw [two_flow, two_high] at hN ⊢
  have hz2 := hb2.size
  have HB2 : Hid (Below w.heap.size w w2) := HB1.out.trans (hb2.mono (by omega))
  have HF : Hid (IntsAt w2 a2 [7]) := hN.flow.arg.ints
  have HH : Hid (IntsAt w2 a3 [2, 0]) := hN.hgt.arg.ints
  clear hb2 HB1 hN hT
  go_wp2_with fail
  have hI := ints_new (w2.alloc (.cells #[.int .i64 2, .int .i64 0, .int .i64 1, .slice a1 1 c1, .slice a2 1 c2, .slice a3 2 c3] 28)) [7] 3
  rw [World.size_alloc] at hI
  have hq := equalInts a2 (some ⟨w2.heap.size + 1, 0, none⟩) c2 1 [7] [7] _ (by decide) (by decide) ((HF.out.alloc _).alloc _) hI
  rw [decide_eq_true rfl] at hq
  refine hq.mono ?_
  clear hq
  rintro e w3 ⟨rfl, q3, hw3⟩
  have x3 : w3.heap[w2.heap.size]? = some (.cells #[.int .i64 2, .int .i64 0, .int .i64 1, .slice a1 1 c1, .slice a2 1 c2, .slice a3 2 c3] 28 (0, 0)) := by
    rw [hw3]
    exact blk_below (below_drewN (Below.refl (w2.heap.size + 1) _) _) (blk_old (blk_new w2 _) _) (by omega)
  have hb3 : Below w.heap.size w w3 := by rw [hw3]; exact below_drewN ((HB2.out.alloc (by omega) _).alloc (by first | omega | (simp; omega)) _) _
  have hz3 : w2.heap.size < w3.heap.size := by rw [hw3]; simp; omega
  have hh3 : IntsAt w3 a3 [2, 0] := by rw [hw3]; exact ((HH.out.alloc _).alloc _).drewN _
  have HB3 : Hid (Below w.heap.size w w3) := hb3
  have HH3 : Hid (IntsAt w3 a3 [2, 0]) := hh3
  clear hI hw3 hb3 hh3 HB2 HF HH
  obtain ⟨⟨r0, r1, r2, r3, r4, r5⟩, _⟩ := blk6 x3
  clear x3
  go_wp2_with fail
  have hI := ints_new w3 [2, 0] 3
  have hq := equalInts a3 (some ⟨w3.heap.size, 0, none⟩) c3 2 [2, 0] [2, 0] _ (by decide) (by decide) (HH3.out.alloc _) hI
  rw [decide_eq_true rfl] at hq
  refine hq.mono ?_
  clear hq
  rintro e w4 ⟨rfl, q4, hw4⟩
  have hb4 : Below w.heap.size w w4 := by rw [hw4]; exact below_drewN (HB3.out.alloc HB3.out.size _) _
  have HB4 : Hid (Below w.heap.size w w4) := hb4
  clear hI hw4 hb4 HB3 HH3 r0 r1 r2 r3 r4 r5
  go_wp2
  go_ret
  exact ⟨rfl, HB4.out⟩

/-- which step a number asks for -/
def stepN (N : Nat) (l : List Arc3) (x : Int) : Nat := (restV x (2 * l.length + N)).toNat
/-- arcs and numbers lie below -/
def Within (b : Nat) (a1 a2 a3 : Option Addr) : Prop := (∀ c off, a1 = some ⟨c, off, none⟩ → c < b) ∧ (∀ c off, a2 = some ⟨c, off, none⟩ → c < b) ∧ (∀ c off, a3 = some ⟨c, off, none⟩ → c < b)
theorem Within.le {b c : Nat} {a1 a2 a3 : Option Addr} (h : Within b a1 a2 a3) (hb : b ≤ c) : Within c a1 a2 a3 :=
  ⟨fun d o e => Nat.lt_of_lt_of_le (h.1 d o e) hb, fun d o e => Nat.lt_of_lt_of_le (h.2.1 d o e) hb, fun d o e => Nat.lt_of_lt_of_le (h.2.2 d o e) hb⟩
/-- arcs and numbers lie above -/
def FromB (b : Nat) (a1 a2 a3 : Option Addr) : Prop := (∀ c off, a1 = some ⟨c, off, none⟩ → b ≤ c) ∧ (∀ c off, a2 = some ⟨c, off, none⟩ → b ≤ c) ∧ (∀ c off, a3 = some ⟨c, off, none⟩ → b ≤ c)
theorem FromB.le {b c : Nat} {a1 a2 a3 : Option Addr} (h : FromB b a1 a2 a3) (hb : c ≤ b) : FromB c a1 a2 a3 :=
  ⟨fun d o e => Nat.le_trans hb (h.1 d o e), fun d o e => Nat.le_trans hb (h.2.1 d o e), fun d o e => Nat.le_trans hb (h.2.2 d o e)⟩
/-- where arcs and numbers lie -/
def Apart (b : Nat) (a1 a2 a3 : Option Addr) : Prop := (∀ c off, a1 = some ⟨c, off, none⟩ → c ≠ b) ∧ (∀ c off, a2 = some ⟨c, off, none⟩ → c ≠ b) ∧ (∀ c off, a3 = some ⟨c, off, none⟩ → c ≠ b)
theorem Within.apart {b : Nat} {a1 a2 a3 : Option Addr} (h : Within b a1 a2 a3) : Apart b a1 a2 a3 :=
  ⟨fun d o e => Nat.ne_of_lt (h.1 d o e), fun d o e => Nat.ne_of_lt (h.2.1 d o e), fun d o e => Nat.ne_of_lt (h.2.2 d o e)⟩
theorem FromB.apart {b c : Nat} {a1 a2 a3 : Option Addr} (h : FromB b a1 a2 a3) (hc : c < b) : Apart c a1 a2 a3 :=
  ⟨fun d o e => by have := h.1 d o e; omega, fun d o e => by have := h.2.1 d o e; omega, fun d o e => by have := h.2.2 d o e; omega⟩

set_option maxHeartbeats 8000000 in
set_option maxRecDepth 100000 in
theorem pushed_any (hP : PNewC) (hS : PSendC) (hL : PLiftC) (n s t : Int) (ao ax : Option Addr) (cap cs : Nat) (l : List Arc3) (xs : List Int) (w : World) (hG : GraphIn w ao cap l) (hI : IntsIn w ax cs xs) :
    Calls Try.prog 8 #[.agg #[.int .i64 n, .int .i64 s, .int .i64 t, .slice ao l.length cap], .slice ax xs.length cs] w fun e w' => Below w.heap.size w w' ∧
      ∃ n' s' t' a1 c1 L a2 c2 F a3 c3 H d ok, e = .returned (.tuple #[.agg #[.int .i64 n', .int .i64 s', .int .i64 t', .slice a1 (L : List Arc3).length c1, .slice a2 (F : List Int).length c2, .slice a3 (H : List Int).length c3], .int .i64 d, .bool ok]) ∧
        PushIn w' a1 c1 L a2 c2 F a3 c3 H ∧ Within w'.heap.size a1 a2 a3 ∧ FromB w.heap.size a1 a2 a3 ∧ (netErr n s t l ≠ 0 → ok = false) ∧ (netErr n s t l = 0 → ok = true ∧ n' = n ∧ s' = s ∧ t' = t ∧ L = l ∧ (F, H) = runP n.toNat s.toNat t.toNat l (newF s.toNat l, newH n.toNat s.toNat) (xs.map (stepN n.toNat l))) := by
  have hG0 := (hG.alloc (.cells #[.int .i64 n, .int .i64 s, .int .i64 t, .slice ao l.length cap] 24)).alloc (.cells #[.int .i64 0, .int .i64 0, .int .i64 0, .slice none 0 0, .slice none 0 0, .slice none 0 0] 28)
  have x0 := blk_old (blk_new w (.cells #[.int .i64 n, .int .i64 s, .int .i64 t, .slice ao l.length cap] 24)) (.cells #[.int .i64 0, .int .i64 0, .int .i64 0, .slice none 0 0, .slice none 0 0, .slice none 0 0] 28)
  have y0 := blk_new (w.alloc (.cells #[.int .i64 n, .int .i64 s, .int .i64 t, .slice ao l.length cap] 24)) (.cells #[.int .i64 0, .int .i64 0, .int .i64 0, .slice none 0 0, .slice none 0 0, .slice none 0 0] 28)
  have hq := hP n s t ao cap l _ hG0
  rw [World.size_alloc] at y0
  have HI : Hid (IntsIn w ax cs xs) := hI
  clear hG hI
  go_enter Try.func8, Try.ntmps8
  go_wp2_with fail
  refine hq.mono ?_
  clear hq
  rintro e w1 ⟨hb1, n', s', t', a1, c1, L, a2, c2, F, a3, c3, H, rfl, hN, hT⟩
  simp only [World.size_alloc] at hb1 hN
  have hz1 := hb1.size
  simp only [World.size_alloc] at hz1
  have x1 := blk_below hb1 x0 (by omega)
  have y1 := blk_below hb1 y0 (by omega)
  have HB1 : Hid (Below w.heap.size w w1) := ((below_one w _).alloc (by simp) _).trans (hb1.mono (by omega))
  have HI1 : Hid (IntsIn w1 ax cs xs) := (HI.out.below HB1.out (Nat.le_refl _))
  have X1 : Hid (w1.heap[w.heap.size]? = some (.cells #[.int .i64 n, .int .i64 s, .int .i64 t, .slice ao l.length cap] 24 (0, 0))) := x1
  have Y1 : Hid (w1.heap[w.heap.size + 1]? = some (.cells #[.int .i64 0, .int .i64 0, .int .i64 0, .slice none 0 0, .slice none 0 0, .slice none 0 0] 28 (0, 0))) := y1
  have HN : Hid (PushNew w1 (w.heap.size + 1 + 1) a1 c1 L a2 c2 F a3 c3 H) := hN
  clear hb1 x0 y0 hG0 hN x1 y1 HI
  by_cases hE : netErr n s t l = 0
  · obtain ⟨rfl, rfl, rfl, rfl, rfl, rfl⟩ := hT hE
    have hge := net_ok hE
    obtain ⟨⟨hn1, hn2⟩, hl60, _⟩ := err_ok hge.1
    obtain ⟨N, rfl⟩ := Int.eq_ofNat_of_zero_le (show 0 ≤ n' by omega)
    obtain ⟨sN, rfl⟩ := Int.eq_ofNat_of_zero_le hge.2.1.1
    obtain ⟨tN, rfl⟩ := Int.eq_ofNat_of_zero_le hge.2.2.1.1
    simp only [Int.toNat_natCast] at HN ⊢
    have h00 : (netErr (N : Int) sN tN L != 0) = false := by rw [hE]; rfl
    have HE : Hid (netErr (N : Int) sN tN L = 0) := hE
    have HR0 : Hid (Reach N sN tN L (newF sN L) (newH N sN)) := reach_new hE
    obtain ⟨r0, r1, r2, r3⟩ := blk4 X1.out
    have hwz : w.heap.size < w1.heap.size := by omega
    have hwz1 : w.heap.size + 1 < w1.heap.size := by omega
    have hin := HN.out.arg
    have hwi : Within w1.heap.size a1 a2 a3 := ⟨HN.out.arcs.ltB, HN.out.flow.ltB, HN.out.hgt.ltB⟩
    have hap : Apart w1.heap.size a1 a2 a3 := hwi.apart
    have HWi : Hid (Within w1.heap.size a1 a2 a3) := hwi
    have HAw0 : Hid (FromB (w.heap.size + 2) a1 a2 a3) := ⟨fun c off e => by have := HN.out.arcs.from c off e; omega, fun c off e => by have := HN.out.flow.from c off e; omega, fun c off e => by have := HN.out.hgt.from c off e; omega⟩
    have hfl := HR0.out.ok.flen
    have hhl := HR0.out.ok.hlen
    have HIn : Hid (PushIn w1 a1 c1 L a2 c2 (newF sN L) a3 c3 (newH N sN)) := hin
    have HAp : Hid (Apart w1.heap.size a1 a2 a3) := hap
    rw [hfl, hhl]
    rw [hE] 
    clear hE h00 hT hge HN hin hap hwi hfl hhl hz1
    have h00 : ((0 : Int) != 0) = false := rfl
    have hxs := HI1.out.len
    unfold maxLen at hxs
    go_wp2
    go_loopw [9, 25] (fun d i wr => ∃ (k : Nat) (dn : Int) (a1 : Option Addr) (c1 : Nat) (a2 : Option Addr) (c2 : Nat) (a3 : Option Addr) (c3 : Nat) (F H : List Int), k ≤ xs.length ∧ i = .int .i64 k ∧ d = .int .i64 dn ∧ (0 ≤ dn ∧ dn ≤ k) ∧
      wr.heap[w1.heap.size]? = some (.cells #[.int .i64 (N : Int), .int .i64 (sN : Int), .int .i64 (tN : Int), .slice a1 L.length c1, .slice a2 L.length c2, .slice a3 N c3] 28 (0, 0)) ∧
      Hid (PushIn wr a1 c1 L a2 c2 F a3 c3 H) ∧ Hid (Apart w1.heap.size a1 a2 a3) ∧ Hid (Within wr.heap.size a1 a2 a3) ∧ Hid (FromB (w.heap.size + 2) a1 a2 a3) ∧ Hid ((F, H) = runP N sN tN L (newF sN L, newH N sN) ((xs.take k).map (stepN N L))) ∧ Hid (Below w1.heap.size w1 wr) ∧ w1.heap.size < wr.heap.size) (fun _ i _ => xs.length - (intOf i).toNat)
    case atStart => exact ⟨0, 0, a1, c1, a2, c2, a3, c3, newF sN L, newH N sN, Nat.zero_le _, rfl, rfl, ⟨by omega, by omega⟩, blk_new _ _, HIn.out.alloc _, HAp, HWi.out.le (by simp), HAw0, (by rw [Hid]; simp [runP]), below_one _ _, by simp⟩
    case round =>
      obtain ⟨k, dn, a1, c1, a2, c2, a3, c3, F, H, hk, rfl, rfl, ⟨hd1, hd2⟩, p0, HIn, HAp, HLo, HAw, HRun, HB, hwr⟩ := hrel
      by_cases hlt : k < xs.length
      · have HLt : Hid (k < xs.length) := hlt
        obtain ⟨bX, offX, rfl, hbX, c0⟩ := HI1.out.ints.below HB.out (Nat.le_refl _) k hlt
        clear r0 r1 r2 r3
        obtain ⟨r0, r1, r2, r3⟩ := blk4 (blk_below HB.out X1.out (by omega))
        have hpc := (blk6 p0).1
        obtain ⟨p1, p2, p3, p4, p5, p6⟩ := hpc
        have P0 : Hid (wr.heap[w1.heap.size]? = some (.cells #[.int .i64 (N : Int), .int .i64 (sN : Int), .int .i64 (tN : Int), .slice a1 L.length c1, .slice a2 L.length c2, .slice a3 N c3] 28 (0, 0))) := p0
        have hrr := run_reach ((xs.take k).map (stepN N L)) (newF sN L) (newH N sN) HR0.out
        rw [← HRun.out] at hrr
        have hre : Reach N sN tN L F H := hrr.1
        have hfl := hre.ok.flen
        have hhl := hre.ok.hlen
        have HOk : Hid (PushOk N sN tN L F H) := hre.ok
        obtain ⟨x, hx⟩ : ∃ x, ati xs k = x := ⟨_, rfl⟩
        rw [hx] at c0
        obtain ⟨m2, hm2⟩ : ∃ m2, 2 * L.length = m2 := ⟨_, rfl⟩
        obtain ⟨m, hm⟩ : ∃ m, m2 + N = m := ⟨_, rfl⟩
        have hri := restV_in x (m := m) (by omega)
        obtain ⟨r, hr⟩ := Int.eq_ofNat_of_zero_le hri.1
        have hrm : r < m := by omega
        have hsn : stepN N L x = r := by unfold stepN; rw [hm2, hm, hr]; exact Int.toNat_natCast r
        have HRun2 : Hid (runP N sN tN L (newF sN L, newH N sN) ((xs.take (k + 1)).map (stepN N L)) = stepP N sN tN L (F, H) r) := by
          have e1 : xs.take (k + 1) = xs.take k ++ [x] := by
            rw [← hx, ati_lt _ _ hlt]
            simp
          rw [e1, List.map_append, List.map_cons, List.map_nil, run_snoc, ← HRun.out, hsn]
          exact rfl
        have HRest : Hid (∀ W : World, Calls Try.prog 23 #[.int .i64 x, .int .i64 (m : Int)] W fun e w' => e = .returned (.int .i64 (r : Int)) ∧ w' = W) := fun W => by
          have h := rest_big x m (by omega) (by omega) W
          rw [hr] at h
          exact h
        have v1 : IntKind.i64.wrap (2 * (L.length : Int)) = (m2 : Int) := by rw [IntKind.wrap_i64]; omega
        have v2 : IntKind.i64.wrap ((m2 : Int) + (N : Int)) = (m : Int) := by rw [IntKind.wrap_i64]; omega
        have v3 : IntKind.i64.wrap (dn + 1) = dn + 1 := by
          have := HI1.out.len
          unfold maxLen at this
          rw [IntKind.wrap_i64]; omega
        have hwr0 : w.heap.size < wr.heap.size := by omega
        clear hri hrr hx hsn hr hre p0
        by_cases hr2 : r < m2
        · have hk2 : r / 2 < L.length := by omega
          have hcall : Hid (∀ W : World, PushIn W a1 c1 L a2 c2 F a3 c3 H → Calls Try.prog 12 #[.agg #[.int .i64 (N : Int), .int .i64 (sN : Int), .int .i64 (tN : Int), .slice a1 L.length c1, .slice a2 L.length c2, .slice a3 N c3], .int .i64 ((r : Int) / 2), .bool ((r : Int) % 2 == 1)] W fun e w' => Below W.heap.size W w' ∧
              ∃ E n' s' t' a1 c1 L' a2 c2 F' a3 c3 H', e = .returned (.tuple #[.agg #[.int .i64 n', .int .i64 s', .int .i64 t', .slice a1 (L' : List Arc3).length c1, .slice a2 (F' : List Int).length c2, .slice a3 (H' : List Int).length c3], .int .i64 E]) ∧ PushNew w' W.heap.size a1 c1 L' a2 c2 F' a3 c3 H' ∧
                (E = 0 → n' = N ∧ s' = sN ∧ t' = tN ∧ L' = L ∧ (F', H') = stepP N sN tN L (F, H) r) ∧ (E ≠ 0 → (F, H) = stepP N sN tN L (F, H) r)) := fun W hW => by
            have d1 : (r : Int) / 2 = ((r / 2 : Nat) : Int) := by omega
            have d2 : ((r : Int) % 2 == 1) = decide (r % 2 = 1) := by
              rw [Bool.eq_iff_iff]; simp; omega
            rw [d1, d2]
            have h := hS N sN tN ((r / 2 : Nat) : Int) (decide (r % 2 = 1)) a1 a2 a3 c1 c2 c3 L F H W HOk.out hW
            rw [hfl, hhl] at h
            refine h.mono ?_
            rintro e w' ⟨hb, E, n', s', t', a1, c1, L', a2, c2, F', a3, c3, H', he, hNew, hi, hT⟩
            rw [Int.toNat_natCast] at hi hT
            refine ⟨hb, E, n', s', t', a1, c1, L', a2, c2, F', a3, c3, H', he, hNew, fun h0 => ?_, fun h0 => ?_⟩
            · obtain ⟨e1, e2, e3, e4, e5, e6⟩ := hT h0
              exact ⟨e1, e2, e3, e4, by rw [step_send (by omega) (hi.1 h0).2, e5, e6]⟩
            · rw [step_send_no (by omega) (fun C => h0 (hi.2 ⟨by omega, C⟩))]
          clear hm2 hm hrm
          go_wp2_with (go_at_call 23; refine (HRest.out _).mono ?_; rintro e w' ⟨rfl, hw⟩; rw [hw]; clear hw)
          refine (hcall.out _ (HIn.out.alloc _)).mono ?_
          rintro e w2 ⟨hb2, E, n', s', t', b1, d1, L', b2, d2, F', b3, d3, H', rfl, hNew, hT, hF⟩
          simp only [World.size_alloc] at hb2 hNew
          have hz2 := hb2.size
          simp only [World.size_alloc] at hz2
          have xq := blk_below hb2 (blk_new wr (.cells #[.int .i64 0, .int .i64 0, .int .i64 0, .slice none 0 0, .slice none 0 0, .slice none 0 0] 28)) (by omega)
          have xp := blk_below hb2 (blk_old P0.out (.cells #[.int .i64 0, .int .i64 0, .int .i64 0, .slice none 0 0, .slice none 0 0, .slice none 0 0] 28)) (by omega)
          have HB2 : Hid (Below w1.heap.size w1 w2) := (HB.out.alloc (by omega) _).trans (hb2.mono (by omega))
          have HIn2 : Hid (PushIn w2 a1 c1 L a2 c2 F a3 c3 H) := (HIn.out.alloc _).below hb2 (by simp)
          have hqp : w1.heap.size ≠ wr.heap.size := by omega
          have hq2 : wr.heap.size < w2.heap.size := by omega
          have HApq : Hid (Apart wr.heap.size a1 a2 a3) := HLo.out.apart
          have hap2 : (∀ c off, b1 = some ⟨c, off, none⟩ → wr.heap.size + 1 ≤ c) ∧ (∀ c off, b2 = some ⟨c, off, none⟩ → wr.heap.size + 1 ≤ c) ∧ (∀ c off, b3 = some ⟨c, off, none⟩ → wr.heap.size + 1 ≤ c) := ⟨hNew.arcs.from, hNew.flow.from, hNew.hgt.from⟩
          have HNew : Hid (PushIn w2 b1 d1 L' b2 d2 F' b3 d3 H') := hNew.arg
          have HWb : Hid (Within w2.heap.size b1 b2 b3) := ⟨hNew.arcs.ltB, hNew.flow.ltB, hNew.hgt.ltB⟩
          have HAq : Hid (Apart wr.heap.size b1 b2 b3 ∧ Apart w1.heap.size b1 b2 b3) := ⟨⟨fun c off e => by have := hap2.1 c off e; omega, fun c off e => by have := hap2.2.1 c off e; omega, fun c off e => by have := hap2.2.2 c off e; omega⟩,
            ⟨fun c off e => by have := hap2.1 c off e; omega, fun c off e => by have := hap2.2.1 c off e; omega, fun c off e => by have := hap2.2.2 c off e; omega⟩⟩
          have HAwb : Hid (FromB (w.heap.size + 2) b1 b2 b3) := ⟨fun c off e => by have := hap2.1 c off e; omega, fun c off e => by have := hap2.2.1 c off e; omega, fun c off e => by have := hap2.2.2 c off e; omega⟩
          have HF : Hid (E ≠ 0 → (F, H) = stepP N sN tN L (F, H) r) := hF
          have HT : Hid (E = 0 → n' = N ∧ s' = sN ∧ t' = tN ∧ L' = L ∧ (F', H') = stepP N sN tN L (F, H) r) := hT
          clear hb2 hNew hT hF hap2 r0 r1 r2 r3 p1 p2 p3 p4 p5 p6 hcall HRest P0 HIn HB c0
          by_cases hE0 : E = 0
          · subst hE0
            obtain ⟨rfl, rfl, rfl, rfl, hst⟩ := HT.out rfl
            have HSt : Hid ((F', H') = stepP N sN tN L' (F, H) r) := hst
            have g0 : ((0 : Int) == 0) = true := rfl
            have hrs := step_reach (run_reach ((xs.take k).map (stepN N L')) (newF sN L') (newH N sN) HR0.out).1 r
            rw [show ((runP N sN tN L' (newF sN L', newH N sN) ((xs.take k).map (stepN N L'))).1, (runP N sN tN L' (newF sN L', newH N sN) ((xs.take k).map (stepN N L'))).2) = (F, H) from HRun.out.symm, ← hst] at hrs
            have hfl' : F'.length = L'.length := hrs.1.ok.flen
            have hhl' : H'.length = N := hrs.1.ok.hlen
            rw [hfl', hhl']
            clear hst hrs HT HF
            go_wp2_with (first
              | (refine wpList_store_push rfl _ _ rfl wr.heap.size _ _ _ _ _ _ _ _ _ _ _ _ _ _ _ _ _ _ rfl rfl xq ?_; intro w3 ho3 yq hs3; have hz3 := ho3.size; have yp := ho3.blk xp hqp; obtain ⟨⟨q0, q1, q2, q3, q4, q5⟩, _⟩ := blk6 yq; clear hs3)
              | (refine wpList_store_push rfl _ _ rfl w1.heap.size _ _ _ _ _ _ _ _ _ _ _ _ _ _ _ _ _ _ rfl rfl yp ?_; intro w4 ho4 zp hs4; have hz4 := ho4.size; clear hs4))
            go_roundw
            case rel =>
              refine ⟨k + 1, dn + 1, b1, d1, b2, d2, b3, d3, F', H', HLt.out, by go_num, rfl, ⟨by omega, by omega⟩, zp, ?_, HAq.out.2, HWb.out.le (by omega), HAwb, ?_, ?_, by omega⟩
              · exact (HNew.out.only ho3 HAq.out.1.1 HAq.out.1.2.1 HAq.out.1.2.2).only ho4 HAq.out.2.1 HAq.out.2.2.1 HAq.out.2.2.2
              · exact HSt.out.trans HRun2.out.symm
              · exact (HB2.out.trans (ho3.below (by omega) (by omega))).trans (ho4.below (Nat.le_refl _) (by omega))
            case measure => have := HLt.out; simp [intOf]; omega
          · have g0 : (E == 0) = false := by simpa using hE0
            have HSt : Hid ((F, H) = stepP N sN tN L (F, H) r) := HF.out hE0
            clear HT HF hE0
            go_wp2_with (first
              | (refine wpList_store_push rfl _ _ rfl wr.heap.size _ _ _ _ _ _ _ _ _ _ _ _ _ _ _ _ _ _ rfl rfl xq ?_; intro w3 ho3 yq hs3; have hz3 := ho3.size; have yp := ho3.blk xp hqp; clear hs3))
            go_roundw
            case rel =>
              refine ⟨k + 1, dn, a1, c1, a2, c2, a3, c3, F, H, HLt.out, by go_num, rfl, ⟨by omega, by omega⟩, yp, ?_, HAp, HLo.out.le (by omega), HAw, ?_, ?_, by omega⟩
              · exact HIn2.out.only ho3 HApq.out.1 HApq.out.2.1 HApq.out.2.2
              · exact HSt.out.trans HRun2.out.symm
              · exact HB2.out.trans (ho3.below (by omega) (by omega))
            case measure => have := HLt.out; simp [intOf]; omega
        · obtain ⟨Q, hQ⟩ : ∃ Q, r - m2 = Q := ⟨_, rfl⟩
          have v4 : IntKind.i64.wrap ((r : Int) - (m2 : Int)) = (Q : Int) := by rw [IntKind.wrap_i64]; omega
          have hcall : Hid (∀ W : World, PushIn W a1 c1 L a2 c2 F a3 c3 H → Calls Try.prog 11 #[.agg #[.int .i64 (N : Int), .int .i64 (sN : Int), .int .i64 (tN : Int), .slice a1 L.length c1, .slice a2 L.length c2, .slice a3 N c3], .int .i64 (Q : Int)] W fun e w' => Below W.heap.size W w' ∧
              ∃ E n' s' t' a1 c1 L' a2 c2 F' a3 c3 H', e = .returned (.tuple #[.agg #[.int .i64 n', .int .i64 s', .int .i64 t', .slice a1 (L' : List Arc3).length c1, .slice a2 (F' : List Int).length c2, .slice a3 (H' : List Int).length c3], .int .i64 E]) ∧ PushNew w' W.heap.size a1 c1 L' a2 c2 F' a3 c3 H' ∧
                (E = 0 → n' = N ∧ s' = sN ∧ t' = tN ∧ L' = L ∧ (F', H') = stepP N sN tN L (F, H) r) ∧ (E ≠ 0 → (F, H) = stepP N sN tN L (F, H) r)) := fun W hW => by
            have h := hL N sN tN (Q : Int) a1 a2 a3 c1 c2 c3 L F H W HOk.out hW
            rw [hfl, hhl] at h
            refine h.mono ?_
            rintro e w' ⟨hb, E, n', s', t', a1, c1, L', a2, c2, F', a3, c3, H', he, hNew, hi, hT⟩
            rw [Int.toNat_natCast] at hi hT
            have hQ2 : r - 2 * L.length = Q := by omega
            refine ⟨hb, E, n', s', t', a1, c1, L', a2, c2, F', a3, c3, H', he, hNew, fun h0 => ?_, fun h0 => ?_⟩
            · obtain ⟨_, x, hx⟩ := hi.1 h0
              obtain ⟨e1, e2, e3, e4, e5, e6⟩ := hT x (by omega) hx
              rw [← hQ2] at hx
              exact ⟨e1, e2, e3, e4, by rw [step_lift (by omega) hx, e5, e6, hQ2]⟩
            · rw [step_lift_no (by omega) (fun ⟨x, hx⟩ => h0 (hi.2 ⟨by omega, x, by rw [hQ2] at hx; exact hx⟩))]
          clear hQ
          clear hm2 hm hrm
          go_wp2_with (go_at_call 23; refine (HRest.out _).mono ?_; rintro e w' ⟨rfl, hw⟩; rw [hw]; clear hw)
          refine (hcall.out _ (HIn.out.alloc _)).mono ?_
          rintro e w2 ⟨hb2, E, n', s', t', b1, d1, L', b2, d2, F', b3, d3, H', rfl, hNew, hT, hF⟩
          simp only [World.size_alloc] at hb2 hNew
          have hz2 := hb2.size
          simp only [World.size_alloc] at hz2
          have xq := blk_below hb2 (blk_new wr (.cells #[.int .i64 0, .int .i64 0, .int .i64 0, .slice none 0 0, .slice none 0 0, .slice none 0 0] 28)) (by omega)
          have xp := blk_below hb2 (blk_old P0.out (.cells #[.int .i64 0, .int .i64 0, .int .i64 0, .slice none 0 0, .slice none 0 0, .slice none 0 0] 28)) (by omega)
          have HB2 : Hid (Below w1.heap.size w1 w2) := (HB.out.alloc (by omega) _).trans (hb2.mono (by omega))
          have HIn2 : Hid (PushIn w2 a1 c1 L a2 c2 F a3 c3 H) := (HIn.out.alloc _).below hb2 (by simp)
          have hqp : w1.heap.size ≠ wr.heap.size := by omega
          have hq2 : wr.heap.size < w2.heap.size := by omega
          have HApq : Hid (Apart wr.heap.size a1 a2 a3) := HLo.out.apart
          have hap2 : (∀ c off, b1 = some ⟨c, off, none⟩ → wr.heap.size + 1 ≤ c) ∧ (∀ c off, b2 = some ⟨c, off, none⟩ → wr.heap.size + 1 ≤ c) ∧ (∀ c off, b3 = some ⟨c, off, none⟩ → wr.heap.size + 1 ≤ c) := ⟨hNew.arcs.from, hNew.flow.from, hNew.hgt.from⟩
          have HNew : Hid (PushIn w2 b1 d1 L' b2 d2 F' b3 d3 H') := hNew.arg
          have HWb : Hid (Within w2.heap.size b1 b2 b3) := ⟨hNew.arcs.ltB, hNew.flow.ltB, hNew.hgt.ltB⟩
          have HAq : Hid (Apart wr.heap.size b1 b2 b3 ∧ Apart w1.heap.size b1 b2 b3) := ⟨⟨fun c off e => by have := hap2.1 c off e; omega, fun c off e => by have := hap2.2.1 c off e; omega, fun c off e => by have := hap2.2.2 c off e; omega⟩,
            ⟨fun c off e => by have := hap2.1 c off e; omega, fun c off e => by have := hap2.2.1 c off e; omega, fun c off e => by have := hap2.2.2 c off e; omega⟩⟩
          have HAwb : Hid (FromB (w.heap.size + 2) b1 b2 b3) := ⟨fun c off e => by have := hap2.1 c off e; omega, fun c off e => by have := hap2.2.1 c off e; omega, fun c off e => by have := hap2.2.2 c off e; omega⟩
          have HF : Hid (E ≠ 0 → (F, H) = stepP N sN tN L (F, H) r) := hF
          have HT : Hid (E = 0 → n' = N ∧ s' = sN ∧ t' = tN ∧ L' = L ∧ (F', H') = stepP N sN tN L (F, H) r) := hT
          clear hb2 hNew hT hF hap2 r0 r1 r2 r3 p1 p2 p3 p4 p5 p6 hcall HRest P0 HIn HB c0
          by_cases hE0 : E = 0
          · subst hE0
            obtain ⟨rfl, rfl, rfl, rfl, hst⟩ := HT.out rfl
            have HSt : Hid ((F', H') = stepP N sN tN L' (F, H) r) := hst
            have g0 : ((0 : Int) == 0) = true := rfl
            have hrs := step_reach (run_reach ((xs.take k).map (stepN N L')) (newF sN L') (newH N sN) HR0.out).1 r
            rw [show ((runP N sN tN L' (newF sN L', newH N sN) ((xs.take k).map (stepN N L'))).1, (runP N sN tN L' (newF sN L', newH N sN) ((xs.take k).map (stepN N L'))).2) = (F, H) from HRun.out.symm, ← hst] at hrs
            have hfl' : F'.length = L'.length := hrs.1.ok.flen
            have hhl' : H'.length = N := hrs.1.ok.hlen
            rw [hfl', hhl']
            clear hst hrs HT HF
            go_wp2_with (first
              | (refine wpList_store_push rfl _ _ rfl wr.heap.size _ _ _ _ _ _ _ _ _ _ _ _ _ _ _ _ _ _ rfl rfl xq ?_; intro w3 ho3 yq hs3; have hz3 := ho3.size; have yp := ho3.blk xp hqp; obtain ⟨⟨q0, q1, q2, q3, q4, q5⟩, _⟩ := blk6 yq; clear hs3)
              | (refine wpList_store_push rfl _ _ rfl w1.heap.size _ _ _ _ _ _ _ _ _ _ _ _ _ _ _ _ _ _ rfl rfl yp ?_; intro w4 ho4 zp hs4; have hz4 := ho4.size; clear hs4))
            go_roundw
            case rel =>
              refine ⟨k + 1, dn + 1, b1, d1, b2, d2, b3, d3, F', H', HLt.out, by go_num, rfl, ⟨by omega, by omega⟩, zp, ?_, HAq.out.2, HWb.out.le (by omega), HAwb, ?_, ?_, by omega⟩
              · exact (HNew.out.only ho3 HAq.out.1.1 HAq.out.1.2.1 HAq.out.1.2.2).only ho4 HAq.out.2.1 HAq.out.2.2.1 HAq.out.2.2.2
              · exact HSt.out.trans HRun2.out.symm
              · exact (HB2.out.trans (ho3.below (by omega) (by omega))).trans (ho4.below (Nat.le_refl _) (by omega))
            case measure => have := HLt.out; simp [intOf]; omega
          · have g0 : (E == 0) = false := by simpa using hE0
            have HSt : Hid ((F, H) = stepP N sN tN L (F, H) r) := HF.out hE0
            clear HT HF hE0
            go_wp2_with (first
              | (refine wpList_store_push rfl _ _ rfl wr.heap.size _ _ _ _ _ _ _ _ _ _ _ _ _ _ _ _ _ _ rfl rfl xq ?_; intro w3 ho3 yq hs3; have hz3 := ho3.size; have yp := ho3.blk xp hqp; clear hs3))
            go_roundw
            case rel =>
              refine ⟨k + 1, dn, a1, c1, a2, c2, a3, c3, F, H, HLt.out, by go_num, rfl, ⟨by omega, by omega⟩, yp, ?_, HAp, HLo.out.le (by omega), HAw, ?_, ?_, by omega⟩
              · exact HIn2.out.only ho3 HApq.out.1 HApq.out.2.1 HApq.out.2.2
              · exact HSt.out.trans HRun2.out.symm
              · exact HB2.out.trans (ho3.below (by omega) (by omega))
            case measure => have := HLt.out; simp [intOf]; omega
      · have hkk : k = xs.length := by omega
        subst hkk
        clear r0 r1 r2 r3
        obtain ⟨⟨p1, p2, p3, p4, p5, p6⟩, _⟩ := blk6 p0
        have y2 := blk_below HB.out Y1.out (by omega)
        have hRun := HRun.out
        rw [List.take_length] at hRun
        have hrr := run_reach (xs.map (stepN N L)) (newF sN L) (newH N sN) HR0.out
        rw [← hRun] at hrr
        have hfl : F.length = L.length := hrr.1.ok.flen
        have hhl : H.length = N := hrr.1.ok.hlen
        have HRun2 : Hid ((F, H) = runP N sN tN L (newF sN L, newH N sN) (xs.map (stepN N L))) := hRun
        have hn1 : w.heap.size + 1 < wr.heap.size := by omega
        have HOld : Hid (Apart (w.heap.size + 1) a1 a2 a3) := HAw.out.apart (by omega)
        clear hrr hRun HRun
        go_wp2_with (first
          | (refine wpList_store_push rfl _ _ rfl (w.heap.size + 1) _ _ _ _ _ _ _ _ _ _ _ _ _ _ _ _ _ _ rfl rfl y2 ?_; intro w4 ho4 zp hs4; have hz4 := ho4.size; clear hs4))
        obtain ⟨⟨q0, q1, q2, q3, q4, q5⟩, _⟩ := blk6 zp
        refine bodyPost_ret (v := .tuple #[.agg #[.int .i64 (N : Int), .int .i64 (sN : Int), .int .i64 (tN : Int), .slice a1 L.length c1, .slice a2 L.length c2, .slice a3 N c3], .int .i64 dn, .bool true]) (by simp [results, Try.results8, go_sem, q0, q1, q2, q3, q4, q5]) rfl ⟨?_, N, sN, tN, a1, c1, L, a2, c2, F, a3, c3, H, dn, true, by rw [hfl, hhl], ?_, HLo.out.le hz4, HAw.out.le (by omega), fun h => absurd HE.out h, fun _ => ⟨rfl, rfl, rfl, rfl, rfl, HRun2.out⟩⟩
        · exact (HB1.out.trans (HB.out.mono (by omega))).trans (ho4.below (by omega) (by omega))
        · exact HIn.out.only ho4 HOld.out.1 HOld.out.2.1 HOld.out.2.2
  · have h00 : (netErr n s t l != 0) = true := by simpa using hE
    have HE : Hid (netErr n s t l ≠ 0) := hE
    have HE0 : Hid (netErr n s t l ≠ 0) := hE
    have y2 := blk_old Y1.out (.cells #[.int .i64 n', .int .i64 s', .int .i64 t', .slice a1 L.length c1, .slice a2 F.length c2, .slice a3 H.length c3] 28)
    have hn1 : w.heap.size + 1 < w1.heap.size := by omega
    have HFe : Hid (FromB (w.heap.size + 2) a1 a2 a3) := ⟨fun c off e => by have := HN.out.arcs.from c off e; omega, fun c off e => by have := HN.out.flow.from c off e; omega, fun c off e => by have := HN.out.hgt.from c off e; omega⟩
    have HAw : Hid (Apart (w.heap.size + 1) a1 a2 a3) := HFe.out.apart (by omega)
    have HIn : Hid (PushIn w1 a1 c1 L a2 c2 F a3 c3 H) := HN.out.arg
    have HWe : Hid (Within w1.heap.size a1 a2 a3) := ⟨HN.out.arcs.ltB, HN.out.flow.ltB, HN.out.hgt.ltB⟩
    obtain ⟨E, hEE⟩ : ∃ E, netErr n s t l = E := ⟨_, rfl⟩
    rw [hEE] at h00 HE ⊢
    clear hE hT HN hEE
    go_wp2_with (first
      | (refine wpList_store_push rfl _ _ rfl (w.heap.size + 1) _ _ _ _ _ _ _ _ _ _ _ _ _ _ _ _ _ _ rfl rfl y2 ?_; intro w4 ho4 zp hs4; have hz4 := ho4.size; clear hs4))
    obtain ⟨⟨q0, q1, q2, q3, q4, q5⟩, _⟩ := blk6 zp
    refine bodyPost_ret (v := .tuple #[.agg #[.int .i64 n', .int .i64 s', .int .i64 t', .slice a1 L.length c1, .slice a2 F.length c2, .slice a3 H.length c3], .int .i64 0, .bool false]) (by simp [results, Try.results8, go_sem, q0, q1, q2, q3, q4, q5]) rfl ⟨?_, n', s', t', a1, c1, L, a2, c2, F, a3, c3, H, 0, false, rfl, ?_, HWe.out.le (by simp at hz4; omega), HFe.out.le (by omega), fun _ => rfl, fun h => absurd h HE0.out⟩
    · exact (HB1.out.alloc HB1.out.size _).trans (ho4.below (by omega) (by simp; omega))
    · exact (HIn.out.alloc _).only ho4 HAw.out.1 HAw.out.2.1 HAw.out.2.2

end Go.Proofs.Ytgmifepfbcgfbaa
