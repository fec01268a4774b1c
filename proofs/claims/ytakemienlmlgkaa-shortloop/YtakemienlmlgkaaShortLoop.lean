/- The law ShortLoop, walked, out of the contract of Heights. -/
import Derived.Test.YtakemienlmlgkaaShortC
import Derived.Test.YtakemienlmlgkaaRest
import Derived.Test.YtakemienlmlgkaaAppJoin
import Derived.Test.YtakemienlmlgkaaRowK
import Derived.Deep.RegionHeld3
import Derived.BigRegion
namespace Go.Proofs.Ytakemienlmlgkaa
open Go.RowKit
set_option linter.unusedVariables false

def lpL : List Arc3 := [(0, 1, -2), (1, 0, 1)]
theorem lpL_neg : ∃ v : Int, (0 ≤ v ∧ v < 2) ∧ Neg lpL v :=
  ⟨0, by decide, 2, -1, (((Wl.start lpL 0).step (a := (0, 1, -2)) (by simp [lpL])).step (a := (1, 0, 1)) (by simp [lpL])).eq rfl (by decide), by decide⟩
theorem lpL_in {w : World} {ao : Option Addr} {cap : Nat} (hA : ArcsAt w ao lpL) (h1 : 2 ≤ cap) (h2 : cap ≤ maxLen) : GraphIn w ao cap lpL := by
  refine ⟨hA, h1, h2, fun e => ?_⟩
  obtain ⟨b, off, e', _⟩ := hA 0 (by decide)
  rw [e] at e'; cases e'

set_option maxHeartbeats 4000000 in
set_option maxRecDepth 100000 in
theorem ShortLoop_any (hC : HeightsC) (n : Int) (ao : Option Addr) (cap : Nat) (l : List Arc3) (ao1 : Option Addr) (cap1 : Nat) (st : List Int) (w : World) (hG : GraphIn w ao cap l) (hSt : IntsAt w ao1 st) (hstm : st.length ≤ maxLen) :
    Calls Try.prog 8 #[.agg #[.int .i64 n, .slice ao l.length cap], .slice ao1 st.length cap1] w fun e w' => e = .returned (.bool true) ∧ Below w.heap.size w w' := by
  have hm := hG.len
  unfold maxLen at hstm
  have hG0 := hG.alloc (.cells #[.int .i64 n, .slice ao l.length cap] 24)
  have hS0 := hSt.alloc (.cells #[.int .i64 n, .slice ao l.length cap] 24)
  have x0 := blk_new w (.cells #[.int .i64 n, .slice ao l.length cap] 24)
  have h00 : ((0 : Int) != 0) = false := rfl
  have h66 : ((6 : Int) != 6) = false := rfl
  clear hSt
  go_enter Try.func8, Try.ntmps8
  go_wp2_with fail
  have hL := arcs_new (w.alloc (.cells #[.int .i64 n, .slice ao l.length cap] 24)) lpL 53
  rw [World.size_alloc] at hL
  refine (arcs_any _ 2 lpL _ hL (by decide)).mono ?_
  rintro e w1 ⟨hb1, aoL, capL, rfl, hA', hfr, hcl, hcm⟩
  have hz1 := hb1.size
  simp only [World.size_alloc] at hz1 hb1 hfr
  have hll : lpL.length = 2 := rfl
  rw [hll] at hcl ⊢
  have x1 := blk_below hb1 (blk_old x0 _) (by omega)
  have hG1 := (hG0.alloc _).below hb1 (by simp)
  have hS1 := (hS0.alloc _).below hb1 (by simp)
  have hbb1 : Below w.heap.size w w1 := (((below_one w _).alloc (by simp) _).trans (hb1.mono (by omega)))
  have hGL := (lpL_in hA' hcl hcm).alloc (.cells #[.int .i64 2, .slice aoL 2 capL] 24)
  have y1 := blk_new w1 (.cells #[.int .i64 2, .slice aoL 2 capL] 24)
  clear hb1 x0 hG0 hS0 hL hfr hA'
  obtain ⟨r0, r1, f0, f1⟩ := blk2 y1
  go_wp2_with fail
  refine (hC 2 aoL capL lpL _ hGL).mono ?_
  rintro e w2 ⟨hb2, a0, c0, H0, err0, rfl, _, hS0⟩
  obtain rfl : err0 = 6 := hS0.loop (by decide) lpL_neg
  have hz2 := hb2.size
  simp only [World.size_alloc] at hz2 hb2
  have x2 := blk_below hb2 (blk_old x1 _) (by omega)
  have hG2 := (hG1.alloc _).below hb2 (by simp)
  have hSt2 := (hS1.alloc _).below hb2 (by simp)
  have hbb2 := hbb1.trans (((below_one w1 _).trans (hb2.mono (by omega))).mono (by omega))
  clear hb2 x1 hG1 hbb1 r0 r1 f0 f1 hS1 y1 hGL hS0
  obtain ⟨r0, r1, f0, f1⟩ := blk2 x2
  go_wp2_with fail
  refine (hC n ao cap l _ hG2).mono ?_
  rintro e w3 ⟨hb3, a1, c1, F, err, rfl, hF3, hS3⟩
  have hz3 := hb3.size
  have x3 := blk_below hb3 x2 (by omega)
  have hG3 := hG2.below hb3 (by omega)
  have hSt3 := hSt2.below hb3 (by omega)
  have hbb3 := hbb2.trans (hb3.mono (by omega))
  clear hb3 x2 hG2 hbb2 r0 r1 f0 f1 hSt2
  obtain ⟨r0, r1, f0, f1⟩ := blk2 x3
  by_cases hE : err = 0
  · subst hE
    obtain ⟨hg, hno, hH⟩ := hS3.right
    obtain ⟨⟨hn1, hn2'⟩, hlen, hnodes⟩ := err_ok hg
    obtain ⟨N, rfl⟩ := Int.eq_ofNat_of_zero_le (show 0 ≤ n by omega)
    rw [Int.toNat_natCast] at hH
    have HL3 : Hid (∀ a ∈ l, (0 ≤ a.1 ∧ a.1 < (N : Int)) ∧ (0 ≤ a.2.1 ∧ a.2.1 < (N : Int)) ∧ -10000 ≤ a.2.2 ∧ a.2.2 ≤ 10000) := hnodes
    have HNo : Hid (¬ ∃ v, (0 ≤ v ∧ v < (N : Int)) ∧ Neg l v) := hno
    have HFl : Hid (F.length = N) := hH.len
    have hNN : ((N : Int) != (N : Int)) = false := by simp
    have hNN' : ((N : Int) == (N : Int)) = true := by simp
    have hw3 : w.heap.size < w3.heap.size := by omega
    have HX : Hid (w3.heap[w.heap.size]? = some (.cells #[.int .i64 (N : Int), .slice ao l.length cap] 24 (0, 0))) := x3
    rw [HFl.out]
    by_cases hl0 : l.length = 0
    · have g0 : ((l.length : Int) == 0) = true := by simp [hl0]
      clear hl0 hH hF3 hG3 hSt3 hS3 hnodes x3 hno
      go_wp2
      all_goals
        go_ret
        exact ⟨rfl, hbb3⟩
    · have g0 : ((l.length : Int) == 0) = false := by rw [beq_eq_false_iff_ne]; omega
      by_cases hsl : 10000 < st.length
      · have g1 : decide ((10000 : Int) < (st.length : Int)) = true := by simp; omega
        clear hl0 hH hF3 hG3 hSt3 hS3 hnodes x3 hno
        go_wp2
        all_goals
          go_ret
          exact ⟨rfl, hbb3⟩
      · have g1 : decide ((10000 : Int) < (st.length : Int)) = false := by simp; omega
        have g1' : decide (10000 < st.length) = false := by simp; omega
        obtain ⟨bA, oA, rfl, hbA, c00, _, _⟩ := hG3.arcs 0 (by omega)
        have hz0 := hnodes _ (at3_mem l 0 (by omega))
        obtain ⟨z, hz⟩ := Int.eq_ofNat_of_zero_le hz0.1.1
        rw [hz, Nat.zero_mul, Nat.add_zero] at c00
        have hzN : z < N := by omega
        have HA : Hid (ArcsAt w3 (some ⟨bA, oA, none⟩) l) := hG3.arcs
        have HSt : Hid (IntsAt w3 ao1 st) := hSt3
        have hl1 : 0 < l.length := by omega
        have hst4 : st.length ≤ 10000 := by omega
        clear hl0 hH hF3 hG3 hSt3 hS3 hnodes x3 hsl hno hz0 hz
        go_wp2
        go_loopw [11, 12, 68] (fun va vn i wr => ∃ (k cnt u : Nat) (x : Int), k ≤ st.length ∧ cnt ≤ k ∧ va = .int .i64 u ∧ vn = .int .i64 x ∧ i = .int .i64 k ∧ u < N ∧ Wl l z cnt x u ∧ Below w3.heap.size w3 wr) (fun _ _ i _ => st.length - (intOf i).toNat)
        case atStart => exact ⟨0, 0, z, 0, Nat.zero_le _, Nat.le_refl _, rfl, rfl, rfl, hzN, Wl.start l z, Below.refl _ _⟩
        case round =>
          obtain ⟨k, cnt, u, x, hk, hcnt, rfl, rfl, rfl, hu, hwk, hB⟩ := hrel
          clear r0 r1 f0 f1 c00
          have hz := hB.size
          have x5 := blk_below hB HX.out hw3
          obtain ⟨r0, r1, f0, f1⟩ := blk2 x5
          by_cases hkl : k < st.length
          · obtain ⟨bs, os, rfl, hbs, cs⟩ := HSt.out.below hB (Nat.le_refl _) k hkl
            obtain ⟨q, hq⟩ : ∃ q, ati st k = q := ⟨_, rfl⟩
            rw [hq] at cs
            have hri := restV_in q hl1
            obtain ⟨m, hm0⟩ : ∃ m : Nat, restV q l.length = m := ⟨(restV q l.length).toNat, by omega⟩
            have hml : m < l.length := by omega
            obtain ⟨ba, oa, e1, hba, d0, d1, d2⟩ := HA.out.below hB (Nat.le_refl _) m hml
            cases e1
            have hmem := at3_mem l m hml
            obtain ⟨arc, harc⟩ : ∃ arc, at3 l m = arc := ⟨_, rfl⟩
            rw [harc] at d0 d1 d2 hmem
            obtain ⟨f, t, y⟩ := arc
            obtain ⟨⟨p1, p2⟩, ⟨p3, p4⟩, p5, p6⟩ := HL3.out _ hmem
            simp only at d0 d1 d2 p1 p2 p3 p4 p5 p6
            obtain ⟨f, rfl⟩ := Int.eq_ofNat_of_zero_le p1
            obtain ⟨t, rfl⟩ := Int.eq_ofNat_of_zero_le p3
            have hfN : f < N := by omega
            have htN : t < N := by omega
            have hbx := hwk.bound (M := 10000) fun a ha => (HL3.out a ha).2.2
            have hbx1 : -100000000 ≤ x ∧ x ≤ 100000000 := by omega
            have HW : Hid (Wl l z cnt x u) := hwk
            have HW1 : Hid (u = f → Wl l z (cnt + 1) (x + y) t) := fun e => (show Wl l z cnt x ((f : Int), (t : Int), y).1 by subst e; exact hwk).step (a := ((f : Int), (t : Int), y)) hmem
            have HBr : Hid (Below w3.heap.size w3 wr) := hB
            have hwr : w.heap.size < wr.heap.size := by omega
            have HRest : Hid (∀ x : World, Calls Try.prog 19 #[.int .i64 q, .int .i64 (l.length : Int)] x fun e w' => e = .returned (.int .i64 (m : Int)) ∧ w' = x) := fun x => by
              have := rest_any q l.length hl1 (by omega) x
              rwa [hm0] at this
            have SSx : Hid (∀ z : World, Below wr.heap.size wr z → Below wr.heap.size wr z ∧ z.cell? ⟨w.heap.size, 0, none⟩ = some (.int .i64 (N : Int)) ∧ z.cell? ⟨w.heap.size, 1, none⟩ = some (.slice (some ⟨bA, oA, none⟩) l.length cap) ∧ z.cell? ⟨bA, oA + m * 3, none⟩ = some (.int .i64 (f : Int)) ∧ z.cell? ⟨bA, oA + m * 3 + 1, none⟩ = some (.int .i64 (t : Int)) ∧ z.cell? ⟨bA, oA + m * 3 + 2, none⟩ = some (.int .i64 y)) := fun z h => ⟨h, later h r0 hwr, later h r1 hwr, later h d0 hba, later h d1 hba, later h d2 hba⟩
            clear hwk hB hmem harc x5 hq hm0 hri hbx
            go_wp2
            go_cut [15, 68] from 68 to 98 (fun s i wx => i = .int .i64 (k : Int) ∧ ∃ p, s = .pointer (some ⟨p, 0, none⟩) ∧ wx.heap[p]? = some (.cells #[.int .i64 (f : Int), .int .i64 (t : Int), .int .i64 y] 44 (0, 0)) ∧ Below w3.heap.size w3 wx)
            case first =>
              go_region_held3 (fun z => Below wr.heap.size wr z ∧ z.cell? ⟨w.heap.size, 0, none⟩ = some (.int .i64 (N : Int)) ∧ z.cell? ⟨w.heap.size, 1, none⟩ = some (.slice (some ⟨bA, oA, none⟩) l.length cap) ∧ z.cell? ⟨bA, oA + m * 3, none⟩ = some (.int .i64 (f : Int)) ∧ z.cell? ⟨bA, oA + m * 3 + 1, none⟩ = some (.int .i64 (t : Int)) ∧ z.cell? ⟨bA, oA + m * 3 + 2, none⟩ = some (.int .i64 y))
                (first
                  | assumption
                  | exact SSx.out _ ((Below.refl _ wr).drew)
                  | exact SSx.out _ ((below_one wr _).drew))
                (first
                  | (go_at_call 19; refine Calls.mono (HRest.out _) ?_; rintro e w9 ⟨rfl, hw9⟩; subst hw9))
              all_goals
                go_wp2_with fail
                go_meet
                case rel => exact ⟨rfl, wr.heap.size, rfl, blk_new _ _, (HBr.out.alloc (by omega) _).drew⟩
            case rest =>
              obtain ⟨rfl, p, rfl, hp, hB⟩ := hcut
              clear r0 r1 f0 f1 HRest SSx d0 d1 d2
              obtain ⟨d0, d1, d2⟩ := blk3 hp
              have hpl : p < wc.heap.size := (Array.getElem?_eq_some_iff.1 hp).1
              have HBc : Hid (Below w3.heap.size w3 wc) := hB
              by_cases huf : u = f
              · have hwf := HW1.out huf
                subst huf
                have HWn : Hid (Wl l z (cnt + 1) (x + y) t) := hwf
                have e1 : ((u : Int) != (u : Int)) = false := by simp
                have hwxy : IntKind.i64.wrap (x + y) = x + y := by rw [IntKind.wrap_i64]; omega
                by_cases htz : t = z
                · subst htz
                  have hnn : ¬ x + y < 0 := fun h => HNo.out ⟨t, ⟨by omega, by omega⟩, _, _, HWn.out, h⟩
                  have e2 : decide (x + y < 0) = false := decide_eq_false hnn
                  have e3 : ((t : Int) == (t : Int)) = true := by simp
                  clear hwf HW1 hB hp hnn
                  go_wp2
                  go_quiet (fail)
                  go_wp2
                  go_roundw
                  case rel => exact ⟨k + 1, cnt + 1, t, x + y, by omega, by omega, by go_num, rfl, by go_num, htN, HWn.out, below_drewN HBc.out _⟩
                  case measure => simp [intOf]; omega
                · have e3 : ((t : Int) == (z : Int)) = false := by rw [beq_eq_false_iff_ne]; omega
                  clear hwf HW1 hB hp
                  go_wp2
                  go_quiet (fail)
                  go_wp2
                  go_roundw
                  case rel => exact ⟨k + 1, cnt + 1, t, x + y, by omega, by omega, by go_num, rfl, by go_num, htN, HWn.out, below_drewN HBc.out _⟩
                  case measure => simp [intOf]; omega
              · have e1 : ((f : Int) != (u : Int)) = true := by rw [bne_iff_ne]; omega
                clear HW1 hB hp
                go_wp2
                go_roundw
                case rel => exact ⟨k + 1, cnt, u, x, by omega, by omega, rfl, rfl, by go_num, hu, HW.out, HBc.out⟩
                case measure => simp [intOf]; omega
          · have hbb4 := hbb3.trans (hB.mono (by omega))
            have hkk : k = st.length := by omega
            subst hkk
            clear hB x5
            go_wp2
            go_ret
            exact ⟨rfl, hbb4⟩
  · have hE' : (err != 0) = true := by simpa using hE
    clear hE hS3
    go_wp2
    go_ret
    exact ⟨rfl, hbb3⟩

end Go.Proofs.Ytakemienlmlgkaa
