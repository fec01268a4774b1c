/- The law ShortWay, walked, out of the contract of From. -/
import Derived.Test.YtakemienlmlgkaaShortC
import Derived.Test.YtakemienlmlgkaaRest
import Derived.Test.YtakemienlmlgkaaAppJoin
import Derived.Test.YtakemienlmlgkaaRowK
import Derived.Deep.RegionHeld3
import Derived.BigRegion
namespace Go.Proofs.Ytakemienlmlgkaa
open Go.RowKit
set_option linter.unusedVariables false

set_option maxHeartbeats 4000000 in
set_option maxRecDepth 100000 in
theorem ShortWay_any (hC : FromC) (n s : Int) (ao : Option Addr) (cap : Nat) (l : List Arc3) (ao1 : Option Addr) (cap1 : Nat) (st : List Int) (w : World) (hG : GraphIn w ao cap l) (hSt : IntsAt w ao1 st) (hstm : st.length ≤ maxLen) :
    Calls Try.prog 5 #[.agg #[.int .i64 n, .slice ao l.length cap], .int .i64 s, .slice ao1 st.length cap1] w fun e w' => e = .returned (.bool true) ∧ Below w.heap.size w w' := by
  have hm := hG.len
  unfold maxLen at hstm
  have hG0 := hG.alloc (.cells #[.int .i64 n, .slice ao l.length cap] 24)
  have hS0 := hSt.alloc (.cells #[.int .i64 n, .slice ao l.length cap] 24)
  have x0 := blk_new w (.cells #[.int .i64 n, .slice ao l.length cap] 24)
  have h00 : ((0 : Int) != 0) = false := rfl
  clear hSt
  go_enter Try.func5, Try.ntmps5
  go_wp2_with fail
  refine (shorts_any hC _).mono ?_
  rintro e w1 ⟨rfl, hb1⟩
  simp only [World.size_alloc] at hb1
  have hz1 := hb1.size
  simp only [World.size_alloc] at hz1
  have x1 := blk_below hb1 x0 (by omega)
  have hG1 := hG0.below hb1 (by simp)
  have hS1 := hS0.below hb1 (by simp)
  have hbb1 := below_in hb1 (by omega)
  clear hb1 x0 hG0 hS0
  obtain ⟨r0, r1, f0, f1⟩ := blk2 x1
  go_wp2_with fail
  refine (hC n s ao cap l _ hG1).mono ?_
  rintro e w2 ⟨hb2, a1, c1, F, a2, c2, K, err, rfl, hF2, hK2, hS2⟩
  have hz2 := hb2.size
  have x2 := blk_below hb2 x1 (by omega)
  have hG2 := hG1.below hb2 (by omega)
  have hSt2 := hS1.below hb2 (by omega)
  have hbb2 := hbb1.trans (hb2.mono (by omega))
  clear hb2 x1 hG1 hbb1 r0 r1 f0 f1 hS1
  obtain ⟨r0, r1, f0, f1⟩ := blk2 x2
  by_cases hE : err = 0
  · subst hE
    obtain ⟨hg, ⟨hs0, hs1⟩, _, hFr⟩ := hS2.right
    obtain ⟨⟨hn1, hn2'⟩, hlen, hnodes⟩ := err_ok hg
    obtain ⟨N, rfl⟩ := Int.eq_ofNat_of_zero_le (show 0 ≤ n by omega)
    obtain ⟨s, rfl⟩ := Int.eq_ofNat_of_zero_le hs0
    rw [Int.toNat_natCast] at hFr
    have hsN : s < N := by omega
    have HL3 : Hid (∀ a ∈ l, (0 ≤ a.1 ∧ a.1 < (N : Int)) ∧ (0 ≤ a.2.1 ∧ a.2.1 < (N : Int)) ∧ -10000 ≤ a.2.2 ∧ a.2.2 ≤ 10000) := hnodes
    have HFr : Hid (FromIs N l s F K) := hFr
    have HFl : Hid (F.length = N) := hFr.lenF
    have HKl : Hid (K.length = N) := hFr.lenK
    have hNN : ((N : Int) != (N : Int)) = false := by simp
    have hNN' : ((N : Int) == (N : Int)) = true := by simp
    have hw2 : w.heap.size < w2.heap.size := by omega
    have HX : Hid (w2.heap[w.heap.size]? = some (.cells #[.int .i64 (N : Int), .slice ao l.length cap] 24 (0, 0))) := x2
    rw [HFl.out, HKl.out]
    by_cases hl0 : l.length = 0
    · have g0 : ((l.length : Int) == 0) = true := by simp [hl0]
      clear hl0 hFr hF2 hK2 hG2 hSt2 hS2 hnodes x2
      go_wp2
      all_goals
        go_ret
        exact ⟨rfl, hbb2⟩
    · have g0 : ((l.length : Int) == 0) = false := by rw [beq_eq_false_iff_ne]; omega
      by_cases hsl : 10000 < st.length
      · have g1 : decide ((10000 : Int) < (st.length : Int)) = true := by simp; omega
        clear hl0 hFr hF2 hK2 hG2 hSt2 hS2 hnodes x2
        go_wp2
        all_goals
          go_ret
          exact ⟨rfl, hbb2⟩
      · have g1 : decide ((10000 : Int) < (st.length : Int)) = false := by simp; omega
        have g1' : decide (10000 < st.length) = false := by simp; omega
        obtain ⟨bF, oF, rfl, hbF, _⟩ := hF2 s (by rw [HFl.out]; exact hsN)
        obtain ⟨bK, oK, rfl, hbK, _⟩ := hK2 s (by rw [HKl.out]; exact hsN)
        have HF2 : Hid (∀ v, v < N → w2.cell? ⟨bF, oF + v, none⟩ = some (.int .i64 (ati F v))) := fun v hv => by
          obtain ⟨b', o', e', _, c⟩ := hF2 v (by rw [HFl.out]; exact hv)
          cases e'
          exact c
        have HK2 : Hid (∀ v, v < N → w2.cell? ⟨bK, oK + v, none⟩ = some (.bool (atb K v))) := fun v hv => by
          obtain ⟨b', o', e', _, c⟩ := hK2 v (by rw [HKl.out]; exact hv)
          cases e'
          exact c
        obtain ⟨bA, oA, rfl, hbA, _⟩ := hG2.arcs 0 (by omega)
        have HA : Hid (ArcsAt w2 (some ⟨bA, oA, none⟩) l) := hG2.arcs
        have HSt : Hid (IntsAt w2 ao1 st) := hSt2
        have hl1 : 0 < l.length := by omega
        have hst4 : st.length ≤ 10000 := by omega
        clear hl0 hFr hF2 hK2 hG2 hSt2 hS2 hnodes x2 hsl
        go_wp2
        go_loopw [10, 11, 54] (fun va vn i wr => ∃ (k cnt u : Nat) (x : Int), k ≤ st.length ∧ cnt ≤ k ∧ va = .int .i64 u ∧ vn = .int .i64 x ∧ i = .int .i64 k ∧ u < N ∧ Wl l s cnt x u ∧ Below w2.heap.size w2 wr) (fun _ _ i _ => st.length - (intOf i).toNat)
        case atStart => exact ⟨0, 0, s, 0, Nat.zero_le _, Nat.le_refl _, rfl, rfl, rfl, hsN, Wl.start l s, Below.refl _ _⟩
        case round =>
          obtain ⟨k, cnt, u, x, hk, hcnt, rfl, rfl, rfl, hu, hwk, hB⟩ := hrel
          clear r0 r1 f0 f1
          have hz := hB.size
          have x5 := blk_below hB HX.out hw2
          obtain ⟨r0, r1, f0, f1⟩ := blk2 x5
          by_cases hkl : k < st.length
          · obtain ⟨bs, os, rfl, hbs, cs⟩ := HSt.out.below hB (Nat.le_refl _) k hkl
            obtain ⟨q, hq⟩ : ∃ q, ati st k = q := ⟨_, rfl⟩
            rw [hq] at cs
            have hri := restV_in q hl1
            obtain ⟨m, hm0⟩ : ∃ m : Nat, restV q l.length = m := ⟨(restV q l.length).toNat, by omega⟩
            have hml : m < l.length := by omega
            obtain ⟨ba, oa, e1, hba, d0, d1, d2⟩ := HA.out.below hB (Nat.le_refl _) m hml
            cases e1
            have hmem := at3_mem l m hml
            obtain ⟨arc, harc⟩ : ∃ arc, at3 l m = arc := ⟨_, rfl⟩
            rw [harc] at d0 d1 d2 hmem
            obtain ⟨f, t, y⟩ := arc
            obtain ⟨⟨p1, p2⟩, ⟨p3, p4⟩, p5, p6⟩ := HL3.out _ hmem
            simp only at d0 d1 d2 p1 p2 p3 p4 p5 p6
            obtain ⟨f, rfl⟩ := Int.eq_ofNat_of_zero_le p1
            obtain ⟨t, rfl⟩ := Int.eq_ofNat_of_zero_le p3
            have hfN : f < N := by omega
            have htN : t < N := by omega
            have hbx := hwk.bound (M := 10000) fun a ha => (HL3.out a ha).2.2
            have hbx1 : -100000000 ≤ x ∧ x ≤ 100000000 := by omega
            have HW : Hid (Wl l s cnt x u) := hwk
            have HW1 : Hid (u = f → Wl l s (cnt + 1) (x + y) t) := fun e => (show Wl l s cnt x ((f : Int), (t : Int), y).1 by subst e; exact hwk).step (a := ((f : Int), (t : Int), y)) hmem
            have HBr : Hid (Below w2.heap.size w2 wr) := hB
            have hwr : w.heap.size < wr.heap.size := by omega
            have HRest : Hid (∀ x : World, Calls Try.prog 19 #[.int .i64 q, .int .i64 (l.length : Int)] x fun e w' => e = .returned (.int .i64 (m : Int)) ∧ w' = x) := fun x => by
              have := rest_any q l.length hl1 (by omega) x
              rwa [hm0] at this
            have SSx : Hid (∀ z : World, Below wr.heap.size wr z → Below wr.heap.size wr z ∧ z.cell? ⟨w.heap.size, 0, none⟩ = some (.int .i64 (N : Int)) ∧ z.cell? ⟨w.heap.size, 1, none⟩ = some (.slice (some ⟨bA, oA, none⟩) l.length cap) ∧ z.cell? ⟨bA, oA + m * 3, none⟩ = some (.int .i64 (f : Int)) ∧ z.cell? ⟨bA, oA + m * 3 + 1, none⟩ = some (.int .i64 (t : Int)) ∧ z.cell? ⟨bA, oA + m * 3 + 2, none⟩ = some (.int .i64 y)) := fun z h => ⟨h, later h r0 hwr, later h r1 hwr, later h d0 hba, later h d1 hba, later h d2 hba⟩
            clear hwk hB hmem harc x5 hq hm0 hri hbx
            go_wp2
            go_cut [14, 54] from 54 to 104 (fun s i wx => i = .int .i64 (k : Int) ∧ ∃ p, s = .pointer (some ⟨p, 0, none⟩) ∧ wx.heap[p]? = some (.cells #[.int .i64 (f : Int), .int .i64 (t : Int), .int .i64 y] 44 (0, 0)) ∧ Below w2.heap.size w2 wx)
            case first =>
              go_region_held3 (fun z => Below wr.heap.size wr z ∧ z.cell? ⟨w.heap.size, 0, none⟩ = some (.int .i64 (N : Int)) ∧ z.cell? ⟨w.heap.size, 1, none⟩ = some (.slice (some ⟨bA, oA, none⟩) l.length cap) ∧ z.cell? ⟨bA, oA + m * 3, none⟩ = some (.int .i64 (f : Int)) ∧ z.cell? ⟨bA, oA + m * 3 + 1, none⟩ = some (.int .i64 (t : Int)) ∧ z.cell? ⟨bA, oA + m * 3 + 2, none⟩ = some (.int .i64 y))
                (first
                  | assumption
                  | exact SSx.out _ ((Below.refl _ wr).drew)
                  | exact SSx.out _ ((below_one wr _).drew))
                (first
                  | (go_at_call 19; refine Calls.mono (HRest.out _) ?_; rintro e w9 ⟨rfl, hw9⟩; subst hw9))
              all_goals
                go_wp2_with fail
                go_meet
                case rel => exact ⟨rfl, wr.heap.size, rfl, blk_new _ _, (HBr.out.alloc (by omega) _).drew⟩
            case rest =>
              obtain ⟨rfl, p, rfl, hp, hB⟩ := hcut
              clear r0 r1 f0 f1 HRest SSx d0 d1 d2
              obtain ⟨d0, d1, d2⟩ := blk3 hp
              have hpl : p < wc.heap.size := (Array.getElem?_eq_some_iff.1 hp).1
              have x6 := blk_below hB HX.out hw2
              obtain ⟨r0, r1, f0, f1⟩ := blk2 x6
              have hzc := hB.size
              have hwc : w.heap.size < wc.heap.size := by omega
              have HBc : Hid (Below w2.heap.size w2 wc) := hB
              by_cases huf : u = f
              · have hwf := HW1.out huf
                subst huf
                have HWn : Hid (Wl l s (cnt + 1) (x + y) t) := hwf
                have e1 : ((u : Int) != (u : Int)) = false := by simp
                have k1 := later hB (HK2.out t htN) hbK
                have k2 := later hB (HF2.out t htN) hbF
                rw [(HFr.out.known htN).2 ⟨_, _, hwf⟩] at k1
                have hle := HFr.out.le htN hwf
                generalize ati F t = z at *
                have e2 : decide (x + y < z) = false := by simp; omega
                have hbKc : bK < wc.heap.size := by omega
                have hbFc : bF < wc.heap.size := by omega
                have hwxy : IntKind.i64.wrap (x + y) = x + y := by rw [IntKind.wrap_i64]; omega
                clear hwf HW1 hle hB x6 hp
                go_wp2
                go_quiet (fail)
                go_wp2
                go_roundw
                case rel => exact ⟨k + 1, cnt + 1, t, x + y, by omega, by omega, by go_num, rfl, by go_num, htN, HWn.out, below_drewN HBc.out _⟩
                case measure => simp [intOf]; omega
              · have e1 : ((f : Int) != (u : Int)) = true := by rw [bne_iff_ne]; omega
                clear HW1 hB x6 hp
                go_wp2
                go_roundw
                case rel => exact ⟨k + 1, cnt, u, x, by omega, by omega, rfl, rfl, by go_num, hu, HW.out, HBc.out⟩
                case measure => simp [intOf]; omega
          · have hbb3 := hbb2.trans (hB.mono (by omega))
            have hkk : k = st.length := by omega
            subst hkk
            clear hB x5
            go_wp2
            go_ret
            exact ⟨rfl, hbb3⟩
  · have hE' : (err != 0) = true := by simpa using hE
    clear hE hS2
    go_wp2
    go_ret
    exact ⟨rfl, hbb2⟩

end Go.Proofs.Ytakemienlmlgkaa
