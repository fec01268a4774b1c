/- The law WalkSays, walked, out of the contracts of Far, Path and Parts. -/
import Derived.Test.YtbnagipapgonpaaWalkC
import Derived.Test.YtbnagipapgonpaaJoined
import Derived.Test.YtbnagipapgonpaaRefErr
import Derived.Test.YtbnagipapgonpaaSl
import Derived.Test.YtbnagipapgonpaaPMath
namespace Go.Proofs.Ytbnagipapgonpaa
open Go.RowKit
set_option linter.unusedVariables false

set_option maxHeartbeats 4000000 in
set_option maxRecDepth 100000 in
theorem WalkSays_any (hC1 : FarC) (hC2 : PathC) (hC3 : PartsC) (n s t : Int) (ao : Option Addr) (cap : Nat) (l : List Arc3) (w : World) (hG : GraphIn w ao cap l) :
    Calls Try.prog 3 #[.agg #[.int .i64 n, .slice ao l.length cap], .int .i64 s, .int .i64 t] w fun e w' => e = .returned (.bool true) ∧ Below w.heap.size w w' := by
  have hm := hG.len
  have hG0 := hG.alloc (.cells #[.int .i64 n, .slice ao l.length cap] 24)
  have x0 := blk_new w (.cells #[.int .i64 n, .slice ao l.length cap] 24)
  have h00 : ((0 : Int) != 0) = false := rfl
  have h00' : ((0 : Int) == 0) = true := rfl
  go_enter Try.func3, Try.ntmps3
  go_wp2_with fail
  refine (hC1 n s ao cap l _ hG0).mono ?_
  rintro e w1 ⟨hb1, ao1, cap1, F, rfl, hF1, hn1, hy1⟩
  simp only [World.size_alloc] at hb1
  have hz1 := hb1.size
  simp only [World.size_alloc] at hz1
  have x1 := blk_below hb1 x0 (by omega)
  have hG1 := hG0.below hb1 (by simp)
  have hbb1 := below_in hb1 (by omega)
  have HN1 : Hid (farErr n l s ≠ 0 → F = []) := hn1
  have HY1 : Hid (farErr n l s = 0 → FarIs n.toNat l s F) := hy1
  clear hb1 x0 hG0 hn1 hy1
  obtain ⟨r0, r1, f0, f1⟩ := blk2 x1
  generalize hfe : farErr n l s = fe at *
  have HFE : Hid (farErr n l s = fe) := hfe
  clear hfe
  go_wp2_with fail
  refine (hC2 n s t ao cap l _ hG1).mono ?_
  rintro e w2 ⟨hb2, ao2, cap2, P, err, rfl, hP2, hPm, hn2, hf2, ht2, hw2, hy2⟩
  have hz2 := hb2.size
  have x2 := blk_below hb2 x1 (by omega)
  have hG2 := hG1.below hb2 (by omega)
  have hF2 := hF1.below hb2 (by omega)
  have hbb2 := hbb1.trans (hb2.mono (by omega))
  have HN2 : Hid (err ≠ 0 → P = []) := hn2
  have HF2 : Hid (farErr n l s ≠ 0 → err = farErr n l s) := hf2
  have HT2 : Hid (farErr n l s = 0 → ¬ (0 ≤ t ∧ t < n) → err = 4) := ht2
  have HW2 : Hid (farErr n l s = 0 → 0 ≤ t ∧ t < n → (∀ k, ¬ Wk l s k t) → err = 5) := hw2
  have HY2 : Hid (farErr n l s = 0 → 0 ≤ t ∧ t < n → (∃ k, Wk l s k t) → err = 0 ∧ Chain l s P t ∧ ∀ k, Wk l s k t → P.length ≤ k) := hy2
  clear hb2 x1 hG1 hF1 hbb1 hn2 hf2 ht2 hw2 hy2 r0 r1 f0 f1
  obtain ⟨r0, r1, f0, f1⟩ := blk2 x2
  go_wp2_with fail
  refine (hC3 n ao cap l _ hG2).mono ?_
  rintro e w3 ⟨hb3, ao3, cap3, Q, rfl, hQ3, hn3, hy3⟩
  have hz3 := hb3.size
  have x3 := blk_below hb3 x2 (by omega)
  have hG3 := hG2.below hb3 (by omega)
  have hF3 := hF2.below hb3 (by omega)
  have hP3 := hP2.below hb3 (by omega)
  have hbb3 := hbb2.trans (hb3.mono (by omega))
  have HN3 : Hid (graphErr n (-10000) l ≠ 0 → Q = []) := hn3
  have HY3 : Hid (graphErr n (-10000) l = 0 → PartsIs n.toNat l Q) := hy3
  clear hb3 x2 hG2 hF2 hP2 hbb2 hn3 hy3 r0 r1 f0 f1
  obtain ⟨r0, r1, f0, f1⟩ := blk2 x3
  go_wp2_with fail
  refine (refLongErr_any n ao cap l w3 hm hG3.arcs).mono ?_
  rintro e w4 ⟨rfl, hb4⟩
  have hz4 := hb4.size
  have x4 := blk_below hb4 x3 (by omega)
  have hG4 := hG3.below hb4 (by omega)
  have hF4 := hF3.below hb4 (by omega)
  have hP4 := hP3.below hb4 (by omega)
  have hQ4 := hQ3.below hb4 (by omega)
  have hbb4 := hbb3.trans (hb4.mono (by omega))
  clear hb4 x3 hG3 hF3 hP3 hQ3 hbb3 r0 r1 f0 f1
  obtain ⟨r0, r1, f0, f1⟩ := blk2 x4
  by_cases hE : graphErr n (-10000) l = 0
  · obtain ⟨⟨hn1, hn2⟩, hlen, hnodes⟩ := err_ok hE
    obtain ⟨N, rfl⟩ := Int.eq_ofNat_of_zero_le (show 0 ≤ n by omega)
    have HL : Hid (∀ a ∈ l, (0 ≤ a.1 ∧ a.1 < (N : Int)) ∧ (0 ≤ a.2.1 ∧ a.2.1 < (N : Int))) := fun a ha => ⟨(hnodes a ha).1, (hnodes a ha).2.1⟩
    have hQ := HY3.out hE
    rw [Int.toNat_natCast] at hQ
    have HQ : Hid (PartsIs N l Q) := hQ
    have HE : Hid (graphErr N (-10000) l = 0) := hE
    rw [hE]
    rw [hQ.len]
    have hQl := hQ.len
    have HQl : Hid (Q.length = N) := hQl
    clear hE hnodes hQ HN3 HY3 hQl
    go_wp2_with fail
    refine (Joined_any N ao cap l w4 Q HQ.out hG4.arcs hG4.nil hlen (by omega) (by omega) HL.out).mono ?_
    rintro e w5 ⟨hb5, ao5, cap5, rfl, hJ5, _⟩
    have hz5 := hb5.size
    have x5 := blk_below hb5 x4 (by omega)
    have hG5 := hG4.below hb5 (by omega)
    have hF5 := hF4.below hb5 (by omega)
    have hP5 := hP4.below hb5 (by omega)
    have hQ5 := hQ4.below hb5 (by omega)
    have hbb5 := hbb4.trans (hb5.mono (by omega))
    clear hb5 x4 hG4 hF4 hP4 hQ4 hbb4 r0 r1 f0 f1
    have hEq := equalIntsB ao3 ao5 cap3 cap5 Q Q w5 (by rw [HQl.out]; unfold maxLen; omega) (by rw [HQl.out]; unfold maxLen; omega) hQ5 hJ5
    rw [decide_eq_true rfl, HQl.out] at hEq
    have HEq : Hid (Calls Try.prog 13 #[.slice ao3 N cap3, .slice ao5 N cap5] w5 fun e w' => e = .returned (.bool true) ∧ Below w5.heap.size w5 w') := hEq
    clear hEq hQ5 hJ5
    go_wp2_with fail
    refine Calls.mono HEq.out ?_
    rintro e w6 ⟨rfl, hb6⟩
    have hz6 := hb6.size
    have x6 := blk_below hb6 x5 (by omega)
    have hG6 := hG5.below hb6 (by omega)
    have hF6 := hF5.below hb6 (by omega)
    have hP6 := hP5.below hb6 (by omega)
    have hbb6 := hbb5.trans (hb6.mono (by omega))
    clear hb6 x5 hG5 hF5 hP5 hbb5 HEq
    obtain ⟨r0, r1, f0, f1⟩ := blk2 x6
    by_cases hs : 0 ≤ s ∧ s < (N : Int)
    · have hfe0 : fe = 0 := HFE.out.symm.trans (farErr_mk HE.out hs)
      subst hfe0
      obtain ⟨s, rfl⟩ := Int.eq_ofNat_of_zero_le hs.1
      have hsN : s < N := by omega
      have hsn : ¬ (s : Int) < 0 := by omega
      have hsN' : ¬ (N : Int) ≤ (s : Int) := by omega
      have hFar := HY1.out rfl
      rw [Int.toNat_natCast] at hFar
      have HFar : Hid (FarIs N l s F) := hFar
      have HFl : Hid (F.length = N) := hFar.len
      rw [HFl.out]
      clear hFar HN1 HY1 HF2
      go_wp2_with fail
      refine (Ways_any N ao cap l w6 hG6.arcs hm (by omega) (by omega) HL.out).mono ?_
      rintro e w7 ⟨hb7, D, R, M, rfl, hPM, M1, hI, hM⟩
      have hz7 := hb7.size
      have d1 := hPM.at hsN
      have hDl := hPM.outer.lt
      have HMr : Hid (w7.rowIs (R s) 3 N (fun j => .int .i64 (M s j))) := hPM.inner s hsN
      have hRB := hPM.low.2 s hsN
      have HMv : Hid (∀ k, k < N → M s k = if ati F k < 0 then noEnd else ati F k) := fun k hk => by
        rw [hM s k hsN hk]; exact flo_far hI (by omega) HL.out hsN HFar.out hk
      have HB7 : Hid (Below w6.heap.size w6 w7) := hb7
      have HX6 : Hid (w6.heap[w.heap.size]? = some (.cells #[.int .i64 (N : Int), .slice ao l.length cap] 24 (0, 0))) := x6
      have HF6 : Hid (IntsAt w6 ao1 F) := hF6
      have HP6 : Hid (IntsAt w6 ao2 P) := hP6
      have HG6 : Hid (ArcsAt w6 ao l) := hG6.arcs
      have hw6 : w.heap.size < w6.heap.size := by omega
      clear hb7 x6 hF6 hP6 hG6 hPM hI hM r0 r1 f0 f1
      go_wp2
      go_loopw [96] (fun i wr => ∃ k : Nat, k ≤ N ∧ i = .int .i64 k ∧ wr.rowIs (R s) 3 N (fun j => .int .i64 (if j < k then ati F j else M s j)) ∧ Below w6.heap.size w6 wr) (fun i _ => N - (intOf i).toNat)
      case atStart => exact ⟨0, Nat.zero_le _, rfl, HMr.out.congr fun j hj => by simp, HB7.out⟩
      case round =>
        obtain ⟨k, hk, rfl, hrow, hB⟩ := hrel
        clear HB7 HMr d1 hDl hz7
        have hz := hB.size
        have hRl := hrow.lt
        by_cases hlt : k < N
        · have q0 := hrow.cell (i := k) hlt
          have q1 := hrow.frozen k
          rw [if_neg (Nat.lt_irrefl k), HMv.out k hlt] at q0
          have hlow := HFar.out.bounds hlt
          have hup := HFar.out.lt HL.out hlt
          have HR : Hid (wr.rowIs (R s) 3 N (fun j => .int .i64 (if j < k then ati F j else M s j))) := hrow
          have HV := HMv.out k hlt
          obtain ⟨x, hx⟩ : ∃ x, ati F k = x := ⟨_, rfl⟩
          rw [hx] at q0 hlow hup HV
          have HX : Hid (ati F k = x ∧ M s k = if x < 0 then noEnd else x) := ⟨hx, HV⟩
          clear hrow hx HV
          by_cases hx0 : x < 0
          · rw [if_pos hx0, show noEnd = 1099511627776 from rfl] at q0
            have HX1 : Hid (x = -1) := by rw [Hid]; omega
            go_wp2
            go_roundw
            case rel =>
              refine ⟨k + 1, by omega, by go_num, (HR.out.set k _).congr fun j hj => ?_, hB.setCell (by simp; omega) _⟩
              by_cases e : j = k
              · subst e; simp [HX.out.1, HX1.out]
              · have : (j < k + 1) = (j < k) := by simp; omega
                simp [e, this]
            case measure => simp [intOf]; omega
          · rw [if_neg hx0] at q0
            have hx100 : ¬ 100 < x := by omega
            have HX1 : Hid (M s k = x) := by rw [Hid, HX.out.2, if_neg hx0]
            go_wp2
            go_roundw
            case rel =>
              refine ⟨k + 1, by omega, by go_num, HR.out.congr fun j hj => ?_, hB⟩
              by_cases e : j = k
              · subst e; simp [HX.out.1, HX1.out]
              · have : (j < k + 1) = (j < k) := by simp; omega
                simp [this]
            case measure => simp [intOf]; omega
        · have hkN : N = k := by omega
          subst hkN
          have hD : IntsAt wr (some ⟨R s, 0, none⟩) F := by
            have h1 : wr.rowIs (R s) 3 N (fun j => .int .i64 (ati F j)) := hrow.congr fun j hj => by simp [hj]
            have h2 := row_ints h1
            have h3 : (List.range N).map (ati F) = F := ext_ati (by simp [HFl.out]) fun v hv => by
              have hv' : v < N := by simpa using hv
              rw [ati_lt _ _ hv]; simp
            rwa [h3] at h2
          have x7 := blk_below hB HX6.out hw6
          obtain ⟨r0, r1, f0, f1⟩ := blk2 x7
          have hFr := HF6.out.below hB (Nat.le_refl _)
          have hEq := equalIntsB ao1 (some ⟨R s, 0, none⟩) cap1 N F F wr (by rw [HFl.out]; unfold maxLen; omega) (by rw [HFl.out]; unfold maxLen; omega) hFr hD
          rw [decide_eq_true rfl, HFl.out] at hEq
          have HEq : Hid (Calls Try.prog 13 #[.slice ao1 N cap1, .slice (some ⟨R s, 0, none⟩) N N] wr fun e w' => e = .returned (.bool true) ∧ Below wr.heap.size wr w') := hEq
          have HD : Hid (IntsAt wr (some ⟨R s, 0, none⟩) F) := hD
          clear hEq hFr hD hrow HMv
          go_wp2_with fail
          refine Calls.mono HEq.out ?_
          rintro e w8 ⟨rfl, hb8⟩
          have hz8 := hb8.size
          have x8 := blk_below hb8 x7 (by omega)
          have hB8 := hB.trans (hb8.mono (by omega))
          have hbb8 := hbb6.trans (hB8.mono (by omega))
          have HD8 : Hid (IntsAt w8 (some ⟨R s, 0, none⟩) F) := HD.out.below hb8 (Nat.le_refl _)
          have HP8 : Hid (IntsAt w8 ao2 P) := HP6.out.below hB8 (Nat.le_refl _)
          have HG8 : Hid (ArcsAt w8 ao l) := HG6.out.below hB8 (Nat.le_refl _)
          clear HEq HD hb8 x7 hB8 hB r0 r1 f0 f1
          obtain ⟨r0, r1, f0, f1⟩ := blk2 x8
          by_cases ht : 0 ≤ t ∧ t < (N : Int)
          · obtain ⟨t, rfl⟩ := Int.eq_ofNat_of_zero_le ht.1
            have htN : t < N := by omega
            have htn : ¬ (t : Int) < 0 := by omega
            have htN' : ¬ (N : Int) ≤ (t : Int) := by omega
            obtain ⟨b9, o9, e9, _, q9⟩ := HD8.out t (by rw [HFl.out]; exact htN)
            cases e9
            rw [Nat.zero_add] at q9
            have hRl8 : R s < w8.heap.size := by omega
            rcases HFar.out.all t htN with ⟨ef, hnone⟩ | ⟨d, ef, hwk, hmin⟩
            · rw [ef] at q9
              have he5 := HW2.out HFE.out ht hnone
              subst he5
              have hP0 := HN2.out (by decide)
              subst hP0
              have h55 : ((5 : Int) == 5) = true := rfl
              clear HW2 HY2 HT2 HN2 hnone ef
              go_wp2
              go_ret
              exact ⟨rfl, hbb8⟩
            · obtain ⟨he0, hch, hmp⟩ := HY2.out HFE.out ht ⟨d, hwk⟩
              subst he0
              have hPd : P.length = d := by
                have h1 := hmp d hwk
                have h2 := hmin _ hch.walk
                omega
              rw [ef, ← hPd] at q9
              have hPn : ¬ (P.length : Int) < 0 := by omega
              have hPP : ((P.length : Int) == (P.length : Int)) = true := by simp
              have HCh : Hid (Chain l s P t) := hch
              clear HW2 HY2 HT2 HN2 hmin ef hch hmp hwk hPd
              go_wp2_with fail
              refine (IsWay_yes ao ao2 cap cap2 l P s t w8 hm hPm HG8.out HP8.out HCh.out).mono ?_
              rintro e w9 ⟨rfl, hw9⟩
              subst hw9
              go_wp2
              go_ret
              exact ⟨rfl, hbb8⟩
          · have he4 := HT2.out HFE.out ht
            subst he4
            have hP0 := HN2.out (by decide)
            subst hP0
            have h44 : ((4 : Int) == 4) = true := rfl
            clear HW2 HY2 HT2 HN2
            rcases Int.lt_or_le t 0 with ht0 | ht0
            · go_wp2
              go_ret
              exact ⟨rfl, hbb8⟩
            · have ht1 : (N : Int) ≤ t := by omega
              go_wp2
              go_ret
              exact ⟨rfl, hbb8⟩
    · have hfe4 : fe = 4 := by
        have := HFE.out
        rw [farErr, if_pos HE.out, if_neg hs] at this
        exact this.symm
      subst hfe4
      have hF0 := HN1.out (by decide)
      have he4 := HF2.out (by rw [HFE.out]; decide)
      rw [HFE.out] at he4
      subst he4
      have hP0 := HN2.out (by decide)
      subst hF0
      subst hP0
      clear HN1 HY1 HF2 HT2 HW2 HY2 HN2 hF6 hP6
      rcases Int.lt_or_le s 0 with hs0 | hs0
      · go_wp2
        go_ret
        exact ⟨rfl, hbb6⟩
      · have hs1 : (N : Int) ≤ s := by omega
        go_wp2
        go_ret
        exact ⟨rfl, hbb6⟩
  · have hfe : fe = graphErr n (-10000) l := by
      have := HFE.out
      rw [farErr, if_neg hE] at this
      exact this.symm
    have hQ0 := HN3.out hE
    have hF0 := HN1.out (by rw [hfe]; exact hE)
    have he4 := HF2.out (by rw [HFE.out, hfe]; exact hE)
    rw [HFE.out, hfe] at he4
    have hP0 := HN2.out (by rw [he4]; exact hE)
    subst hF0
    subst hP0
    subst hQ0
    rw [he4, hfe]
    have hE' : (graphErr n (-10000) l != 0) = true := by simpa using hE
    have hE'' : (graphErr n (-10000) l == 0) = false := by simpa using hE
    have hEE : (graphErr n (-10000) l == graphErr n (-10000) l) = true := by simp
    have hEE' : (graphErr n (-10000) l != graphErr n (-10000) l) = false := by simp
    clear HN1 HY1 HF2 HT2 HW2 HY2 HN2 hF4 hP4 HN3 HY3 hQ4 hE HFE hfe he4
    generalize graphErr n (-10000) l = ge at *
    go_wp2
    go_ret
    exact ⟨rfl, hbb4⟩

end Go.Proofs.Ytbnagipapgonpaa
