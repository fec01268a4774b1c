/- The law TreeTimes, walked. -/
import Derived.Test.YtamckjbddnocpabTDec
import Derived.Test.YtamckjbddnocpabDegrees
namespace Go.Proofs.Ytamckjbddnocpab
open Go.RowKit
set_option linter.unusedVariables false

theorem times_deg {l : List Int} (h : ∀ x ∈ l, 0 ≤ x ∧ x < ((l.length + 2 : Nat) : Int)) {k : Nat} (hk : k < l.length + 2) :
    ati (outs (l.length + 2) (decT l)) k + ati (ins (l.length + 2) (decT l)) k = ((codeN l).count k : Int) + 1 := by
  have hst := code_st h
  have := dec_deg hst.ok (decF_is hst) k
  rw [if_pos (by simpa using hk)] at this
  rw [ati_outs _ _ _ hk]
  have e : ati (ins (l.length + 2) (decT l)) k = inDeg (decT l) k := by rw [ati_lt _ _ (by rw [ins_length]; exact hk)]; simp [ins]
  rw [e, ← this]
  rfl

set_option maxHeartbeats 1600000 in
theorem TreeTimes_ok (ao : Option Addr) (cap : Nat) (l : List Int) (w : World) (hA : IntsAt w ao l) (he : decErr l = 0) :
    Calls Try.prog 3 #[.slice ao l.length cap] w fun e w' => e = .returned (.bool true) ∧ Below w.heap.size w w' := by
  obtain ⟨h10, hl⟩ := decErr_ok he
  have HL : Hid (∀ x ∈ l, 0 ≤ x ∧ x < ((l.length + 2 : Nat) : Int)) := hl
  have HA : Hid (IntsAt w ao l) := hA
  have h0 := Decode_ok none 0 [] w (fun i hi => absurd hi (Nat.not_lt_zero _)) (by decide) (fun x hx => absurd hx (List.not_mem_nil))
  simp only [List.length_nil] at h0
  have hne : ((0 : Int) != 0) = false := rfl
  clear hl hA he
  go_enter Try.func3, Try.ntmps3
  go_wp2_with fail
  refine h0.mono ?_
  rintro e w1 ⟨hb1, b1, hb1z, rfl, hr1⟩
  have hz1 := hb1.size
  have HB1 : Hid (Below w.heap.size w w1) := hb1
  clear h0 hb1 hr1
  have hA2 := (HA.out.below HB1.out (Nat.le_refl _)).alloc (.cells #[.int .i64 2, .slice (some ⟨b1, 0, none⟩) 1 1] 25)
  have h1 := Decode_ok ao cap l _ hA2 h10 HL.out
  go_wp2_with fail
  refine h1.mono ?_
  rintro e w2 ⟨hb2, b2, hb2z, rfl, hr2⟩
  have hz2 := hb2.size
  simp only [World.size_alloc] at hz2 hb2 hb2z
  have harcs : ArcsAt w2 (some ⟨b2, 0, none⟩) (decT l) := upto_arcs (L := decT l) (by rw [decT_len]; exact hr2)
  have h2 := Degrees_ok (l.length + 2) (some ⟨b2, 0, none⟩) (l.length + 1) (decT l) (w2.alloc (.cells #[.int .i64 ((l.length : Int) + 2), .slice (some ⟨b2, 0, none⟩) (l.length + 1) (l.length + 1)] 25)) (harcs.alloc _) (decT_ok h10 HL.out)
  rw [decT_len, show ((l.length + 2 : Nat) : Int) = (l.length : Int) + 2 from by omega] at h2
  have HB2 : Hid (Below w.heap.size w w2) := HB1.out.trans ((below_one _ _).mono (by omega) |>.trans (hb2.mono (by omega)))
  clear h1 hb2 hr2 hA2 harcs HB1
  go_wp2_with fail
  refine h2.mono ?_
  rintro e w3 ⟨hb3, c1, c2, hc1, hc12, rfl, hO, hI⟩
  have hz3 := hb3.size
  simp only [World.size_alloc] at hz3 hb3 hc1
  have HB3 : Hid (Below w.heap.size w w3) := HB2.out.trans ((below_one _ _).mono (by omega) |>.trans (hb3.mono (by omega)))
  have HO : Hid (IntsAt w3 (some ⟨c1, 0, none⟩) (outs (l.length + 2) (decT l))) := hO
  have HI : Hid (IntsAt w3 (some ⟨c2, 0, none⟩) (ins (l.length + 2) (decT l))) := hI
  have HA3 : Hid (IntsAt w3 ao l) := HA.out.below HB3.out (Nat.le_refl _)
  have hlen2 : ((l.length : Int) + 2 != (l.length : Int) + 2) = false := by simp
  clear h2 hb3 hO hI HB2 HA
  go_wp2_with fail
  go_loopw [65] (fun i wr => ∃ k : Nat, k ≤ l.length + 2 ∧ i = .int .i64 k ∧ ∃ q, wr = w3.drewN q) (fun i _ => l.length + 2 - (intOf i).toNat)
  case atStart => exact ⟨0, Nat.zero_le _, rfl, 0, rfl⟩
  case round =>
    obtain ⟨k, hk, rfl, q, rfl⟩ := hrel
    by_cases hlt : k < l.length + 2
    · go_wp2_with fail
      go_loop [11, 70] (fun n i => ∃ j : Nat, j ≤ l.length ∧ i = .int .i64 j ∧ n = .int .i64 ((((codeN l).take j).count k : Nat) : Int)) (fun _ i => l.length - (intOf i).toNat)
      case atStart => exact ⟨0, Nat.zero_le _, rfl, by simp⟩
      case round =>
        obtain ⟨j, hj, rfl, rfl⟩ := hrel
        by_cases hjl : j < l.length
        · obtain ⟨b, off, rfl, hb, c0⟩ := HA3.out.drewN q j hjl
          obtain ⟨hx, hxN⟩ := codeN_at HL.out hjl
          have hsn := take_snocn (codeN l) j (by rw [codeN_len]; exact hjl)
          rw [hx] at c0
          generalize (codeN l).getD j 0 = x at *
          have HO : Hid (((((codeN l).take (j + 1)).count k : Nat) : Int) = if k = x then ((((codeN l).take j).count k : Nat) : Int) + 1 else ((((codeN l).take j).count k : Nat) : Int)) := by rw [Hid, hsn, count_snoc]
          have q0 : ((codeN l).take j).count k ≤ 10 := Nat.le_trans (List.count_le_length) (by rw [List.length_take, codeN_len]; omega)
          generalize ((codeN l).take j).count k = cx at *
          clear hsn hx
          by_cases e : x = k
          · subst e
            have HO2 : Hid (((((codeN l).take (j + 1)).count x : Nat) : Int) = (cx : Int) + 1) := by rw [Hid, HO.out, if_pos rfl]
            clear HO
            go_wp2
            go_round
            case rel => exact ⟨j + 1, by omega, by go_num, by rw [HO2.out]⟩
            case measure => simp [intOf]; omega
          · have HO2 : Hid (((((codeN l).take (j + 1)).count k : Nat) : Int) = (cx : Int)) := by rw [Hid, HO.out, if_neg (fun h => e h.symm)]
            have e' : ((x : Int) == (k : Int)) = false := by simpa using fun h => e (by omega)
            clear HO e
            go_wp2
            go_round
            case rel => exact ⟨j + 1, by omega, by go_num, by rw [HO2.out]⟩
            case measure => simp [intOf]; omega
        · have hjj : j = l.length := by omega
          subst hjj
          obtain ⟨_, _, e1, hb1', d0⟩ := HO.out k (by rw [outs_length]; exact hlt)
          cases e1
          obtain ⟨_, _, e2, hb2', d1⟩ := HI.out k (by rw [ins_length]; exact hlt)
          cases e2
          have hsum := times_deg HL.out hlt
          have hcl : (codeN l).count k ≤ 10 := Nat.le_trans (List.count_le_length) (by rw [codeN_len]; omega)
          rw [List.take_of_length_le (show (codeN l).length ≤ l.length by rw [codeN_len]; exact Nat.le_refl _)]
          generalize ((codeN l).count k) = cx at *
          have hx0 : 0 ≤ ati (outs (l.length + 2) (decT l)) k ∧ 0 ≤ ati (ins (l.length + 2) (decT l)) k := by
            rw [ati_outs _ _ _ hlt, ati_lt (ins (l.length + 2) (decT l)) _ (by rw [ins_length]; exact hlt)]
            simp only [ins, List.getElem_map, List.getElem_range]
            exact ⟨(outDeg_le _ _).1, (inDeg_le _ _).1⟩
          generalize ati (outs (l.length + 2) (decT l)) k = x at *
          generalize ati (ins (l.length + 2) (decT l)) k = y at *
          have hy : y = (cx : Int) + 1 - x := by omega
          obtain ⟨hx1, hy1⟩ := hx0
          have hq : (x + y != (cx : Int) + 1) = false := by rw [hsum]; simp
          have hs1 : -100 ≤ x ∧ x ≤ 100 := by omega
          have hs2 : -100 ≤ y ∧ y ≤ 100 := by omega
          rw [Nat.zero_add] at d0 d1
          clear hsum hy
          go_wp2_with fail
          go_quiet (fail)
          go_wp2_with fail
          go_roundw
          case rel => exact ⟨k + 1, by omega, by go_num, _, rfl⟩
          case measure => simp [intOf]; omega
    · have hkk : k = l.length + 2 := by omega
      subst hkk
      go_wp2_with fail
      go_ret
      exact ⟨rfl, below_drewN HB3.out _⟩

set_option maxHeartbeats 800000 in
theorem TreeTimes_err (ao : Option Addr) (cap : Nat) (l : List Int) (w : World) (hm : l.length ≤ maxLen) (hA : IntsAt w ao l) (he : decErr l ≠ 0) :
    Calls Try.prog 3 #[.slice ao l.length cap] w fun e w' => e = .returned (.bool true) ∧ Below w.heap.size w w' := by
  have HA : Hid (IntsAt w ao l) := hA
  have h0 := Decode_ok none 0 [] w (fun i hi => absurd hi (Nat.not_lt_zero _)) (by decide) (fun x hx => absurd hx (List.not_mem_nil))
  simp only [List.length_nil] at h0
  have hne : ((0 : Int) != 0) = false := rfl
  have hne2 : (decErr l != 0) = true := by simpa using he
  have HE : Hid (decErr l ≠ 0) := he
  clear hA he
  go_enter Try.func3, Try.ntmps3
  go_wp2_with fail
  refine h0.mono ?_
  rintro e w1 ⟨hb1, b1, hb1z, rfl, hr1⟩
  have hz1 := hb1.size
  have HB1 : Hid (Below w.heap.size w w1) := hb1
  clear h0 hb1 hr1
  have hA2 := (HA.out.below HB1.out (Nat.le_refl _)).alloc (.cells #[.int .i64 2, .slice (some ⟨b1, 0, none⟩) 1 1] 25)
  have h1 := Decode_err ao cap l _ hm hA2 HE.out
  go_wp2_with fail
  refine h1.mono ?_
  rintro e w2 ⟨hb2, rfl⟩
  have hz2 := hb2.size
  simp only [World.size_alloc] at hz2 hb2
  have hge : graphErr 0 (-10000) [] = 1 := by decide
  have h2 := Degrees_err 0 none 0 [] (w2.alloc (.cells #[.int .i64 0, .slice none 0 0] 25)) (by decide) (fun i hi => absurd hi (Nat.not_lt_zero _)) (by rw [hge]; decide)
  rw [hge] at h2
  have HB2 : Hid (Below w.heap.size w w2) := HB1.out.trans ((below_one _ _).mono (by omega) |>.trans (hb2.mono (by omega)))
  have hne3 : ((1 : Int) != 0) = true := rfl
  simp only [List.length_nil] at h2
  clear h1 hb2 hA2 HB1 hge
  generalize decErr l = E at *
  go_wp2_with fail
  refine h2.mono ?_
  rintro e w3 ⟨hb3, rfl⟩
  have hz3 := hb3.size
  simp only [World.size_alloc] at hz3 hb3
  have HB3 : Hid (Below w.heap.size w w3) := HB2.out.trans ((below_one _ _).mono (by omega) |>.trans (hb3.mono (by omega)))
  clear h2 hb3 HB2
  go_wp2_with fail
  go_ret
  exact ⟨rfl, HB3.out⟩

theorem TreeTimes_walk (ao : Option Addr) (cap : Nat) (l : List Int) (w : World) (hm : l.length ≤ maxLen) (hA : IntsAt w ao l) :
    Calls Try.prog 3 #[.slice ao l.length cap] w fun e w' => e = .returned (.bool true) ∧ Below w.heap.size w w' := by
  by_cases he : decErr l = 0
  · exact TreeTimes_ok ao cap l w hA he
  · exact TreeTimes_err ao cap l w hm hA he

end Go.Proofs.Ytamckjbddnocpab
