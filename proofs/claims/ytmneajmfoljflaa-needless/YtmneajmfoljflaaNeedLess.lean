/- slices.Clone of needs; the law NeedLess, walked out of contracts of package need. -/
import Derived.Test.YtmneajmfoljflaaNeeds
import Derived.Test.YtmneajmfoljflaaJoinedB
import Derived.Test.YtmneajmfoljflaaMk
import Derived.Test.YtmneajmfoljflaaOwns
import Derived.Test.YtmneajmfoljflaaNeedF
namespace Go.Proofs.Ytmneajmfoljflaa
open Go.RowKit
set_option linter.unusedVariables false

set_option maxHeartbeats 400000 in
theorem cloneN_some (a : Addr) (cap : Nat) (l : List Need4) (w : World) (hA : NeedsAt w (some a) l) (h0 : 0 < l.length) (h30 : l.length ≤ 30) :
    Calls Try.prog 16 #[.slice (some a) l.length cap] w fun e w' => Below w.heap.size w w' ∧
      ∃ g cap' f, e = .returned (.slice (some ⟨g, 0, none⟩) l.length cap') ∧ w.heap.size ≤ g ∧ l.length ≤ cap' ∧ cap' ≤ maxLen ∧ w'.rowIs g 36 (cap' * 4) f ∧ NeedR f l := by
  have hq := @Lib.run_eql_slice_nil Try.prog
  obtain ⟨i0, hi, hz0, hz1, hz2⟩ := info_parts infoNeed
  go_enter Try.func16, Try.ntmps16
  have hown : (w.alloc (.cells #[] 36)).ownsRow w.heap.size 36 4 (.slice (some ⟨w.heap.size, 0, none⟩) 0 0) 0 [] :=
    ⟨rfl, Or.inr ⟨w.heap.size, 0, #[], rfl, Nat.le_refl _, blk_new _ _, Nat.le_refl _, Nat.zero_le _, rfl, rfl⟩⟩
  obtain ⟨b, off, e, _⟩ := hA 0 h0
  cases e
  have HO : Hid ((w.alloc (.cells #[] 36)).ownsRow w.heap.size 36 4 (.slice (some ⟨w.heap.size, 0, none⟩) 0 0) 0 []) := hown
  have HN : Hid (∀ j u, (flat4 l)[j]? = some u → (w.alloc (.cells #[] 36)).cell? ((⟨b, off, none⟩ : Addr).add j) = some u) := needs_news (hA.alloc _)
  have HM : Hid (0 + l.length ≤ maxLen) := by unfold Hid maxLen; omega
  have H0 : Hid (0 < l.length) := h0
  clear hown h0
  go_wp2_with (at_builtin; refine wpList_append_own _ rfl (.tmp 5) (.tmp 6) 22 rfl w.heap.size 36 i0 _ 4 32 Try.underlying22 hi hz0 hz1 hz2 rfl (by decide) _ _ _ rfl HO.out ⟨b, off, none⟩ l.length cap (flat4 l) rfl (flat4_len l) HN.out (flat4_one l) HM.out (by omega) (by simp) ?_; intro v' w1 hown' hgrow _)
  have hB' : Below w.heap.size w w1 := (below_one w _).grown hgrow (by simp) (by
    intro g hg
    simp only [Value.ownBlock] at hg
    cases hg
    exact Nat.le_refl _)
  simp only [Nat.zero_add, List.nil_append] at hown'
  clear hgrow
  obtain ⟨g, cap', f, rfl, hBg, hle, hcm, hr, hf⟩ := own_needs H0.out hown'
  have HR : Hid (Below w.heap.size w w1 ∧ w.heap.size ≤ g ∧ l.length ≤ cap' ∧ cap' ≤ maxLen ∧ w1.rowIs g 36 (cap' * 4) f ∧ NeedR f l) := ⟨hB', hBg, hle, hcm, hr, hf⟩
  clear hown' hB' hr hf hBg hle hcm
  go_wp2
  go_ret
  exact ⟨HR.out.1, g, cap', f, rfl, HR.out.2⟩

/-- where less must go, and more may, there is a round still -/
theorem round_less {n : Int} {l : List Need4} {F : List Int} (hn : needErr n l = 0) (h : RoundIs n.toNat l F) {k : Nat} (hk : k < l.length) {a c : Int} (ha : 0 ≤ a ∧ a ≤ (at4 l k).2.2.1) (hc : (at4 l k).2.2.2 ≤ c ∧ c ≤ 333) :
    needErr n (setN l k a c) = 0 ∧ RoundIs n.toNat (setN l k a c) F := by
  obtain ⟨h1, h2, h3⟩ := need_ok hn
  refine ⟨need_mk h1 (by rw [setN_len]; exact h2) fun x hx => ?_, by rw [setN_len]; exact h.len, fun i hi => ?_, fun v hv => ?_⟩
  · obtain ⟨i, hi, rfl⟩ := List.mem_iff_getElem.1 hx
    rw [← at4_lt _ _ hi]
    rw [setN_len] at hi
    rw [setN_at hk a c i hi]
    by_cases e : i = k
    · rw [if_pos e]
      have := h3 k hk
      exact need1_mk ⟨this.1, this.2.1, ha.1, by show a ≤ c; omega, hc.2⟩
    · rw [if_neg e]
      exact need1_mk (h3 i hi)
  · rw [setN_len] at hi
    have hb := h.bnd i hi
    rw [setN_at hk a c i hi]
    by_cases e : i = k
    · subst e
      rw [if_pos rfl]
      exact ⟨by show a ≤ _; omega, by show _ ≤ c; omega⟩
    · rw [if_neg e]; exact hb
  · have e : gone (needA (setN l k a c)) (ati F) v = gone (needA l) (ati F) v := gone_same (by rw [needA_len, needA_len, setN_len]) fun i hi => by
      rw [needA_len] at hi
      rw [needA_at (by rw [setN_len]; exact hi), needA_at hi, setN_at hk a c i hi]
      by_cases e : i = k
      · subst e; rw [if_pos rfl]; exact ⟨rfl, rfl⟩
      · rw [if_neg e]; exact ⟨rfl, rfl⟩
    rw [e]; exact h.bal v hv

set_option maxHeartbeats 4000000 in
set_option maxRecDepth 100000 in
theorem NeedLess_any (hR : NRoundC) (n k low more : Int) (ao : Option Addr) (cap : Nat) (l : List Need4) (w : World) (hX : NeedsIn w ao cap l) :
    Calls Try.prog 5 #[.int .i64 n, .slice ao l.length cap, .int .i64 k, .int .i64 low, .int .i64 more] w fun e w' => e = .returned (.bool true) ∧ Below w.heap.size w w' := by
  go_enter Try.func5, Try.ntmps5
  go_wp2_with fail
  refine (needs_any hR _).mono ?_
  rintro e w1 ⟨rfl, hb1⟩
  have hX1 := hX.below hb1 (Nat.le_refl _)
  have HB1 : Hid (Below w.heap.size w w1) := hb1
  have hq := hR n ao cap l w1 hX1
  have HX1 : Hid (NeedsIn w1 ao cap l) := hX1
  clear hb1 hX hX1
  go_wp2_with fail
  refine hq.mono ?_
  clear hq
  rintro e w2 ⟨hb2, a1, c1, F, E, rfl, _, hT⟩
  have HX2 : Hid (NeedsIn w2 ao cap l) := HX1.out.below hb2 (Nat.le_refl _)
  have HB2 : Hid (Below w.heap.size w w2) := HB1.out.trans (hb2.mono HB1.out.size)
  have HT : Hid (RoundTells n l F E) := hT
  clear hb2 hT HX1 HB1
  by_cases hE : E = 0
  · subst hE
    have g0 : ((0 : Int) != 0) = false := rfl
    by_cases hk0 : k < 0
    · have g1 : decide (k < 0) = true := decide_eq_true hk0
      go_wp2
      go_ret
      exact ⟨rfl, HB2.out⟩
    · by_cases hk1 : (l.length : Int) ≤ k
      · have g2 : decide (k ≥ (l.length : Int)) = true := by simpa using hk1
        have g3 : decide ((l.length : Int) ≤ k) = true := by simpa using hk1
        have g1 : decide (k < 0) = false := by simpa using hk0
        go_wp2
        go_ret
        exact ⟨rfl, HB2.out⟩
      · obtain ⟨k, rfl⟩ := Int.eq_ofNat_of_zero_le (show 0 ≤ k by omega)
        have hkl : k < l.length := by omega
        obtain ⟨hn, hRd⟩ := HT.out.ok rfl
        obtain ⟨hn12, hl30, hall⟩ := need_ok hn
        have hak := hall k hkl
        obtain ⟨b, off, rfl, hbb, e0, e1, e2, e3⟩ := HX2.out.needs k hkl
        obtain ⟨lo, hlo⟩ : ∃ lo, (at4 l k).2.2.1 = lo := ⟨_, rfl⟩
        obtain ⟨c, hc⟩ : ∃ c, (at4 l k).2.2.2 = c := ⟨_, rfl⟩
        rw [hlo, hc] at hak
        rw [hlo] at e2
        rw [hc] at e3
        obtain ⟨m1, hm1⟩ := Int.eq_ofNat_of_zero_le (show 0 ≤ lo + 1 by omega)
        obtain ⟨m2, hm2⟩ := Int.eq_ofNat_of_zero_le (show 0 ≤ 334 - c by omega)
        have hr1 := restV_in low (m := m1) (by omega)
        have hr2 := restV_in more (m := m2) (by omega)
        obtain ⟨x1, hx1⟩ : ∃ x, restV low m1 = x := ⟨_, rfl⟩
        obtain ⟨x2, hx2⟩ : ∃ x, restV more m2 = x := ⟨_, rfl⟩
        rw [hx1] at hr1
        rw [hx2] at hr2
        have hless := round_less (a := x1) (c := c + x2) hn hRd hkl (by rw [hlo]; omega) (by rw [hc]; omega)
        have HRest1 : Hid (∀ W : World, Calls Try.prog 17 #[.int .i64 low, .int .i64 (m1 : Int)] W fun e w' => e = .returned (.int .i64 x1) ∧ w' = W) := fun W => by
          have h := rest_big low m1 (by omega) (by omega) W
          rw [hx1] at h; exact h
        have HRest2 : Hid (∀ W : World, Calls Try.prog 17 #[.int .i64 more, .int .i64 (m2 : Int)] W fun e w' => e = .returned (.int .i64 x2) ∧ w' = W) := fun W => by
          have h := rest_big more m2 (by omega) (by omega) W
          rw [hx2] at h; exact h
        have v1 : IntKind.i64.wrap (lo + 1) = (m1 : Int) := by rw [IntKind.wrap_i64]; omega
        have v2 : IntKind.i64.wrap (334 - c) = (m2 : Int) := by rw [IntKind.wrap_i64]; omega
        have v3 : IntKind.i64.wrap (c + x2) = c + x2 := by rw [IntKind.wrap_i64]; omega
        have HLess : Hid (needErr n (setN l k x1 (c + x2)) = 0 ∧ RoundIs n.toNat (setN l k x1 (c + x2)) F) := hless
        have HKl : Hid (k < l.length) := hkl
        have hcl := cloneN_some ⟨b, off, none⟩ cap l w2 HX2.out.needs (by omega) hl30
        have g1 : decide ((k : Int) < 0) = false := by simp
        have HE2 : Hid (b < w2.heap.size ∧ w2.cell? ⟨b, off + k * 4 + 2, none⟩ = some (.int .i64 lo) ∧ w2.cell? ⟨b, off + k * 4 + 3, none⟩ = some (.int .i64 c)) := ⟨hbb, e2, e3⟩
        have HC3 : Hid ((at4 l k).2.2.2 = c) := hc
        clear hk0 hk1 hless hn hRd hn12 hall hlo hc hx1 hx2 HT e0 e1 e2 e3 HX2 hm1 hm2
        have hkI : (k : Int) < (l.length : Int) := by omega
        have HCall : Hid (∀ (W : World) (g cap3 : Nat), NeedsIn W (some ⟨g, 0, none⟩) cap3 (setN l k x1 (c + x2)) → Calls Try.prog 8 #[.int .i64 n, .slice (some ⟨g, 0, none⟩) l.length cap3] W fun e w' => Below W.heap.size W w' ∧ ∃ a1 c1 F, e = .returned (.tuple #[.slice a1 (F : List Int).length c1, .int .i64 0])) := fun W g cap3 hW => by
          have h := hR n (some ⟨g, 0, none⟩) cap3 (setN l k x1 (c + x2)) W hW
          rw [setN_len] at h
          refine h.mono ?_
          rintro e w' ⟨hb, a1, c1, F', E, he, _, ht⟩
          have hE0 : E = 0 := by
            rcases ht.2 HLess.out.1 with h | ⟨_, _, x, _, hs⟩
            · exact h.1
            · have hN : ((n.toNat : Nat) : Int) = n := by have := (need_ok HLess.out.1).1; omega
              have := HLess.out.2.eased (by rw [hN]; exact HLess.out.1) x
              unfold Strains at hs; omega
          subst hE0
          exact ⟨hb, a1, c1, F', he⟩
        go_wp2_with fail
        refine hcl.mono ?_
        clear hcl
        rintro e w3 ⟨hb3, g, cap3, f, rfl, hg3, hle3, hmx3, hr3, hf3⟩
        have HB3 : Hid (Below w.heap.size w w3) := HB2.out.trans (hb3.mono HB2.out.size)
        have d2 := later hb3 HE2.out.2.1 HE2.out.1
        have d3 := later hb3 HE2.out.2.2 HE2.out.1
        have hbg : b ≠ g := by have := HE2.out.1; omega
        have hgb : g ≠ b := Ne.symm hbg
        have r2 := hr3.cell (i := k * 4 + 2) (by omega)
        have r3 := hr3.cell (i := k * 4 + 3) (by omega)
        obtain ⟨_, _, q2, q3⟩ := hf3 k hkl
        rw [q2] at r2
        rw [q3, HC3.out] at r3
        have f2 := hr3.frozen (k * 4 + 2)
        have f3 := hr3.frozen (k * 4 + 3)
        have HR3 : Hid (w3.rowIs g 36 (cap3 * 4) f ∧ NeedR f l ∧ l.length ≤ cap3 ∧ cap3 ≤ maxLen ∧ w2.heap.size ≤ g) := ⟨hr3, hf3, hle3, hmx3, hg3⟩
        have hz3 := hb3.size
        have hgw : g < w3.heap.size := hr3.lt
        have hbw : b < w3.heap.size := by have := HE2.out.1; omega
        clear hb3 hr3 hf3 q2 q3 hmx3
        go_wp2_with (go_at_call 17; refine (HRest1.out _).mono ?_; rintro e w' ⟨rfl, hw⟩; rw [hw]; clear hw)
        go_region_with (go_at_call 17; refine (HRest2.out _).mono ?_; rintro e w' ⟨rfl, hw⟩; rw [hw]; clear hw)
        all_goals
          go_wp2_with fail
          have hle := HR3.out.2.2.1
          refine (HCall.out _ g cap3 ?_).mono ?_
          · refine NeedR.in_ (f := fun j => if j = k * 4 + 3 then .int .i64 (c + x2) else if j = k * 4 + 2 then .int .i64 x1 else f j) ?_ ?_ (by rw [setN_len]; exact hle) HR3.out.2.2.2.1
            · first
              | exact ((HR3.out.1.set (k * 4 + 2) (.int .i64 x1)).drew).set (k * 4 + 3) (.int .i64 (c + x2))
              | exact ((HR3.out.1.set (k * 4 + 2) (.int .i64 x1)).set (k * 4 + 3) (.int .i64 (c + x2))).drew
              | exact (HR3.out.1.set (k * 4 + 2) (.int .i64 x1)).set (k * 4 + 3) (.int .i64 (c + x2))
            · exact HR3.out.2.1.set (setN_len _ _ _ _) HKl.out (setN_at HKl.out x1 (c + x2))
          · rintro e w5 ⟨hb5, a5, c5, F5, rfl⟩
            have g5 : ((0 : Int) == 0) = true := rfl
            have HB5 : Hid (Below w.heap.size w w5) := by
              have hgg := HR3.out.2.2.2.2
              have h2 := HB2.out.size
              refine Below.trans ?_ (hb5.mono ?_)
              · first
                | exact ((HB3.out.setCell (by show w.heap.size ≤ g; omega) _).drew).setCell (by show w.heap.size ≤ g; omega) _
                | exact (HB3.out.setCell (by show w.heap.size ≤ g; omega) _).setCell (by show w.heap.size ≤ g; omega) _
              · have := HB3.out.size
                simp [World.setCell]
                omega
            clear hb5
            go_wp2
            go_ret
            exact ⟨rfl, HB5.out⟩
  · have hE' : (E != 0) = true := by simpa using hE
    clear hE HT
    go_wp2
    go_ret
    exact ⟨rfl, HB2.out⟩

end Go.Proofs.Ytmneajmfoljflaa
