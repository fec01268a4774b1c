/- Package flow: the contracts of Check and Value. -/
import Derived.Test.YtmneajmfoljflaaFSur
import Derived.Test.YtmneajmfoljflaaAppJoin
namespace Go.Proofs.Ytmneajmfoljflaa
open Go.RowKit
set_option linter.unusedVariables false

set_option maxHeartbeats 4000000 in
theorem FCheck_any : FCheckC := by
  intro n s t ao af cap capf l f w hG hFI
  have hm := hG.len
  have hmf := hFI.len
  unfold maxLen at hm hmf
  have hA0 := hG.arcs.alloc (.cells #[.int .i64 n, .int .i64 s, .int .i64 t, .slice ao l.length cap] 43)
  have hF0 := hFI.ints.alloc (.cells #[.int .i64 n, .int .i64 s, .int .i64 t, .slice ao l.length cap] 43)
  have x0 := blk_new w (.cells #[.int .i64 n, .int .i64 s, .int .i64 t, .slice ao l.length cap] 43)
  have hc := CheckNet_any n s t ao cap l _ hG.len hA0
  obtain ⟨E, hEE⟩ : ∃ E, netErr n s t l = E := ⟨_, rfl⟩
  rw [hEE] at hc
  have HE : Hid (netErr n s t l = E) := hEE
  clear hG hFI hEE
  go_enter Try.func28, Try.ntmps28
  go_wp2_with fail
  refine hc.mono ?_
  rintro e W ⟨rfl, hb1⟩
  simp only [World.size_alloc] at hb1
  have hz1 := hb1.size
  simp only [World.size_alloc] at hz1
  have x1 := blk_below hb1 x0 (by omega)
  obtain ⟨r0, r1, r2, r3⟩ := blk4 x1
  have hwz : w.heap.size < W.heap.size := by omega
  have HB0 : Hid (Below w.heap.size w W) := below_in hb1 (by omega)
  have HA : Hid (ArcsAt W ao l) := hA0.below hb1 (by simp)
  have HF : Hid (IntsAt W af f) := hF0.below hb1 (by simp)
  have HX : Hid (W.heap[w.heap.size]? = some (.cells #[.int .i64 n, .int .i64 s, .int .i64 t, .slice ao l.length cap] 43 (0, 0))) := x1
  clear hc hb1 x0 x1 hA0 hF0 hz1
  by_cases hE : E = 0
  · subst hE
    have h0 : ((0 : Int) != 0) = false := rfl
    obtain ⟨hge, hs, ht, hst⟩ := net_ok HE.out
    obtain ⟨⟨hn1, hn2⟩, hl60, hall⟩ := err_ok hge
    have HCap : Hid (∀ k, k < l.length → (at3 l k).2.2 ≤ 10000) := fun k hk => (hall _ (at3_mem l k hk)).2.2.2
    clear hge hall
    by_cases hlen : f.length = l.length
    · have Hlen : Hid (f.length = l.length) := hlen
      rw [hlen]
      have hl2 : ((l.length : Int) != (l.length : Int)) = false := by simp
      clear hlen
      go_wp2
      go_loopw [24] (fun i wr => ∃ k : Nat, k ≤ l.length ∧ i = .int .i64 k ∧ Hid (∀ j, j < k → 0 ≤ ati f j ∧ ati f j ≤ (at3 l j).2.2) ∧ Below W.heap.size W wr) (fun i _ => l.length - (intOf i).toNat)
      case atStart => exact ⟨0, Nat.zero_le _, rfl, fun j hj => absurd hj (Nat.not_lt_zero _), Below.refl _ _⟩
      case round =>
        obtain ⟨k, hk, rfl, hok, hB⟩ := hrel
        have hz := hB.size
        by_cases hlt : k < l.length
        · obtain ⟨b, off, rfl, hbb, c0, c1, c2⟩ := HA.out.below hB (Nat.le_refl _) k hlt
          obtain ⟨b2, o2, rfl, hb2, d0⟩ := HF.out.below hB (Nat.le_refl _) k (by rw [Hlen.out]; exact hlt)
          have HK : Hid ((0 ≤ ati f k ∧ ati f k ≤ (at3 l k).2.2) → ∀ j, j < k + 1 → 0 ≤ ati f j ∧ ati f j ≤ (at3 l j).2.2) := fun h j hj => by
            by_cases e : j = k
            · subst e; exact h
            · exact hok.out j (by omega)
          have HO : Hid (¬ (0 ≤ ati f k ∧ ati f k ≤ (at3 l k).2.2) → flowErr n s t l f = 7) := fun h => flow_over HE.out Hlen.out hlt h
          generalize (at3 l k).1 = p at *
          generalize (at3 l k).2.1 = q at *
          generalize (at3 l k).2.2 = c at *
          generalize ati f k = y at *
          clear hok
          by_cases e1 : y < 0
          · have HR := HO.out (by omega)
            have HR' : Hid (flowErr n s t l f = 7) := HR
            have e1' : decide (y < 0) = true := decide_eq_true e1
            clear HO HK HR
            go_wp2
            go_quiet (fail)
            go_wp2
            go_ret
            rw [HR'.out]
            exact ⟨HB0.out.trans ((below_drewN (hB.alloc (by omega) _) _).mono (by omega)), rfl⟩
          · have e1' : decide (y < 0) = false := decide_eq_false e1
            by_cases e2 : c < y
            · have HR := HO.out (by omega)
              have HR' : Hid (flowErr n s t l f = 7) := HR
              have e2' : decide (c < y) = true := decide_eq_true e2
              clear HO HK HR
              go_wp2
              go_quiet (fail)
              go_wp2
              go_ret
              rw [HR'.out]
              exact ⟨HB0.out.trans ((below_drewN (hB.alloc (by omega) _) _).mono (by omega)), rfl⟩
            · have e2' : decide (c < y) = false := decide_eq_false e2
              have HR : Hid (∀ j, j < k + 1 → 0 ≤ ati f j ∧ ati f j ≤ (at3 l j).2.2) := HK.out (by omega)
              clear HO HK
              go_wp2
              go_quiet (fail)
              go_wp2
              go_roundw
              case rel => exact ⟨k + 1, by omega, by go_num, HR, below_drewN (hB.alloc (by omega) _) _⟩
              case measure => simp [intOf]; omega
        · have hkk : l.length = k := by omega
          subst hkk
          obtain ⟨N, rfl⟩ := Int.eq_ofNat_of_zero_le (show 0 ≤ n by omega)
          have x2 := blk_below hB HX.out hwz
          clear r0 r1 r2 r3
          obtain ⟨r0, r1, r2, r3⟩ := blk4 x2
          have hbd : ∀ k, k < l.length → 0 ≤ ati f k ∧ ati f k ≤ 10000 := fun k hk => by
            have := hok.out k hk
            have := HCap.out k hk
            omega
          have HB1 : Hid (Below w.heap.size w wr) := HB0.out.trans (hB.mono (by omega))
          have hsur := surplus_any N s t ao af cap capf l f wr (by omega) hl60 (net_nodes HE.out) Hlen.out (HA.out.below hB (Nat.le_refl _)) (HF.out.below hB (Nat.le_refl _)) hbd
          have HX1 : Hid (wr.heap[w.heap.size]? = some (.cells #[.int .i64 (N : Int), .int .i64 s, .int .i64 t, .slice ao l.length cap] 43 (0, 0))) := x2
          have hwz2 : w.heap.size < wr.heap.size := by have := hB.size; omega
          clear hbd hB x2 HA HF HX HB0 hwz
          go_wp2_with fail
          refine hsur.mono ?_
          rintro e V ⟨hb4, gb, hgb, rfl, hrow⟩
          clear hsur
          have hz4 := hb4.size
          have x3 := blk_below hb4 HX1.out hwz2
          have HB2 : Hid (Below w.heap.size w V) := HB1.out.trans (hb4.mono (by omega))
          clear r0 r1 r2 r3 HX1 HB1 hb4
          obtain ⟨r0, r1, r2, r3⟩ := blk4 x3
          clear x3
          go_wp2
          go_loopw [48] (fun i wr => ∃ v : Nat, v ≤ N ∧ i = .int .i64 v ∧ Hid (∀ j : Nat, j < v → (j : Int) ≠ s → (j : Int) ≠ t → gone l (ati f) j = 0) ∧ wr = V) (fun i _ => N - (intOf i).toNat)
          case atStart => exact ⟨0, Nat.zero_le _, rfl, fun j hj => absurd hj (Nat.not_lt_zero _), rfl⟩
          case round =>
            obtain ⟨v, hv, rfl, hok2, rfl⟩ := hrel
            by_cases hlt : v < N
            · have HK : Hid (((v : Int) ≠ s → (v : Int) ≠ t → gone l (ati f) v = 0) → ∀ j : Nat, j < v + 1 → (j : Int) ≠ s → (j : Int) ≠ t → gone l (ati f) j = 0) := fun h j hj => by
                by_cases e : j = v
                · subst e; exact h
                · exact hok2.out j (by omega)
              have HO : Hid (gone l (ati f) v ≠ 0 → (v : Int) ≠ s → (v : Int) ≠ t → flowErr N s t l f = 8) := fun h e1 e2 => flow_lost HE.out Hlen.out hok.out (by simpa using hlt) e1 e2 h
              have c0 := hrow.cell (i := v) hlt
              have hzr := hrow.lt
              generalize gone l (ati f) v = y at *
              by_cases hy : y = 0
              · have hy' : (y != 0) = false := by simpa using hy
                have HR : Hid (∀ j : Nat, j < v + 1 → (j : Int) ≠ s → (j : Int) ≠ t → gone l (ati f) j = 0) := HK.out (fun _ _ => hy)
                clear hy HK HO
                go_wp2
                go_roundw
                case rel => exact ⟨v + 1, by omega, by go_num, HR, trivial⟩
                case measure => simp [intOf]; omega
              · have hy' : (y != 0) = true := by simpa using hy
                by_cases e1 : (v : Int) = s
                · have e1' : ((v : Int) != s) = false := by simpa using e1
                  have HR : Hid (∀ j : Nat, j < v + 1 → (j : Int) ≠ s → (j : Int) ≠ t → gone l (ati f) j = 0) := HK.out (fun h => absurd e1 h)
                  clear e1 HK HO hy
                  go_wp2
                  go_roundw
                  case rel => exact ⟨v + 1, by omega, by go_num, HR, trivial⟩
                  case measure => simp [intOf]; omega
                · have e1' : ((v : Int) != s) = true := by simpa using e1
                  by_cases e2 : (v : Int) = t
                  · have e2' : ((v : Int) != t) = false := by simpa using e2
                    have HR : Hid (∀ j : Nat, j < v + 1 → (j : Int) ≠ s → (j : Int) ≠ t → gone l (ati f) j = 0) := HK.out (fun _ h => absurd e2 h)
                    clear e1 e2 HK HO hy
                    go_wp2
                    go_roundw
                    case rel => exact ⟨v + 1, by omega, by go_num, HR, trivial⟩
                    case measure => simp [intOf]; omega
                  · have e2' : ((v : Int) != t) = true := by simpa using e2
                    have HR : Hid (flowErr N s t l f = 8) := HO.out hy e1 e2
                    clear e1 e2 HK HO hy
                    go_wp2
                    go_ret
                    rw [HR.out]
                    exact ⟨HB2.out, rfl⟩
            · have hvN : N = v := by omega
              subst hvN
              have HR : Hid (flowErr N s t l f = 0) := flow_mk HE.out ⟨Hlen.out, hok.out, by rw [Int.toNat_natCast]; exact hok2.out⟩
              go_wp2
              go_ret
              rw [HR.out]
              exact ⟨HB2.out, rfl⟩
    · have hl1 : ((f.length : Int) != (l.length : Int)) = true := by simp; omega
      have HR : Hid (flowErr n s t l f = 3) := flow_form HE.out hlen
      clear hlen
      go_wp2
      go_ret
      rw [HR.out]
      exact ⟨HB0.out, rfl⟩
  · have hE' : (E != 0) = true := by simpa using hE
    have HR : Hid (flowErr n s t l f = E) := (flow_bad (by rw [HE.out]; exact hE)).trans HE.out
    clear hE
    go_wp2
    go_ret
    rw [HR.out]
    exact ⟨HB0.out, rfl⟩

set_option maxHeartbeats 2000000 in
theorem FValue_any : FValueC := by
  intro n s t ao af cap capf l f w hG hFI
  have x0 := blk_new w (.cells #[.int .i64 n, .int .i64 s, .int .i64 t, .slice ao l.length cap] 43)
  have hc := FCheck_any n s t ao af cap capf l f _ (hG.alloc (.cells #[.int .i64 n, .int .i64 s, .int .i64 t, .slice ao l.length cap] 43)) (hFI.alloc (.cells #[.int .i64 n, .int .i64 s, .int .i64 t, .slice ao l.length cap] 43))
  have hG0 := hG.alloc (.cells #[.int .i64 n, .int .i64 s, .int .i64 t, .slice ao l.length cap] 43)
  have hF0 := hFI.alloc (.cells #[.int .i64 n, .int .i64 s, .int .i64 t, .slice ao l.length cap] 43)
  have HV : Hid (valueOf n s t l f = if flowErr n s t l f = 0 then gone l (ati f) s else 0) := rfl
  obtain ⟨Vv, hVv⟩ : ∃ V, valueOf n s t l f = V := ⟨_, rfl⟩
  obtain ⟨E, hEE⟩ : ∃ E, flowErr n s t l f = E := ⟨_, rfl⟩
  rw [hEE] at hc
  rw [hVv, hEE] at HV ⊢
  have HE : Hid (flowErr n s t l f = E) := hEE
  clear hG hFI hEE hVv
  go_enter Try.func20, Try.ntmps20
  go_wp2_with fail
  refine hc.mono ?_
  rintro e W ⟨hb1, rfl⟩
  simp only [World.size_alloc] at hb1
  have hz1 := hb1.size
  simp only [World.size_alloc] at hz1
  have x1 := blk_below hb1 x0 (by omega)
  obtain ⟨r0, r1, r2, r3⟩ := blk4 x1
  have hwz : w.heap.size < W.heap.size := by omega
  have HB0 : Hid (Below w.heap.size w W) := below_in hb1 (by omega)
  have hG1 := hG0.below hb1 (by simp)
  have hF1 := hF0.below hb1 (by simp)
  clear hc hb1 x0 hG0 hF0 hz1
  by_cases hE : E = 0
  · subst hE
    have h0 : ((0 : Int) != 0) = false := rfl
    rw [if_pos rfl] at HV
    obtain ⟨hN, hFf⟩ := flow_ok HE.out
    obtain ⟨hge, hs, ht, hst⟩ := net_ok hN
    obtain ⟨⟨hn1, hn2⟩, hl60, hall⟩ := err_ok hge
    obtain ⟨N, rfl⟩ := Int.eq_ofNat_of_zero_le (show 0 ≤ n by omega)
    obtain ⟨sN, rfl⟩ := Int.eq_ofNat_of_zero_le hs.1
    have hsur := fun w hA hF => surplus_any N sN t ao af cap capf l f w (by omega) hl60 (net_nodes hN) hFf.len hA hF (fun k hk => by
      have := hFf.bnd k hk
      have := (hall _ (at3_mem l k hk)).2.2.2
      omega)
    have hlen := hFf.len
    rw [hlen]
    have hsN : sN < N := by omega
    have HX1 : Hid (W.heap[w.heap.size]? = some (.cells #[.int .i64 (N : Int), .int .i64 (sN : Int), .int .i64 t, .slice ao l.length cap] 43 (0, 0))) := x1
    have HSur : Hid (∀ w : World, ArcsAt w ao l → IntsAt w af f → Calls Try.prog 29 #[.agg #[.int .i64 (N : Int), .int .i64 (sN : Int), .int .i64 t, .slice ao l.length cap], .slice af l.length capf] w fun e w' => Below w.heap.size w w' ∧
      ∃ b, w.heap.size ≤ b ∧ e = .returned (.slice (some ⟨b, 0, none⟩) N N) ∧ w'.rowIs b 3 N (fun j => .int .i64 (gone l (ati f) (j : Int)))) := hsur
    have HA : Hid (ArcsAt W ao l) := hG1.arcs
    have HF : Hid (IntsAt W af f) := hF1.ints
    clear hsur hN hFf hge hall hs ht hst hlen hG1 hF1 x1
    go_wp2
    go_region_with (go_at_call 29; refine (HSur.out _ HA.out.drew HF.out.drew).mono ?_; rintro e w3 ⟨hb3, gb, hgb, rfl, hrow⟩; have hbW : Below W.heap.size W w3 := ((Below.refl W.heap.size W).drew).trans hb3; have q0 := later hbW r0 hwz; have q1 := later hbW r1 hwz; have c0 := hrow.cell (i := sN) hsN; have hzr := hrow.lt; have hzw := hbW.size; have hw3 : w.heap.size < w3.heap.size := (by omega))
    all_goals
      go_wp2
      go_ret2
      rw [HV.out]
      exact ⟨HB0.out.trans (hbW.mono (by omega)), rfl⟩
  · have hE' : (E != 0) = true := by simpa using hE
    rw [if_neg hE] at HV
    clear hE
    go_wp2
    go_ret2
    rw [HV.out]
    exact ⟨HB0.out, rfl⟩

end Go.Proofs.Ytmneajmfoljflaa
