/- Contract of the document's own FlowErr. -/
import Derived.Test.YtlfhnhfhaifchaaNet
namespace Go.Proofs.Ytlfhnhfhaifchaa
open Go.RowKit
set_option linter.unusedVariables false

set_option maxHeartbeats 4000000 in
theorem refFlowErr_any (n s t : Int) (ao af : Option Addr) (cap capf : Nat) (l : List Arc3) (f : List Int) (w : World) (hm : l.length ≤ maxLen) (hmf : f.length ≤ maxLen) (hA : ArcsAt w ao l) (hF : IntsAt w af f) :
    Calls Try.prog 20 #[.agg #[.int .i64 n, .int .i64 s, .int .i64 t, .slice ao l.length cap], .slice af f.length capf] w fun e w' =>
      e = .returned (.int .i64 (flowErr n s t l f)) ∧ Below w.heap.size w w' := by
  unfold maxLen at hm hmf
  have hA0 := hA.alloc (.cells #[.int .i64 n, .int .i64 s, .int .i64 t, .slice ao l.length cap] 24)
  have hF0 := hF.alloc (.cells #[.int .i64 n, .int .i64 s, .int .i64 t, .slice ao l.length cap] 24)
  have x0 := blk_new w (.cells #[.int .i64 n, .int .i64 s, .int .i64 t, .slice ao l.length cap] 24)
  have hc := refNetErr_any n s t ao cap l _ hm hA0
  obtain ⟨E, hEE⟩ : ∃ E, netErr n s t l = E := ⟨_, rfl⟩
  rw [hEE] at hc
  have HE : Hid (netErr n s t l = E) := hEE
  clear hA hF hEE
  go_enter Try.func20, Try.ntmps20
  go_wp2_with fail
  refine hc.mono ?_
  rintro e W ⟨rfl, hb1⟩
  simp only [World.size_alloc] at hb1
  have hz1 := hb1.size
  simp only [World.size_alloc] at hz1
  have x1 := blk_below hb1 x0 (by omega)
  obtain ⟨r0, r1, r2, r3⟩ := blk4 x1
  have hwz : w.heap.size < W.heap.size := by omega
  have HB0 : Hid (Below w.heap.size w W) := below_in hb1 (by omega)
  have HA : Hid (ArcsAt W ao l) := hA0.below hb1 (by simp)
  have HF : Hid (IntsAt W af f) := hF0.below hb1 (by simp)
  have HX : Hid (W.heap[w.heap.size]? = some (.cells #[.int .i64 n, .int .i64 s, .int .i64 t, .slice ao l.length cap] 24 (0, 0))) := x1
  clear hc hb1 x0 x1 hA0 hF0 hz1
  by_cases hE : E = 0
  · subst hE
    have h0 : ((0 : Int) != 0) = false := rfl
    obtain ⟨hge, hs, ht, hst⟩ := net_ok HE.out
    obtain ⟨⟨hn1, hn2⟩, hl60, hall⟩ := err_ok hge
    have HCap : Hid (∀ k, k < l.length → (at3 l k).2.2 ≤ 10000) := fun k hk => (hall _ (at3_mem l k hk)).2.2.2
    clear hge hall
    by_cases hlen : f.length = l.length
    · have Hlen : Hid (f.length = l.length) := hlen
      rw [hlen]
      have hl2 : ((l.length : Int) != (l.length : Int)) = false := by simp
      clear hlen
      go_wp2
      go_loopw [23] (fun i wr => ∃ k : Nat, k ≤ l.length ∧ i = .int .i64 k ∧ Hid (∀ j, j < k → 0 ≤ ati f j ∧ ati f j ≤ (at3 l j).2.2) ∧ Below W.heap.size W wr) (fun i _ => l.length - (intOf i).toNat)
      case atStart => exact ⟨0, Nat.zero_le _, rfl, fun j hj => absurd hj (Nat.not_lt_zero _), Below.refl _ _⟩
      case round =>
        obtain ⟨k, hk, rfl, hok, hB⟩ := hrel
        have hz := hB.size
        by_cases hlt : k < l.length
        · obtain ⟨b, off, rfl, hbb, c0, c1, c2⟩ := HA.out.below hB (Nat.le_refl _) k hlt
          obtain ⟨b2, o2, rfl, hb2, d0⟩ := HF.out.below hB (Nat.le_refl _) k (by rw [Hlen.out]; exact hlt)
          have HK : Hid ((0 ≤ ati f k ∧ ati f k ≤ (at3 l k).2.2) → ∀ j, j < k + 1 → 0 ≤ ati f j ∧ ati f j ≤ (at3 l j).2.2) := fun h j hj => by
            by_cases e : j = k
            · subst e; exact h
            · exact hok.out j (by omega)
          have HO : Hid (¬ (0 ≤ ati f k ∧ ati f k ≤ (at3 l k).2.2) → flowErr n s t l f = 7) := fun h => flow_over HE.out Hlen.out hlt h
          generalize (at3 l k).1 = p at *
          generalize (at3 l k).2.1 = q at *
          generalize (at3 l k).2.2 = c at *
          generalize ati f k = y at *
          clear hok
          by_cases e1 : y < 0
          · have HR := HO.out (by omega)
            have HR' : Hid (flowErr n s t l f = 7) := HR
            have e1' : decide (y < 0) = true := decide_eq_true e1
            clear HO HK HR
            go_wp2
            go_quiet (fail)
            go_wp2
            go_ret
            rw [HR'.out]
            exact ⟨rfl, HB0.out.trans ((below_drewN (hB.alloc (by omega) _) _).mono (by omega))⟩
          · have e1' : decide (y < 0) = false := decide_eq_false e1
            by_cases e2 : c < y
            · have HR := HO.out (by omega)
              have HR' : Hid (flowErr n s t l f = 7) := HR
              have e2' : decide (c < y) = true := decide_eq_true e2
              clear HO HK HR
              go_wp2
              go_quiet (fail)
              go_wp2
              go_ret
              rw [HR'.out]
              exact ⟨rfl, HB0.out.trans ((below_drewN (hB.alloc (by omega) _) _).mono (by omega))⟩
            · have e2' : decide (c < y) = false := decide_eq_false e2
              have HR : Hid (∀ j, j < k + 1 → 0 ≤ ati f j ∧ ati f j ≤ (at3 l j).2.2) := HK.out (by omega)
              clear HO HK
              go_wp2
              go_quiet (fail)
              go_wp2
              go_roundw
              case rel => exact ⟨k + 1, by omega, by go_num, HR, below_drewN (hB.alloc (by omega) _) _⟩
              case measure => simp [intOf]; omega
        · have hkk : l.length = k := by omega
          subst hkk
          obtain ⟨N, rfl⟩ := Int.eq_ofNat_of_zero_le (show 0 ≤ n by omega)
          have x2 := blk_below hB HX.out hwz
          clear r0 r1 r2 r3
          obtain ⟨r0, r1, r2, r3⟩ := blk4 x2
          have hbd : ∀ k, k < l.length → 0 ≤ ati f k ∧ ati f k ≤ 10000 := fun k hk => by
            have := hok.out k hk
            have := HCap.out k hk
            omega
          have HBd : Hid (∀ k, k < l.length → 0 ≤ ati f k ∧ ati f k ≤ 10000) := hbd
          have HB1 : Hid (Below w.heap.size w wr) := HB0.out.trans (hB.mono (by omega))
          have HA1 : Hid (ArcsAt wr ao l) := HA.out.below hB (Nat.le_refl _)
          have HF1 : Hid (IntsAt wr af f) := HF.out.below hB (Nat.le_refl _)
          have HX1 : Hid (wr.heap[w.heap.size]? = some (.cells #[.int .i64 (N : Int), .int .i64 s, .int .i64 t, .slice ao l.length cap] 24 (0, 0))) := x2
          have hwz2 : w.heap.size < wr.heap.size := by have := hB.size; omega
          clear hbd hB x2 HA HF HX HB0 hwz
          obtain ⟨V, hV⟩ : ∃ V, V = wr := ⟨_, rfl⟩
          subst hV
          go_wp2
          go_loopw [45] (fun i wr => ∃ v : Nat, v ≤ N ∧ i = .int .i64 v ∧ Hid (∀ j : Nat, j < v → (j : Int) ≠ s → (j : Int) ≠ t → gone l (ati f) j = 0) ∧ Below V.heap.size V wr) (fun i _ => N - (intOf i).toNat)
          case atStart => exact ⟨0, Nat.zero_le _, rfl, fun j hj => absurd hj (Nat.not_lt_zero _), Below.refl _ _⟩
          case round =>
            obtain ⟨v, hv, rfl, hok2, hB⟩ := hrel
            clear r0 r1 r2 r3
            have hz := hB.size
            have x3 := blk_below hB HX1.out hwz2
            obtain ⟨r0, r1, r2, r3⟩ := blk4 x3
            clear x3
            by_cases hlt : v < N
            · have HK : Hid (((v : Int) ≠ s → (v : Int) ≠ t → gone l (ati f) v = 0) → ∀ j : Nat, j < v + 1 → (j : Int) ≠ s → (j : Int) ≠ t → gone l (ati f) j = 0) := fun h j hj => by
                by_cases e : j = v
                · subst e; exact h
                · exact hok2.out j (by omega)
              by_cases e1 : (v : Int) = s
              · have e1' : ((v : Int) != s) = false := by simpa using e1
                have HR : Hid (∀ j : Nat, j < v + 1 → (j : Int) ≠ s → (j : Int) ≠ t → gone l (ati f) j = 0) := HK.out (fun h => absurd e1 h)
                clear e1 HK
                go_wp2
                go_roundw
                case rel => exact ⟨v + 1, by omega, by go_num, HR, hB⟩
                case measure => simp [intOf]; omega
              · have e1' : ((v : Int) != s) = true := by simpa using e1
                by_cases e2 : (v : Int) = t
                · have e2' : ((v : Int) != t) = false := by simpa using e2
                  have HR : Hid (∀ j : Nat, j < v + 1 → (j : Int) ≠ s → (j : Int) ≠ t → gone l (ati f) j = 0) := HK.out (fun _ h => absurd e2 h)
                  clear e1 e2 HK
                  go_wp2
                  go_roundw
                  case rel => exact ⟨v + 1, by omega, by go_num, HR, hB⟩
                  case measure => simp [intOf]; omega
                · have e2' : ((v : Int) != t) = true := by simpa using e2
                  have hg := refGone_any (N : Int) s t (v : Int) ao af cap capf l f wr hl60 Hlen.out (HA1.out.below hB (Nat.le_refl _)) (HF1.out.below hB (Nat.le_refl _)) HBd.out
                  have HO : Hid (gone l (ati f) v ≠ 0 → flowErr N s t l f = 8) := fun h => flow_lost HE.out Hlen.out hok.out (by simpa using hlt) e1 e2 h
                  generalize gone l (ati f) v = y at *
                  clear e1 e2
                  go_wp2_with fail
                  refine hg.mono ?_
                  rintro e w4 ⟨rfl, hb4⟩
                  have hB4 := hB.trans (hb4.mono (by omega))
                  clear hg hb4
                  by_cases hy : y = 0
                  · have hy' : (y != 0) = false := by simpa using hy
                    have HR : Hid (∀ j : Nat, j < v + 1 → (j : Int) ≠ s → (j : Int) ≠ t → gone l (ati f) j = 0) := HK.out (fun _ _ => hy)
                    clear hy HK HO
                    go_wp2
                    go_roundw
                    case rel => exact ⟨v + 1, by omega, by go_num, HR, hB4⟩
                    case measure => simp [intOf]; omega
                  · have hy' : (y != 0) = true := by simpa using hy
                    have HR : Hid (flowErr N s t l f = 8) := HO.out hy
                    clear hy HK HO
                    go_wp2
                    go_ret
                    rw [HR.out]
                    exact ⟨rfl, HB1.out.trans (hB4.mono (by omega))⟩
            · have hvN : N = v := by omega
              subst hvN
              have HR : Hid (flowErr N s t l f = 0) := flow_mk HE.out ⟨Hlen.out, hok.out, by rw [Int.toNat_natCast]; exact hok2.out⟩
              go_wp2
              go_ret
              rw [HR.out]
              exact ⟨rfl, HB1.out.trans (hB.mono (by omega))⟩
    · have hl1 : ((f.length : Int) != (l.length : Int)) = true := by simp; omega
      have HR : Hid (flowErr n s t l f = 3) := flow_form HE.out hlen
      clear hlen
      go_wp2
      go_ret
      rw [HR.out]
      exact ⟨rfl, HB0.out⟩
  · have hE' : (E != 0) = true := by simpa using hE
    have HR : Hid (flowErr n s t l f = E) := (flow_bad (by rw [HE.out]; exact hE)).trans HE.out
    clear hE
    go_wp2
    go_ret
    rw [HR.out]
    exact ⟨rfl, HB0.out⟩

end Go.Proofs.Ytlfhnhfhaifchaa
