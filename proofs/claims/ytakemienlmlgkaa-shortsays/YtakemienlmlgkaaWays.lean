/- Contract of the document's own lengths: Ways. -/
import Derived.Test.YtakemienlmlgkaaFloyd
import Derived.Test.YtakemienlmlgkaaMat
import Derived.Test.YtakemienlmlgkaaRepeat
import Derived.BigRegion
namespace Go.Proofs.Ytakemienlmlgkaa
open Go.RowKit
set_option linter.unusedVariables false

set_option maxHeartbeats 4000000 in
set_option maxRecDepth 100000 in
theorem Ways_any (N : Nat) (ao : Option Addr) (cap : Nat) (l : List Arc3) (w : World) (hA : ArcsAt w ao l) (hm : l.length ≤ maxLen) (h1 : 1 ≤ N) (h12 : N ≤ 12)
    (hl : ∀ a ∈ l, (0 ≤ a.1 ∧ a.1 < (N : Int)) ∧ (0 ≤ a.2.1 ∧ a.2.1 < (N : Int))) :
    Calls Try.prog 15 #[.agg #[.int .i64 (N : Int), .slice ao l.length cap]] w fun e w' => Below w.heap.size w w' ∧
      ∃ D R M, e = .returned (.slice (some ⟨D, 0, none⟩) N N) ∧ PMat w.heap.size w' D R N N N M ∧ ∃ M1, IsInit N l M1 ∧ ∀ i k, i < N → k < N → M i k = flo M1 N i k := by
  unfold maxLen at hm
  have hmk := make_intss N (by omega)
  have HL : Hid (∀ a ∈ l, (0 ≤ a.1 ∧ a.1 < (N : Int)) ∧ (0 ≤ a.2.1 ∧ a.2.1 < (N : Int))) := hl
  have hA0 := hA.alloc (.cells #[.int .i64 (N : Int), .slice ao l.length cap] 24)
  clear hl
  go_enter Try.func15, Try.ntmps15
  go_wp2
  go_loopw [15] (fun i wr => ∃ c : Nat, c ≤ N ∧ i = .int .i64 c ∧ (∃ R, PMat (w.heap.size + 1) wr (w.heap.size + 1) R N N c M0) ∧ Below (w.heap.size + 1) (w.alloc (.cells #[.int .i64 (N : Int), .slice ao l.length cap] 24)) wr) (fun i _ => N - (intOf i).toNat)
  case atStart =>
    refine ⟨0, Nat.zero_le _, rfl, ⟨fun _ => 0, ?_⟩, (Below.refl _ _).alloc (by simp) _⟩
    have := nils_mat (w.heap.size + 1) (w.alloc (.cells #[.int .i64 (N : Int), .slice ao l.length cap] 24)) N N (fun _ => 0) M0 (by simp)
    rwa [World.size_alloc] at this
  case round =>
    obtain ⟨c, hc, rfl, ⟨R, hP⟩, hB⟩ := hrel
    have hz := hB.size
    simp only [World.size_alloc] at hz
    have hD := hP.outer.lt
    have x1 := blk_below hB (blk_new w (.cells #[.int .i64 (N : Int), .slice ao l.length cap] 24)) (by omega)
    obtain ⟨r0, r1, f0, f1⟩ := blk2 x1
    by_cases hlt : c < N
    · have HP : Hid (PMat (w.heap.size + 1) wr (w.heap.size + 1) R N N c M0) := hP
      have HBB : Hid (Below (w.heap.size + 1) (w.alloc (.cells #[.int .i64 (N : Int), .slice ao l.length cap] 24)) wr) := hB
      clear hP hB x1
      have hwz : w.heap.size < wr.heap.size := by omega
      go_wp2_with fail
      refine (repeat_one 1099511627776 wr.heap.size 0 1 N _ h1 h12 (by simp) (newest #[.int .i64 1099511627776] 3 0)).mono ?_
      rintro e w2 ⟨hb2, g, hg, rfl, hrow⟩
      simp only [World.size_alloc] at hb2 hg
      have hz2 := hb2.size
      simp only [World.size_alloc] at hz2
      have hP2 := (HP.out.alloc (.cells #[.int .i64 1099511627776] 3)).below hb2 (by simp)
      have hgl := hrow.lt
      have o1 := hP2.outer.cell (i := c) hlt
      have o2 := hP2.outer.frozen c
      have o3 := hrow.cell (i := c) hlt
      have o4 := hrow.frozen c
      have hgD : g ≠ w.heap.size + 1 := by omega
      have hne : w.heap.size + 1 < g := by omega
      have HP2 : Hid (PMat (w.heap.size + 1) w2 (w.heap.size + 1) R N N c M0) := hP2
      have HRow : Hid (w2.rowIs g 3 N (fun _ => .int .i64 1099511627776)) := hrow
      have HRl : Hid (∀ i, i < c → g ≠ R i) := fun i hi => by have := (HP.out.inner i hi).lt; omega
      have HB2 : Hid (Below (wr.heap.size + 1) (wr.alloc (.cells #[.int .i64 1099511627776] 3)) w2) := hb2
      clear hP2 HP hrow hb2
      go_wp2
      go_roundw
      case rel =>
        have q := (HP2.out.more hlt (f := fun _ => noEnd) HRow.out (by omega) hgD HRl.out).set (i := c) (by omega) c 0
        simp only [if_true] at q
        refine ⟨c + 1, by omega, by go_num, ⟨_, q.congr fun i j hi hj => ?_⟩, ?_⟩
        · unfold M0
          by_cases e : i = c
          · subst e
            by_cases e2 : j = i
            · subst e2; simp
            · simp [e2, show ¬ i = j from fun h => e2 h.symm]
          · simp [e]
        · exact (((HBB.out.alloc (by omega) _).trans (HB2.out.mono (by omega))).setCell (by simp) _).setCell (by simp; omega) _
      case measure => simp [intOf]; omega
    · have hcN : N = c := by omega
      subst hcN
      have hA1 := hA0.below hB (by simp)
      have hwz : w.heap.size < wr.heap.size := by omega
      obtain ⟨W1, hW1⟩ : ∃ W1, W1 = wr := ⟨_, rfl⟩
      have HRw : Hid (∀ i, i < N → w.heap.size + 1 ≤ R i) := fun i hi => by have := hP.low.2 i hi; omega
      have HP0 : Hid (PMat (w.heap.size + 1) wr (w.heap.size + 1) R N N N M0) := hP
      have HB0 : Hid (Below (w.heap.size + 1) (w.alloc (.cells #[.int .i64 (N : Int), .slice ao l.length cap] 24)) wr) := hB
      have HA0 : Hid (ArcsAt (w.alloc (.cells #[.int .i64 (N : Int), .slice ao l.length cap] 24)) ao l) := hA0
      clear hP hB x1 hmk hW1 W1 hA0 hA1
      go_wp2
      go_loopw [35] (fun i wq => ∃ k : Nat, k ≤ l.length ∧ i = .int .i64 k ∧ (∃ M, PMat (w.heap.size + 1) wq (w.heap.size + 1) R N N N M ∧ IsInit N (l.take k) M) ∧ Below (w.heap.size + 1) (w.alloc (.cells #[.int .i64 (N : Int), .slice ao l.length cap] 24)) wq) (fun i _ => l.length - (intOf i).toNat)
      case atStart => exact ⟨0, Nat.zero_le _, rfl, ⟨M0, HP0.out, init_nil N⟩, HB0.out⟩
      case round =>
        obtain ⟨k, hk, rfl, ⟨M, hP, hI⟩, hB⟩ := hrel
        clear r0 r1 f0 f1 hwz hz HP0 HB0 hD
        have hz := hB.size
        simp only [World.size_alloc] at hz
        have hD := hP.outer.lt
        have hwz : w.heap.size < wr.heap.size := by omega
        by_cases hkl : k < l.length
        · obtain ⟨b, off, rfl, hb, c0, c1, c2⟩ := HA0.out.below hB (by simp) k hkl
          have hmem := HL.out _ (at3_mem l k hkl)
          have hsn := take_snoc3 l k hkl
          generalize ha : at3 l k = a at *
          obtain ⟨f, t, c⟩ := a
          simp only at c0 c1 c2 hmem
          obtain ⟨⟨p1, p2⟩, p3, p4⟩ := hmem
          obtain ⟨f, rfl⟩ := Int.eq_ofNat_of_zero_le p1
          obtain ⟨t, rfl⟩ := Int.eq_ofNat_of_zero_le p3
          have hf : f < N := by omega
          have ht : t < N := by omega
          have HI : Hid (IsInit N (l.take (k + 1)) (fun a b => if a = f ∧ b = t then min (M f t) 1 else M a b)) := by rw [Hid, hsn]; exact init_step hI f t c hf ht
          have d1 := hP.at hf
          have d2 := hP.num hf ht
          have d3 := (hP.inner f hf).frozen t
          have hRl := (hP.inner f hf).lt
          have hRD := hP.apart f hf
          have hRB := hP.low.2 f hf
          have HP : Hid (PMat (w.heap.size + 1) wr (w.heap.size + 1) R N N N M) := hP
          have HB : Hid (Below (w.heap.size + 1) (w.alloc (.cells #[.int .i64 (N : Int), .slice (some ⟨b, off, none⟩) l.length cap] 24)) wr) := hB
          obtain ⟨x, hx⟩ : ∃ x, x = M f t := ⟨_, rfl⟩
          rw [← hx] at d2
          have HX : Hid (x = M f t) := hx
          clear hP hB hI ha hsn hx
          have HBx : Hid (Below (w.heap.size + 1) (w.alloc (.cells #[.int .i64 (N : Int), .slice (some ⟨b, off, none⟩) l.length cap] 24)) wr ∧ w.heap.size + 1 ≤ R f) := ⟨HB.out, by have := hRB; have := HRw.out f hf; omega⟩
          clear HB
          by_cases hx1 : 1 < x
          · have HQ : Hid (PMat (w.heap.size + 1) (wr.setCell ⟨R f, t, none⟩ (.int .i64 1)) (w.heap.size + 1) R N N N (fun a b => if a = f ∧ b = t then min (M f t) 1 else M a b)) := by
              have := HP.out.set hf t 1
              rw [← HX.out, show min x 1 = 1 by omega]
              exact this
            go_wp2
            go_region
            go_wp2
            go_roundw
            case rel =>
              refine ⟨k + 1, by omega, by go_num, ⟨_, ?_, HI.out⟩, ?_⟩
              · exact (HQ.out.alloc _).drew
              · exact ((HBx.out.1.setCell HBx.out.2 _).alloc (by simp; omega) _).drew
            case measure => simp [intOf]; omega
          · have HQ : Hid (PMat (w.heap.size + 1) (wr.setCell ⟨R f, t, none⟩ (.int .i64 x)) (w.heap.size + 1) R N N N (fun a b => if a = f ∧ b = t then min (M f t) 1 else M a b)) := by
              have := HP.out.set hf t x
              rw [← HX.out, show min x 1 = x by omega]
              exact this
            go_wp2
            go_region
            go_wp2
            go_roundw
            case rel =>
              refine ⟨k + 1, by omega, by go_num, ⟨_, ?_, HI.out⟩, ?_⟩
              · exact (HQ.out.alloc _).drew
              · exact ((HBx.out.1.setCell HBx.out.2 _).alloc (by simp; omega) _).drew
            case measure => simp [intOf]; omega
        · have hkk : k = l.length := by omega
          subst hkk
          rw [List.take_length] at hI
          have HI : Hid (IsInit N l M) := hI
          have HP1 : Hid (PMat (w.heap.size + 1) wr (w.heap.size + 1) R N N N M) := hP
          have HB1 : Hid (Below (w.heap.size + 1) (w.alloc (.cells #[.int .i64 (N : Int), .slice ao l.length cap] 24)) wr) := hB
          clear hP hB hI
          go_wp2
          go_loopw [60] (fun i wq => ∃ m : Nat, m ≤ N ∧ i = .int .i64 m ∧ PMat (w.heap.size + 1) wq (w.heap.size + 1) R N N N (flo M m) ∧ Below (w.heap.size + 1) (w.alloc (.cells #[.int .i64 (N : Int), .slice ao l.length cap] 24)) wq) (fun i _ => N - (intOf i).toNat)
          case atStart => exact ⟨0, Nat.zero_le _, rfl, HP1.out, HB1.out⟩
          case round =>
            obtain ⟨m, hm, rfl, hP, hB⟩ := hrel
            clear HP1 HB1
            by_cases hmN : m < N
            · have HP1 : Hid (PMat (w.heap.size + 1) wr (w.heap.size + 1) R N N N (flo M m)) := hP
              have HB1 : Hid (Below (w.heap.size + 1) (w.alloc (.cells #[.int .i64 (N : Int), .slice ao l.length cap] 24)) wr) := hB
              clear hP hB
              go_wp2
              go_loopw [65] (fun s wq => ∃ i : Nat, i ≤ N ∧ s = .int .i64 i ∧ PMat (w.heap.size + 1) wq (w.heap.size + 1) R N N N (mixM M m i 0) ∧ Below (w.heap.size + 1) (w.alloc (.cells #[.int .i64 (N : Int), .slice ao l.length cap] 24)) wq) (fun s _ => N - (intOf s).toNat)
              case atStart => exact ⟨0, Nat.zero_le _, rfl, HP1.out.congr fun a b _ _ => (mix_start M m a b).symm, HB1.out⟩
              case round =>
                obtain ⟨i, hi, rfl, hP, hB⟩ := hrel
                clear HP1 HB1
                by_cases hiN : i < N
                · have HP1 : Hid (PMat (w.heap.size + 1) wr (w.heap.size + 1) R N N N (mixM M m i 0)) := hP
                  have HB1 : Hid (Below (w.heap.size + 1) (w.alloc (.cells #[.int .i64 (N : Int), .slice ao l.length cap] 24)) wr) := hB
                  clear hP hB
                  go_wp2
                  go_loopw [70] (fun s wq => ∃ k : Nat, k ≤ N ∧ s = .int .i64 k ∧ PMat (w.heap.size + 1) wq (w.heap.size + 1) R N N N (mixM M m i k) ∧ Below (w.heap.size + 1) (w.alloc (.cells #[.int .i64 (N : Int), .slice ao l.length cap] 24)) wq) (fun s _ => N - (intOf s).toNat)
                  case atStart => exact ⟨0, Nat.zero_le _, rfl, HP1.out, HB1.out⟩
                  case round =>
                    obtain ⟨k, hk, rfl, hP, hB⟩ := hrel
                    clear HP1 HB1
                    by_cases hkN : k < N
                    · obtain ⟨x, hx⟩ : ∃ x, x = flo M m i k := ⟨_, rfl⟩
                      obtain ⟨y, hy⟩ : ∃ y, y = flo M m i m := ⟨_, rfl⟩
                      obtain ⟨z, hz⟩ : ∃ z, z = flo M m m k := ⟨_, rfl⟩
                      obtain ⟨_, hbd, _⟩ := flo_ok HI.out m (by omega)
                      have bx := hbd i k hiN hkN
                      have by' := hbd i m hiN hmN
                      have bz := hbd m k hmN hkN
                      rw [← hx] at bx
                      rw [← hy] at by'
                      rw [← hz] at bz
                      have hno : noEnd = 1099511627776 := rfl
                      rw [hno] at bx by' bz
                      have d1 := hP.at hiN
                      have d2 := hP.at hmN
                      have n1 := hP.num hiN hkN
                      have n2 := hP.num hiN hmN
                      have n3 := hP.num hmN hkN
                      rw [mix_here, ← hx] at n1
                      rw [(mix_col HI.out hmN hiN hkN).1, ← hy] at n2
                      rw [(mix_col HI.out hmN hiN hkN).2, ← hz] at n3
                      have fz := (hP.inner i hiN).frozen k
                      have HNext : Hid (PMat (w.heap.size + 1) (wr.setCell ⟨R i, k, none⟩ (.int .i64 (min x (y + z)))) (w.heap.size + 1) R N N N (mixM M m i (k + 1))) := by
                        refine (hP.set hiN k (min x (y + z))).congr fun a b _ _ => ?_
                        rw [← mix_next, hx, hy, hz]
                      have HB1 : Hid (Below (w.heap.size + 1) (w.alloc (.cells #[.int .i64 (N : Int), .slice ao l.length cap] 24)) wr ∧ w.heap.size + 1 ≤ R i) := ⟨hB, HRw.out i hiN⟩
                      clear hx hy hz hno hbd hP hB
                      by_cases hmin : y + z < x
                      · rw [show min x (y + z) = y + z by omega] at HNext
                        go_wp2
                        go_region
                        go_wp2
                        go_roundw
                        case rel => exact ⟨k + 1, by omega, by go_num, HNext.out.drew, (HB1.out.1.setCell HB1.out.2 _).drew⟩
                        case measure => simp [intOf]; omega
                      · rw [show min x (y + z) = x by omega] at HNext
                        go_wp2
                        go_region
                        go_wp2
                        go_roundw
                        case rel => exact ⟨k + 1, by omega, by go_num, HNext.out.drew, (HB1.out.1.setCell HB1.out.2 _).drew⟩
                        case measure => simp [intOf]; omega
                    · have hkk : N = k := by omega
                      subst hkk
                      have HP1 : Hid (PMat (w.heap.size + 1) wr (w.heap.size + 1) R N N N (mixM M m (i + 1) 0)) := hP.congr fun a b _ hb => mix_row M m i N a b hb
                      clear hP
                      go_wp2
                      go_roundw
                      case rel => exact ⟨i + 1, by omega, by go_num, HP1.out, hB⟩
                      case measure => simp [intOf]; omega
                · have hii : N = i := by omega
                  subst hii
                  have HP1 : Hid (PMat (w.heap.size + 1) wr (w.heap.size + 1) R N N N (flo M (m + 1))) := hP.congr fun a b ha _ => mix_end M m N a b ha
                  clear hP
                  go_wp2
                  go_roundw
                  case rel => exact ⟨m + 1, by omega, by go_num, HP1.out, hB⟩
                  case measure => simp [intOf]; omega
            · have hmm : N = m := by omega
              subst hmm
              have HP1 : Hid (PMat w.heap.size wr (w.heap.size + 1) R N N N (flo M N)) := hP.weaken (by omega)
              clear hP
              go_wp2
              go_ret
              exact ⟨below_in hB (by omega), w.heap.size + 1, R, flo M N, rfl, HP1.out, M, HI.out, fun _ _ _ _ => rfl⟩

end Go.Proofs.Ytakemienlmlgkaa
