/- Contract of the document's own Both: each arc twice. -/
import Derived.Test.YtkcjemhbenkglaaWMath
import Derived.Test.YtkcjemhbenkglaaClone
import Derived.Test.YtkcjemhbenkglaaMk
import Derived.Test.YtkcjemhbenkglaaOwns
namespace Go.Proofs.Ytkcjemhbenkglaa
open Go.RowKit
set_option linter.unusedVariables false

/-- what has come so far -/
def bothTo (l : List Arc3) (k : Nat) : List Arc3 := l ++ (l.take k).map turnA

set_option maxHeartbeats 2000000 in
set_option maxRecDepth 100000 in
theorem Both_any (n : Int) (ao : Option Addr) (cap : Nat) (l : List Arc3) (w : World) (hA : ArcsAt w ao l) (hn : ao = none → l.length = 0 ∧ cap = 0) (hlen : l.length ≤ 60) :
    Calls Try.prog 31 #[.agg #[.int .i64 n, .slice ao l.length cap]] w fun e w' => Below w.heap.size w w' ∧
      ∃ ao' cap', e = .returned (.agg #[.int .i64 n, .slice ao' (both l).length cap']) ∧ ArcsAt w' ao' (both l) ∧ (both l).length ≤ cap' ∧ cap' ≤ maxLen := by
  have HN : Hid (ao = none → l.length = 0 ∧ cap = 0) := hn
  obtain ⟨W, hW⟩ : ∃ W : World, W = (w.alloc (.cells #[.int .i64 n, .slice ao l.length cap] 24)).alloc (.cells #[.int .i64 0, .slice none 0 0] 24) := ⟨_, rfl⟩
  have hWz : W.heap.size = w.heap.size + 2 := by rw [hW]; simp
  have hA0 : ArcsAt W ao l := by rw [hW]; exact (hA.alloc _).alloc _
  have x0 : W.heap[w.heap.size]? = some (.cells #[.int .i64 n, .slice ao l.length cap] 24 (0, 0)) := by rw [hW]; exact blk_old (blk_new _ _) _
  have y0 : W.heap[w.heap.size + 1]? = some (.cells #[.int .i64 0, .slice none 0 0] 24 (0, 0)) := by
    have := blk_new (w.alloc (.cells #[.int .i64 n, .slice ao l.length cap] 24)) (.cells #[.int .i64 0, .slice none 0 0] 24)
    rw [World.size_alloc] at this; rw [hW]; exact this
  have HB0 : Hid (Below w.heap.size w W) := by rw [hW]; exact (below_one w _).alloc (by simp) _
  clear hn
  go_enter Try.func31, Try.ntmps31
  go_wp2
  rw [← hW]
  have HWz : Hid (W.heap.size = w.heap.size + 2) := hWz
  have hw0 : w.heap.size < W.heap.size := by omega
  have hw1 : w.heap.size + 1 < W.heap.size := by omega
  clear hW hWz
  obtain ⟨r0, r1, f0, f1⟩ := blk2 x0
  go_cut [3] (fun s wx => ∃ p v, s = .pointer (some ⟨p, 0, none⟩) ∧ W.heap.size ≤ p ∧ wx.heap[p]? = some (.cells #[.int .i64 n, v] 24 (0, 0)) ∧ wx.ownsRow W.heap.size 41 3 v l.length (flat l) ∧ (∀ g c, v = .slice (some ⟨g, 0, none⟩) l.length c → g ≠ p) ∧ Below W.heap.size W wx)
  case first =>
    go_region_with (go_at_call 15; refine (clone_own ao cap l _ (by first | exact hA0.drew | exact (hA0.alloc _).drew) HN.out (by omega)).mono ?_; rintro e w3 ⟨hb3, v, rfl, hown⟩; obtain ⟨ao3, cap3, rfl, _, _, _, _⟩ := owns_arcs hown; have HO : Hid (w3.ownsRow W.heap.size 41 3 (.slice ao3 l.length cap3) l.length (flat l)) := owns_weaken hown (by simp); have HG := owns_lt hown; have hbW : Below W.heap.size W w3 := (by first | exact ((Below.refl W.heap.size W).drew).trans hb3 | exact ((below_one W _).drew).trans (hb3.mono (by simp))); have q0 := later hbW r0 hw0; have q1 := later hbW r1 hw0; have hzW := hbW.size; have hq0 : w.heap.size < w3.heap.size := (by omega); have hq1 : W.heap.size ≤ w3.heap.size := hzW; (try (have tA := blk_below hb3 (blk_new W (.cells #[.int .i64 0, .slice none 0 0] 24)) (by simp); obtain ⟨a0, a1, a2, a3⟩ := blk2 tA)))
    all_goals
      first
        | (have tA' := tA
           have HS : Hid (∀ g c, (Value.slice ao3 l.length cap3) = .slice (some ⟨g, 0, none⟩) l.length c → g ≠ W.heap.size) := fun g c e => by
             have := HG g c e
             simp at this
             omega
           have HTA : Hid (w3.heap[W.heap.size]? = some (.cells #[.int .i64 0, .slice none 0 0] 24 (0, 0))) := tA
           clear HG tA tA' hb3
           go_wp2_with fail
           go_meet
           case rel => exact ⟨W.heap.size, _, rfl, Nat.le_refl _, blk2_set HTA.out _ _, owns_set (owns_set HO.out (fun _ _ g c e => HS.out g c e) _) (fun _ _ g c e => HS.out g c e) _, HS.out, (hbW.setCell (Nat.le_refl _) _).setCell (Nat.le_refl _) _⟩)
        | (have HS : Hid (∀ g c, (Value.slice ao3 l.length cap3) = .slice (some ⟨g, 0, none⟩) l.length c → g ≠ w3.heap.size) := fun g c e => by
             have := HG g c e
             omega
           clear HG hb3
           go_wp2_with fail
           go_meet
           case rel => exact ⟨w3.heap.size, _, rfl, hq1, blk_new _ _, HO.out.alloc _, HS.out, hbW.alloc hq1 _⟩)
  case rest =>
    obtain ⟨p, v, rfl, hp, hblk, hown, hgp, hbW⟩ := hcut
    have hzc := hbW.size
    have x1 := blk_below hbW x0 hw0
    have y1 := blk_below hbW y0 hw1
    obtain ⟨r0, r1, f0, f1⟩ := blk2 x1
    obtain ⟨i0, hi, hz0, hz1, hz2⟩ := info_parts infoArc
    have HBk : Hid (wc.heap[p]? = some (.cells #[.int .i64 n, v] 24 (0, 0))) := hblk
    have HOw : Hid (wc.ownsRow W.heap.size 41 3 v l.length (flat l)) := hown
    have HX0 : Hid (W.heap[w.heap.size]? = some (.cells #[.int .i64 n, .slice ao l.length cap] 24 (0, 0))) := x0
    have HY0 : Hid (W.heap[w.heap.size + 1]? = some (.cells #[.int .i64 0, .slice none 0 0] 24 (0, 0))) := y0
    have HbW : Hid (Below W.heap.size W wc) := hbW
    have HA0 : Hid (ArcsAt W ao l) := hA0
    clear hblk hown x1 y1 x0 y0 hgp hbW hA0
    go_wp2
    go_loopw [15] (fun i wr => ∃ k : Nat, k ≤ l.length ∧ i = .int .i64 k ∧ (∃ v, wr.heap[p]? = some (.cells #[.int .i64 n, v] 24 (0, 0)) ∧ wr.ownsRow W.heap.size 41 3 v (l.length + k) (flat (bothTo l k))) ∧ Below W.heap.size W wr) (fun i _ => l.length - (intOf i).toNat)
    case atStart => exact ⟨0, Nat.zero_le _, rfl, ⟨v, HBk.out, by simpa [bothTo] using HOw.out⟩, HbW.out⟩
    case round =>
      obtain ⟨k, hk, rfl, ⟨v, hblk, hown⟩, hB⟩ := hrel
      clear r0 r1 f0 f1 HBk HOw HbW
      have hz := hB.size
      have hpl : p < wr.heap.size := (Array.getElem?_eq_some_iff.1 hblk).1
      have hll : (bothTo l k).length = l.length + k := by simp [bothTo]; omega
      by_cases hlt : k < l.length
      · obtain ⟨b, off, rfl, hb, c0, c1, c2⟩ := HA0.out.below hB (Nat.le_refl _) k hlt
        have hsn := take_snoc3 l k hlt
        generalize ha : at3 l k = a at *
        obtain ⟨f, t, c⟩ := a
        simp only at c0 c1 c2
        have HS : Hid (flat (bothTo l (k + 1)) = flat (bothTo l k) ++ [.int .i64 t, .int .i64 f, .int .i64 c]) := by
          rw [Hid, bothTo, hsn, List.map_append, ← List.append_assoc, flat_append]; rfl
        clear ha hsn
        have hown2 := hown
        rw [← hll] at hown2
        obtain ⟨ao3, cap3, rfl, _, _, _, _⟩ := owns_arcs hown2
        rw [hll] at hblk hown
        obtain ⟨s0, s1, g0, g1⟩ := blk2 hblk
        have HBk : Hid (wr.heap[p]? = some (.cells #[.int .i64 n, .slice ao3 (l.length + k) cap3] 24 (0, 0))) := hblk
        clear hblk hown2
        go_wp2_with (at_builtin; refine wpList_append_own _ rfl (.tmp 20) (.tmp 28) 22 rfl W.heap.size 41 i0 _ 3 24 Try.underlying22 hi hz0 hz1 hz2 rfl (by decide) _ _ _ rfl ((hown.alloc _).alloc _) ⟨wr.heap.size + 1, 0, none⟩ 1 1 [.int .i64 t, .int .i64 f, .int .i64 c] rfl rfl ?c1 ?c2 ?c3 ?c4 ?c5 ?_)
        case c1 =>
          intro j u hj
          match j, hj with
          | 0, hj => simp at hj; subst hj; simp [Addr.add]
          | 1, hj => simp at hj; subst hj; simp [Addr.add]
          | 2, hj => simp at hj; subst hj; simp [Addr.add]
        case c2 => intro u hu; simp at hu; rcases hu with rfl | rfl | rfl <;> rfl
        case c3 => unfold maxLen; omega
        case c4 => omega
        case c5 => simp; omega
        · intro v' w1 hown' hgrow _
          rw [← HS.out] at hown'
          have hl2 : (bothTo l (k + 1)).length = l.length + k + 1 := by simp [bothTo]; omega
          have hown3 := hown'
          rw [← hl2] at hown3
          obtain ⟨ao4, cap4, rfl, _, _, _, _⟩ := owns_arcs hown3
          have hne := owns_ne hown HBk.out (by decide)
          have hB' : Below W.heap.size W w1 := ((hB.alloc hz _).alloc (by simp; omega) _).grown hgrow (by simp; omega) (by
            intro g hg
            rcases hown.2 with ⟨e, _⟩ | ⟨g', _, _, e, hB0, _⟩
            · rw [e] at hg; cases hg
            · rw [e] at hg; simp only [Value.ownBlock, Option.some.injEq] at hg; omega)
          have hbk1 : w1.heap[p]? = some (.cells #[.int .i64 n, .slice ao3 (l.length + k) cap3] 24 (0, 0)) := by
            rw [hgrow.block p (by simp; omega) ?_]
            · exact blk_old (blk_old HBk.out _) _
            · intro e
              rcases hown.2 with ⟨e', _⟩ | ⟨g', _, _, e', hB0, _⟩
              · rw [e'] at e; cases e
              · have := hne g' _ e'
                rw [e'] at e
                simp only [Value.ownBlock, Option.some.injEq] at e
                exact this e.symm
          rw [hl2] at hown3
          have hne2 := owns_ne hown3 hbk1 (by decide)
          obtain ⟨s0, s1, g0, g1⟩ := blk2 hbk1
          have HBn : Hid ((w1.setCell ⟨p, 1, none⟩ (.slice ao4 (l.length + k + 1) cap4)).heap[p]? = some (.cells #[.int .i64 n, .slice ao4 (l.length + k + 1) cap4] 24 (0, 0))) := blk2_set1 hbk1 _
          have HOn : Hid ((w1.setCell ⟨p, 1, none⟩ (.slice ao4 (l.length + k + 1) cap4)).ownsRow W.heap.size 41 3 (.slice ao4 (l.length + k + 1) cap4) (l.length + (k + 1)) (flat (bothTo l (k + 1)))) := owns_set hown3 (fun _ _ g c e => hne2 g c e) _
          clear hgrow hown' hown3 hne hne2 hbk1 hown
          rw [hl2]
          go_wp2
          go_roundw
          case rel => exact ⟨k + 1, by omega, by go_num, ⟨_, HBn.out, HOn.out⟩, hB'.setCell hp _⟩
          case measure => simp [intOf]; omega
      · have hkl : k = l.length := by omega
        subst hkl
        have hbo : bothTo l l.length = both l := by simp [bothTo, both]
        rw [hbo] at hown hll
        rw [← hll] at hown
        obtain ⟨ao3, cap3, rfl, hA3, hfr3, hc3, hm3⟩ := owns_arcs hown
        have y1 := blk_below hB HY0.out hw1
        obtain ⟨t0, t1, g0, g1⟩ := blk2 y1
        obtain ⟨s0, s1, e0, e1⟩ := blk2 hblk
        have HA3 : Hid (ArcsAt wr ao3 (both l)) := hA3
        have HF3 : Hid (∀ b off, ao3 = some ⟨b, off, none⟩ → W.heap.size ≤ b) := hfr3
        have HBr : Hid (Below W.heap.size W wr) := hB
        have hpn : w.heap.size + 1 ≠ p := by omega
        clear hA3 hfr3 hB hown hbo hll
        go_wp2
        refine bodyPost_ret (v := .agg #[.int .i64 n, .slice ao3 (both l).length cap3]) (by simp [results, Try.results31, go_sem, t0, t1]) rfl ⟨?_, ao3, cap3, rfl, ?_, hc3, hm3⟩
        · exact ((HB0.out.trans (HBr.out.mono (by omega))).setCell (by simp) _).setCell (by simp) _
        · exact (HA3.out.setElse (fun b off e => by have := HF3.out b off e; simp; omega) _).setElse (fun b off e => by have := HF3.out b off e; simp; omega) _

end Go.Proofs.Ytkcjemhbenkglaa
