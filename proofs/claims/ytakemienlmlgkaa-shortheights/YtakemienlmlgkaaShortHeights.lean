/- The law ShortHeights, walked, out of the contracts of Heights and From. -/
import Derived.Test.YtakemienlmlgkaaHtM
import Derived.Test.YtakemienlmlgkaaOwnA
import Derived.Test.YtakemienlmlgkaaClone
import Derived.Test.YtakemienlmlgkaaShortThree
namespace Go.Proofs.Ytakemienlmlgkaa
open Go.RowKit
set_option linter.unusedVariables false

/-- what two calls of From tell, one of them of lengths made longer -/
theorem two_from {N : Nat} {s : Int} {H : List Int} {l : List Arc3} {F G : List Int} {K L : List Bool} {e1 e2 : Int} (hE : graphErr N (-10000) l = 0) (hno : ¬ ∃ v, (0 ≤ v ∧ v < (N : Int)) ∧ Neg l v)
    (h1 : FromSays N l s F K e1) (h2 : FromSays N (l.map (chg H)) s G L e2) :
    (e1 = 4 ∧ (e2 = 4 ∨ e2 = 1)) ∨ (e1 = 0 ∧ e2 = 1) ∨ (e1 = 0 ∧ e2 = 0 ∧ (0 ≤ s ∧ s < (N : Int)) ∧ FromIs N l s F K ∧ FromIs N (l.map (chg H)) s G L) := by
  obtain ⟨_, _, hall⟩ := err_ok hE
  have hl : ∀ a ∈ l, (0 ≤ a.1 ∧ a.1 < (N : Int)) ∧ (0 ≤ a.2.1 ∧ a.2.1 < (N : Int)) := fun a ha => ⟨(hall a ha).1, (hall a ha).2.1⟩
  have hm : ∀ a ∈ l.map (chg H), (0 ≤ a.1 ∧ a.1 < (N : Int)) ∧ (0 ≤ a.2.1 ∧ a.2.1 < (N : Int)) := by
    intro a ha
    obtain ⟨b, hb, rfl⟩ := List.mem_map.1 ha
    exact hl b hb
  have hE2 := more_err hE (show (l.map (chg H)).length = l.length by simp) hm
  by_cases hs : 0 ≤ s ∧ s < (N : Int)
  · have hs' := hs
    obtain ⟨s, rfl⟩ := Int.eq_ofNat_of_zero_le hs.1
    have hnl : ¬ LoopFrom l s := fun hc => hno (loop_any hl (by omega) hc)
    have a1 := h1.ok hE hs' hnl
    rw [Int.toNat_natCast] at a1
    rcases hE2 with hE2 | hE2
    · have a2 := h2.ok hE2 hs' (loop_more hnl)
      rw [Int.toNat_natCast] at a2
      exact Or.inr (Or.inr ⟨a1.1, a2.1, hs', a1.2, a2.2⟩)
    · have a2 := h2.bad (by rw [hE2]; decide)
      exact Or.inr (Or.inl ⟨a1.1, a2.trans hE2⟩)
  · have a1 := h1.node hE hs
    rcases hE2 with hE2 | hE2
    · exact Or.inl ⟨a1, Or.inl (h2.node hE2 hs)⟩
    · exact Or.inl ⟨a1, Or.inr ((h2.bad (by rw [hE2]; decide)).trans hE2)⟩

set_option maxHeartbeats 8000000 in
set_option maxRecDepth 100000 in
theorem ShortHeights_any (hC : FromC) (hH : HeightsC) (n s : Int) (ao : Option Addr) (cap : Nat) (l : List Arc3) (w : World) (hG : GraphIn w ao cap l) :
    Calls Try.prog 6 #[.agg #[.int .i64 n, .slice ao l.length cap], .int .i64 s] w fun e w' => e = .returned (.bool true) ∧ Below w.heap.size w w' := by
  have hm := hG.len
  have hG0 := hG.alloc (.cells #[.int .i64 n, .slice ao l.length cap] 24)
  have x0 := blk_new w (.cells #[.int .i64 n, .slice ao l.length cap] 24)
  have h00 : ((0 : Int) != 0) = false := rfl
  have h00' : ((0 : Int) == 0) = true := rfl
  go_enter Try.func6, Try.ntmps6
  go_wp2_with fail
  refine (line_any _).mono ?_
  rintro e w1 ⟨hb1, aoL, capL, rfl, hAL, hcl, hcm⟩
  simp only [World.size_alloc] at hb1
  have hz1 := hb1.size
  simp only [World.size_alloc] at hz1
  have x1 := blk_below hb1 x0 (by omega)
  have hG1 := hG0.below hb1 (by simp)
  have hbb1 := below_in hb1 (by omega)
  have hGL := lineL_in hAL hcl hcm
  clear hb1 x0 hG0 hAL
  go_wp2_with fail
  refine (hH 3 aoL capL lineL _ hGL).mono ?_
  rintro e w2 ⟨hb2, a0, c0, H0, err0, rfl, hI0, hS0⟩
  obtain ⟨rfl, hH0⟩ := hS0.ok (by decide) lineL_no
  obtain rfl := line_heights hH0
  have hz2 := hb2.size
  have x2 := blk_below hb2 x1 (by omega)
  have hG2 := hG1.below hb2 (by omega)
  have hbb2 := hbb1.trans (hb2.mono (by omega))
  have HB : Hid (Below w.heap.size w w2) := hbb2
  have HX : Hid (w2.heap[w.heap.size]? = some (.cells #[.int .i64 n, .slice ao l.length cap] 24 (0, 0))) := x2
  have HG : Hid (GraphIn w2 ao cap l) := hG2
  have hq := equalIntsB a0 (some ⟨w2.heap.size, 0, none⟩) c0 3 [0, 0, 0] [0, 0, 0] (w2.alloc (.cells #[.int .i64 0, .int .i64 0, .int .i64 0] 3)) (by decide) (by decide) (hI0.alloc _) (ints_new w2 [0, 0, 0] 3)
  rw [decide_eq_true (rfl : ([0, 0, 0] : List Int) = [0, 0, 0])] at hq
  simp only [List.length_cons, List.length_nil, Nat.zero_add] at hq
  clear hb2 x1 hG1 hbb1 hGL hI0 hS0 hH0 hbb2 x2 hG2
  go_wp2_with fail
  refine hq.mono ?_
  rintro e w3 ⟨rfl, hb3⟩
  have hz3 := hb3.size
  simp only [World.size_alloc] at hz3
  have HB3 : Hid (Below w.heap.size w w3) := (HB.out.alloc (by omega) _).trans (hb3.mono (by simp; omega))
  have x3 := blk_below hb3 (blk_old HX.out _) (by simp; omega)
  have HG3 : Hid (GraphIn w3 ao cap l) := (HG.out.alloc _).below hb3 (Nat.le_refl _)
  clear hq hb3 HX HG HB
  obtain ⟨r0, r1, f0, f1⟩ := blk2 x3
  go_wp2_with fail
  refine (hH n ao cap l _ HG3.out).mono ?_
  rintro e W ⟨hb4, a1, c1, H, err, rfl, hIH, hSH⟩
  have hz4 := hb4.size
  have x4 := blk_below hb4 x3 (by omega)
  have HBW : Hid (Below w.heap.size w W) := HB3.out.trans (hb4.mono (by omega))
  have HGW : Hid (GraphIn W ao cap l) := HG3.out.below hb4 (Nat.le_refl _)
  clear hb4 x3 r0 r1 f0 f1 HB3 HG3
  obtain ⟨r0, r1, f0, f1⟩ := blk2 x4
  by_cases hE : err = 0
  · subst hE
    obtain ⟨hE, hno, hHI⟩ := hSH.right
    obtain ⟨⟨hn1, hn2⟩, hl60, hall⟩ := err_ok hE
    obtain ⟨N, rfl⟩ := Int.eq_ofNat_of_zero_le (show 0 ≤ n by omega)
    rw [Int.toNat_natCast] at hHI
    have hN12 : N ≤ 12 := by omega
    have hNN : ((N : Int) != (N : Int)) = false := by simp
    have HE : Hid (graphErr N (-10000) l = 0) := hE
    have HNo : Hid (¬ ∃ v, (0 ≤ v ∧ v < (N : Int)) ∧ Neg l v) := hno
    have HHI : Hid (HeightsIs N l H) := hHI
    have HHl : Hid (H.length = N) := hHI.len
    have HL : Hid (∀ a ∈ l, (0 ≤ a.1 ∧ a.1 < (N : Int)) ∧ (0 ≤ a.2.1 ∧ a.2.1 < (N : Int)) ∧ -10000 ≤ a.2.2 ∧ a.2.2 ≤ 10000) := hall
    have HIH : Hid (IntsAt W a1 H) := hIH
    have HN : Hid (ao = none → l.length = 0 ∧ cap = 0) := HGW.out.nil
    have hA0 : ArcsAt W ao l := HGW.out.arcs
    have hw0 : w.heap.size < W.heap.size := by omega
    have HXW : Hid (W.heap[w.heap.size]? = some (.cells #[.int .i64 (N : Int), .slice ao l.length cap] 24 (0, 0))) := x4
    rw [HHl.out]
    clear hE hno hHI hall hIH hSH x4
    go_wp2_with fail
    go_cut [9] (fun s wx => ∃ p v, s = .pointer (some ⟨p, 0, none⟩) ∧ W.heap.size ≤ p ∧ wx.heap[p]? = some (.cells #[.int .i64 (N : Int), v] 24 (0, 0)) ∧ wx.ownsRow W.heap.size 44 3 v l.length (flat l) ∧ (∀ g c, v = .slice (some ⟨g, 0, none⟩) l.length c → g ≠ p) ∧ Below W.heap.size W wx)
    case first =>
      go_region_with (go_at_call 22; refine (clone_own ao cap l _ (by first | exact hA0.drew | exact (hA0.alloc _).drew) HN.out (by omega)).mono ?_; rintro e w3 ⟨hb3, v, rfl, hown⟩; obtain ⟨ao3, cap3, rfl, _, _, _, _⟩ := owns_arcs hown; have HO : Hid (w3.ownsRow W.heap.size 44 3 (.slice ao3 l.length cap3) l.length (flat l)) := owns_weaken hown (by simp); have HG := owns_lt hown; have hbW : Below W.heap.size W w3 := (by first | exact ((Below.refl W.heap.size W).drew).trans hb3 | exact ((below_one W _).drew).trans (hb3.mono (by simp))); have q0 := later hbW r0 hw0; have q1 := later hbW r1 hw0; have hzW := hbW.size; have hq0 : w.heap.size < w3.heap.size := (by omega); have hq1 : W.heap.size ≤ w3.heap.size := hzW; (try (have tA := blk_below hb3 (blk_new W (.cells #[.int .i64 0, .slice none 0 0] 24)) (by simp); obtain ⟨a0, a1, a2, a3⟩ := blk2 tA)))
      all_goals
        first
          | (have tA' := tA
             have HS : Hid (∀ g c, (Value.slice ao3 l.length cap3) = .slice (some ⟨g, 0, none⟩) l.length c → g ≠ W.heap.size) := fun g c e => by
               have := HG g c e
               simp at this
               omega
             have HTA : Hid (w3.heap[W.heap.size]? = some (.cells #[.int .i64 0, .slice none 0 0] 24 (0, 0))) := tA
             clear HG tA tA' hb3
             go_wp2_with fail
             go_meet
             case rel => exact ⟨W.heap.size, _, rfl, Nat.le_refl _, blk2_set HTA.out _ _, owns_set (owns_set HO.out (fun _ _ g c e => HS.out g c e) _) (fun _ _ g c e => HS.out g c e) _, HS.out, (hbW.setCell (Nat.le_refl _) _).setCell (Nat.le_refl _) _⟩)
          | (have HS : Hid (∀ g c, (Value.slice ao3 l.length cap3) = .slice (some ⟨g, 0, none⟩) l.length c → g ≠ w3.heap.size) := fun g c e => by
               have := HG g c e
               omega
             clear HG hb3
             go_wp2_with fail
             go_meet
             case rel => exact ⟨w3.heap.size, _, rfl, hq1, blk_new _ _, HO.out.alloc _, HS.out, hbW.alloc hq1 _⟩)
    case rest =>
      obtain ⟨p, v, rfl, hp, hblk, hown, hgp, hbW⟩ := hcut
      obtain ⟨ao3, cap3, rfl, hO⟩ := own_arcs hown
      have hgp' : ∀ g, ao3 = some ⟨g, 0, none⟩ → g ≠ p := fun g e => hgp g cap3 (by rw [e])
      have HGP : Hid (∀ g, ao3 = some ⟨g, 0, none⟩ → g ≠ p) := hgp'
      have HO0 : Hid (OwnA wc W.heap.size ao3 cap3 l) := hO
      have HBk0 : Hid (wc.heap[p]? = some (.cells #[.int .i64 (N : Int), .slice ao3 l.length cap3] 24 (0, 0))) := hblk
      have HbW : Hid (Below W.heap.size W wc) := hbW
      have x5 := blk_below hbW HXW.out hw0
      have hzc := hbW.size
      clear r0 r1 f0 f1 hgp hgp' hO hown hblk hbW
      obtain ⟨r0, r1, f0, f1⟩ := blk2 x5
      clear x5
      go_wp2
      go_loopw [56] (fun i wr => ∃ k : Nat, k ≤ l.length ∧ i = .int .i64 k ∧ wr.heap[p]? = some (.cells #[.int .i64 (N : Int), .slice ao3 l.length cap3] 24 (0, 0)) ∧ OwnA wr W.heap.size ao3 cap3 (moreTo H l k) ∧ Below W.heap.size W wr) (fun i _ => l.length - (intOf i).toNat)
      case atStart => exact ⟨0, Nat.zero_le _, rfl, HBk0.out, by rw [moreTo_zero]; exact HO0.out, HbW.out⟩
      case round =>
        obtain ⟨k, hk, rfl, hblk, hO, hB⟩ := hrel
        clear r0 r1 f0 f1 hzc HBk0 HO0 HbW
        have hz := hB.size
        have hpl : p < wr.heap.size := (Array.getElem?_eq_some_iff.1 hblk).1
        by_cases hlt : k < l.length
        · obtain ⟨ba, off, rfl, hba, c0, c1, c2⟩ := hA0.below hB (Nat.le_refl _) k hlt
          have hbaW := arcs_lie hA0 ba off rfl (by omega)
          have hmem := HL.out _ (at3_mem l k hlt)
          have hin := at3_mem l k hlt
          obtain ⟨g, eg, hgB, hgl, hgc, m0, m1⟩ := hO.at (i := k) (by rw [moreTo_len]; exact hlt)
          subst eg
          have hgp := HGP.out g rfl
          rw [moreTo_at H l k k hk hlt, if_neg (Nat.lt_irrefl k)] at m0
          have hset : ∀ j, j < (moreTo H l k).length → at3 (moreTo H l (k + 1)) j = if j = k then ((at3 (moreTo H l k) k).1, (at3 (moreTo H l k) k).2.1, (chg H (at3 l k)).2.2) else at3 (moreTo H l k) j := by
            intro j hj
            rw [moreTo_len] at hj
            rw [moreTo_at H l (k + 1) j (by omega) hj, moreTo_at H l k j hk hj, moreTo_at H l k k hk hlt, if_neg (Nat.lt_irrefl k)]
            by_cases e : j = k
            · subst e; simp [chg]
            · by_cases e2 : j < k
              · simp [e, e2, show j < k + 1 by omega]
              · simp [e, e2, show ¬ j < k + 1 by omega]
          have HO : Hid (OwnA wr W.heap.size (some ⟨g, 0, none⟩) cap3 (moreTo H l k)) := hO
          obtain ⟨a, ha⟩ : ∃ a, at3 l k = a := ⟨_, rfl⟩
          rw [ha] at c0 c1 c2 hmem m0 hin hset
          obtain ⟨f, t, x⟩ := a
          simp only at c0 c1 c2 hmem m0
          obtain ⟨⟨p1, p2⟩, ⟨p3, p4⟩, p5, p6⟩ := hmem
          obtain ⟨f, rfl⟩ := Int.eq_ofNat_of_zero_le p1
          obtain ⟨t, rfl⟩ := Int.eq_ofNat_of_zero_le p3
          have hf : f < N := by omega
          have ht : t < N := by omega
          have hslack := HHI.out.arc hin hf ht
          obtain ⟨bf1, bf2⟩ := HHI.out.bound hN12 HL.out hf
          obtain ⟨bt1, bt2⟩ := HHI.out.bound hN12 HL.out ht
          obtain ⟨bh, oh, eh, hbh, q0⟩ := HIH.out.below hB (Nat.le_refl _) f (by rw [HHl.out]; exact hf)
          subst eh
          obtain ⟨_, _, eh, _, q1⟩ := HIH.out.below hB (Nat.le_refl _) t (by rw [HHl.out]; exact ht)
          cases eh
          have HSet : Hid (∀ j, j < (moreTo H l k).length → at3 (moreTo H l (k + 1)) j = if j = k then ((at3 (moreTo H l k) k).1, (at3 (moreTo H l k) k).2.1, x + (ati H f - ati H t)) else at3 (moreTo H l k) j) := by
            rw [Hid]; simpa [chg] using hset
          have x6 := blk_below hB HXW.out hw0
          obtain ⟨r0, r1, f0, f1⟩ := blk2 x6
          obtain ⟨s0, s1, g0, g1⟩ := blk2 hblk
          have HBk : Hid (wr.heap[p]? = some (.cells #[.int .i64 (N : Int), .slice (some ⟨g, 0, none⟩) l.length cap3] 24 (0, 0))) := hblk
          have HB : Hid (Below W.heap.size W wr) := hB
          clear hset hin ha hO hblk hB x6 hA0
          obtain ⟨yf, hyf⟩ : ∃ y, ati H f = y := ⟨_, rfl⟩
          obtain ⟨yt, hyt⟩ : ∃ y, ati H t = y := ⟨_, rfl⟩
          rw [hyf] at hslack bf1 bf2 q0 HSet
          rw [hyt] at hslack bt1 bt2 q1 HSet
          have e1 : decide (yf + x < yt) = false := decide_eq_false (by omega)
          have e2 : decide (0 < yt) = false := decide_eq_false (by omega)
          have hw1 : IntKind.i64.wrap (yf + x) = yf + x := by rw [IntKind.wrap_i64]; omega
          have hw2 : IntKind.i64.wrap (yf - yt) = yf - yt := by rw [IntKind.wrap_i64]; omega
          have hw3 : IntKind.i64.wrap (x + (yf - yt)) = x + (yf - yt) := by rw [IntKind.wrap_i64]; omega
          clear hyf hyt
          go_wp2
          go_quiet (fail)
          go_wp2
          go_region
          go_wp2
          go_roundw
          case rel =>
            refine ⟨k + 1, by omega, by go_num, ?_, ?_, ?_⟩
            · rw [Go.Deep.blk_setCell_other _ _ _ _ (Ne.symm hgp)]
              exact blk_below (below_drewN (Below.refl (wr.heap.size + 1) _) _) (blk_old HBk.out _) (by omega)
            · exact ((HO.out.alloc _).drewN _).set (by rw [moreTo_len]; exact hlt) (by rw [moreTo_len, moreTo_len]) HSet.out
            · exact (below_drewN (HB.out.alloc (by omega) _) _).setCell hgB _
          case measure => simp [intOf]; omega
        · have hkk : k = l.length := by omega
          subst hkk
          rw [moreTo_all] at hO
          have x6 := blk_below hB HXW.out hw0
          obtain ⟨r0, r1, f0, f1⟩ := blk2 x6
          have HBk : Hid (wr.heap[p]? = some (.cells #[.int .i64 (N : Int), .slice ao3 l.length cap3] 24 (0, 0))) := hblk
          have HG2 : Hid (GraphIn wr ao3 cap3 (l.map (chg H))) := hO.graph
          have HB : Hid (Below W.heap.size W wr) := hB
          have hGw := HGW.out.below hB (Nat.le_refl _)
          have HIw : Hid (IntsAt wr a1 H) := HIH.out.below hB (Nat.le_refl _)
          clear hO hblk hB hA0
          go_wp2_with fail
          refine (hC N s ao cap l _ hGw).mono ?_
          rintro e w5 ⟨hb5, a2, c2, F, a3, c3, K, err1, rfl, hF5, hK5, hS5⟩
          have hz5 := hb5.size
          have x7 := blk_below hb5 x6 (by omega)
          have y7 := blk_below hb5 HBk.out hpl
          have HB5 : Hid (Below W.heap.size W w5) := HB.out.trans (hb5.mono (by omega))
          have HI5 : Hid (IntsAt w5 a1 H) := HIw.out.below hb5 (Nat.le_refl _)
          have HG5 := HG2.out.below hb5 (Nat.le_refl _)
          clear r0 r1 f0 f1 x6 hb5 HB HIw HG2 HBk hGw
          obtain ⟨r0, r1, f0, f1⟩ := blk2 x7
          obtain ⟨s0, s1, g0, g1⟩ := blk2 y7
          have HC2 := hC N s ao3 cap3 (l.map (chg H)) w5 HG5
          rw [List.length_map] at HC2
          clear HG5 y7
          go_wp2_with fail
          refine HC2.mono ?_
          rintro e w6 ⟨hb6, a4, c4, G, a5, c5, L, err2, rfl, hG6, hL6, hS6⟩
          have hz6 := hb6.size
          have x8 := blk_below hb6 x7 (by omega)
          have HB6 : Hid (Below w.heap.size w w6) := HBW.out.trans ((HB5.out.trans (hb6.mono (by omega))).mono (by omega))
          have HI6 : Hid (IntsAt w6 a1 H) := HI5.out.below hb6 (Nat.le_refl _)
          have HF6 : Hid (IntsAt w6 a2 F) := hF5.below hb6 (Nat.le_refl _)
          have HK6 : Hid (BoolsAt w6 a3 K) := hK5.below hb6 (Nat.le_refl _)
          have HG6 : Hid (IntsAt w6 a4 G) := hG6
          have HL6 : Hid (BoolsAt w6 a5 L) := hL6
          clear HC2 r0 r1 f0 f1 s0 s1 g0 g1 x7 hb6 HB5 HI5 hF5 hK5 hG6 hL6
          obtain ⟨r0, r1, f0, f1⟩ := blk2 x8
          clear x8
          rcases two_from HE.out HNo.out hS5 hS6 with ⟨rfl, rfl | rfl⟩ | ⟨rfl, rfl⟩ | ⟨rfl, rfl, hs, hFI, hGI⟩
          · clear hS5 hS6
            have e4 : ((4 : Int) != 0) = true := rfl
            have e5 : ((4 : Int) == 4) = true := rfl
            go_wp2
            go_ret
            exact ⟨rfl, HB6.out⟩
          · clear hS5 hS6
            have e4 : ((4 : Int) != 0) = true := rfl
            have e5 : ((4 : Int) == 1) = false := rfl
            have e6 : ((1 : Int) == 1) = true := rfl
            go_wp2
            go_ret
            exact ⟨rfl, HB6.out⟩
          · clear hS5 hS6
            have e4 : ((1 : Int) != 0) = true := rfl
            have e5 : ((0 : Int) == 1) = false := rfl
            have e6 : ((1 : Int) == 1) = true := rfl
            go_wp2
            go_ret
            exact ⟨rfl, HB6.out⟩
          · obtain ⟨s, rfl⟩ := Int.eq_ofNat_of_zero_le hs.1
            have hsN : s < N := by omega
            obtain ⟨rfl, hval⟩ := hFI.more hGI
            have HFI : Hid (FromIs N l s F K) := hFI
            have HVal : Hid (∀ v, v < N → atb K v = true → ati G v = ati F v + ati H s - ati H v) := hval
            have HFl : Hid (F.length = N) := hFI.lenF
            have HKl : Hid (K.length = N) := hFI.lenK
            have HGl : Hid (G.length = N) := hGI.lenF
            rw [HFl.out, HKl.out, HGl.out]
            have hq := equalBools a3 a5 c3 c5 K K w6 (by rw [HKl.out]; unfold maxLen; omega) (by rw [HKl.out]; unfold maxLen; omega) HK6.out HL6.out
            rw [decide_eq_true rfl, HKl.out] at hq
            clear hS5 hS6 hs hFI hGI hval
            go_wp2_with fail
            refine hq.mono ?_
            rintro e w7 ⟨rfl, q, rfl⟩
            clear hq
            go_wp2
            go_loopw [151] (fun i wr => ∃ k : Nat, k ≤ N ∧ i = .int .i64 k ∧ ∃ q, wr = w6.drewN q) (fun i _ => N - (intOf i).toNat)
            case atStart => exact ⟨0, Nat.zero_le _, rfl, _, rfl⟩
            case round =>
              obtain ⟨k, hk, rfl, q, rfl⟩ := hrel
              clear r0 r1 f0 f1
              by_cases hlt : k < N
              · obtain ⟨b1, o1, rfl, hb1, d1⟩ := HK6.out k (by rw [HKl.out]; exact hlt)
                cases g1 : atb K k
                · rw [g1] at d1
                  clear g1
                  go_wp2
                  go_quiet (fail)
                  go_wp2
                  go_roundw
                  case rel => exact ⟨k + 1, by omega, by go_num, _, rfl⟩
                  case measure => simp [intOf]; omega
                · rw [g1] at d1
                  have hv := HVal.out k hlt g1
                  obtain ⟨b2, o2, e2, hb2, d2⟩ := HF6.out k (by rw [HFl.out]; exact hlt)
                  subst e2
                  obtain ⟨b3, o3, e3, hb3, d3⟩ := HG6.out k (by rw [HGl.out]; exact hlt)
                  subst e3
                  obtain ⟨b4, o4, e4, hb4, d4⟩ := HI6.out s (by rw [HHl.out]; exact hsN)
                  subst e4
                  obtain ⟨_, _, e5, _, d5⟩ := HI6.out k (by rw [HHl.out]; exact hlt)
                  cases e5
                  obtain ⟨u1, u2⟩ := HFI.out.bound hN12 (by omega) HL.out hlt
                  obtain ⟨u3, u4⟩ := HHI.out.bound hN12 HL.out hsN
                  obtain ⟨u5, u6⟩ := HHI.out.bound hN12 HL.out hlt
                  clear g1
                  generalize ati F k = z1 at *
                  generalize ati G k = z2 at *
                  generalize ati H s = z3 at *
                  generalize ati H k = z4 at *
                  have e1 : (z2 != z1 + z3 - z4) = false := by simpa using hv
                  have hw1 : IntKind.i64.wrap (z1 + z3) = z1 + z3 := by rw [IntKind.wrap_i64]; omega
                  have hw2 : IntKind.i64.wrap (z1 + z3 - z4) = z1 + z3 - z4 := by rw [IntKind.wrap_i64]; omega
                  clear hv
                  go_wp2
                  go_quiet (fail)
                  go_wp2
                  go_roundw
                  case rel => exact ⟨k + 1, by omega, by go_num, _, rfl⟩
                  case measure => simp [intOf]; omega
              · have hkk : k = N := by omega
                subst hkk
                go_wp2
                go_ret
                exact ⟨rfl, below_drewN HB6.out _⟩
  · have hE' : (err != 0) = true := by simpa using hE
    obtain rfl := hSH.none hE
    clear hE hSH hIH
    go_wp2
    go_ret
    exact ⟨rfl, HBW.out⟩

end Go.Proofs.Ytakemienlmlgkaa
