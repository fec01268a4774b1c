/- The law FlowSums, walked, out of the contract of Value. -/
import Derived.Test.YtpomdnjfogfnbaaFlowC
import Derived.Test.YtpomdnjfogfnbaaOwnIs
import Derived.Test.YtpomdnjfogfnbaaCloneNet
import Derived.Test.YtpomdnjfogfnbaaMapTo
import Derived.Deep.RegionHeld3
namespace Go.Proofs.Ytpomdnjfogfnbaa
open Go.RowKit
set_option linter.unusedVariables false

def dbl (a : Arc3) : Arc3 := (a.1, a.2.1, 2 * a.2.2)

theorem gone_ends {l m : List Arc3} (hlen : m.length = l.length) (h : ∀ i, i < l.length → (at3 m i).1 = (at3 l i).1 ∧ (at3 m i).2.1 = (at3 l i).2.1) (f : Nat → Int) (v : Int) : gone m f v = gone l f v := by
  unfold gone goneK
  rw [hlen]
  exact sumN_congr fun i hi => by rw [(h i hi).1, (h i hi).2]

theorem sum_net {n s t : Int} {l : List Arc3} (h : netErr n s t l = 0) (hc : ∀ k, k < l.length → 2 * (at3 l k).2.2 ≤ 10000) : netErr n s t (l.map dbl) = 0 := by
  obtain ⟨h1, h2, h3, h4⟩ := net_ok h
  obtain ⟨a1, a2, a3⟩ := err_ok h1
  refine net_mk ⟨err_mk ⟨a1, by simpa using a2, fun a ha => ?_⟩, h2, h3, h4⟩
  obtain ⟨b, hb, rfl⟩ := List.mem_map.1 ha
  have := a3 b hb
  obtain ⟨k, hk, rfl⟩ := List.mem_iff_getElem.1 hb
  have e := hc k hk
  rw [at3_lt l k hk] at e
  exact ⟨this.1, this.2.1, by simp only [dbl]; omega, by simp only [dbl]; omega⟩
theorem sum_gone {l : List Arc3} {f g : List Int} (hf : f.length = l.length) (v : Int) : gone (l.map dbl) (ati (addTo f g f.length)) v = gone l (ati f) v + gone l (ati g) v := by
  rw [gone_ends (l := l) (by simp) (fun i hi => by rw [at3_map dbl l i hi]; exact ⟨rfl, rfl⟩), ← gone_add]
  exact gone_congr (fun i hi => by rw [addTo_at f g _ (by omega), if_pos (by omega)]) v
theorem sum_flow {N : Nat} {s t : Int} {l : List Arc3} {f g : List Int} (hf : FlowIs N s t l f) (hg : FlowIs N s t l g) : FlowIs N s t (l.map dbl) (addTo f g f.length) := by
  refine ⟨by rw [addTo_len, List.length_map]; exact hf.len, fun k hk => ?_, fun v hv h1 h2 => ?_⟩
  · rw [List.length_map] at hk
    have b1 := hf.bnd k hk
    have b2 := hg.bnd k hk
    have := hf.len
    rw [addTo_at f g _ (by omega), if_pos (by omega), at3_map dbl l k hk]
    simp only [dbl]
    omega
  · rw [sum_gone hf.len, hf.bal v hv h1 h2, hg.bal v hv h1 h2]; rfl

theorem arcs_lie' {w : World} {ao : Option Addr} {l : List Arc3} (h : ArcsAt w ao l) {d off : Nat} (e : ao = some ⟨d, off, none⟩) (h0 : 0 < l.length) : d < w.heap.size := by
  obtain ⟨b, o, e', hb, _⟩ := h 0 h0
  rw [e] at e'
  cases e'
  exact hb
set_option maxHeartbeats 8000000 in
set_option maxRecDepth 100000 in
theorem FlowSums_any (hC : FValueC) (n s t : Int) (ao af ag : Option Addr) (cap capf capg : Nat) (l : List Arc3) (f g : List Int) (w : World) (hG : GraphIn w ao cap l) (hF : IntsIn w af capf f) (hGi : IntsIn w ag capg g) :
    Calls Try.prog 6 #[.agg #[.int .i64 n, .int .i64 s, .int .i64 t, .slice ao l.length cap], .slice af f.length capf, .slice ag g.length capg] w fun e w' => e = .returned (.bool true) ∧ Below w.heap.size w w' := by
  have hG0 := hG.alloc (.cells #[.int .i64 n, .int .i64 s, .int .i64 t, .slice ao l.length cap] 24)
  have hF0 := hF.alloc (.cells #[.int .i64 n, .int .i64 s, .int .i64 t, .slice ao l.length cap] 24)
  have hI0 := hGi.alloc (.cells #[.int .i64 n, .int .i64 s, .int .i64 t, .slice ao l.length cap] 24)
  have x0 := blk_new w (.cells #[.int .i64 n, .int .i64 s, .int .i64 t, .slice ao l.length cap] 24)
  have g00 : ((0 : Int) != 0) = false := rfl
  have g01 : ((0 : Int) == 0) = true := rfl
  go_enter Try.func6, Try.ntmps6
  go_wp2_with fail
  refine (flows_any hC _).mono ?_
  rintro e w1 ⟨rfl, hb1⟩
  simp only [World.size_alloc] at hb1
  have hz1 := hb1.size
  simp only [World.size_alloc] at hz1
  have x1 := blk_below hb1 x0 (by omega)
  have hG1 := hG0.below hb1 (by simp)
  have hF1 := hF0.below hb1 (by simp)
  have hI1 := hI0.below hb1 (by simp)
  have hbb1 := below_in hb1 (by omega)
  obtain ⟨r0, r1, r2, r3⟩ := blk4 x1
  clear hb1 x0 hG0 hF0 hI0
  go_wp2_with fail
  refine (hC n s t ao af cap capf l f _ hG1 hF1).mono ?_
  rintro e w2 ⟨hb2, rfl⟩
  have hz2 := hb2.size
  have x2 := blk_below hb2 x1 (by omega)
  have hG2 := hG1.below hb2 (Nat.le_refl _)
  have hF2 := hF1.below hb2 (Nat.le_refl _)
  have hI2 := hI1.below hb2 (Nat.le_refl _)
  have hbb2 := hbb1.trans (hb2.mono (by omega))
  clear r0 r1 r2 r3 x1 hG1 hF1 hI1 hb2 hbb1
  obtain ⟨r0, r1, r2, r3⟩ := blk4 x2
  have HVf : Hid (flowErr n s t l f = 0 → valueOf n s t l f = gone l (ati f) s) := fun h => by unfold valueOf; rw [if_pos h]
  obtain ⟨Vf, hVf⟩ : ∃ V, valueOf n s t l f = V := ⟨_, rfl⟩
  obtain ⟨Ef, hEf⟩ : ∃ E, flowErr n s t l f = E := ⟨_, rfl⟩
  rw [hVf, hEf] at HVf ⊢
  have HEf : Hid (flowErr n s t l f = Ef) := hEf
  clear hVf hEf
  go_wp2_with fail
  refine (hC n s t ao ag cap capg l g _ hG2 hI2).mono ?_
  rintro e W ⟨hb3, rfl⟩
  have hz3 := hb3.size
  have x3 := blk_below hb3 x2 (by omega)
  have HG : Hid (GraphIn W ao cap l) := hG2.below hb3 (Nat.le_refl _)
  have HF : Hid (IntsIn W af capf f) := hF2.below hb3 (Nat.le_refl _)
  have HI : Hid (IntsIn W ag capg g) := hI2.below hb3 (Nat.le_refl _)
  have HB : Hid (Below w.heap.size w W) := hbb2.trans (hb3.mono (by omega))
  clear r0 r1 r2 r3 x2 hG2 hF2 hI2 hb3 hbb2
  obtain ⟨r0, r1, r2, r3⟩ := blk4 x3
  have HVg : Hid (flowErr n s t l g = 0 → valueOf n s t l g = gone l (ati g) s) := fun h => by unfold valueOf; rw [if_pos h]
  obtain ⟨Vg, hVg⟩ : ∃ V, valueOf n s t l g = V := ⟨_, rfl⟩
  obtain ⟨Eg, hEg⟩ : ∃ E, flowErr n s t l g = E := ⟨_, rfl⟩
  rw [hVg, hEg] at HVg ⊢
  have HEg : Hid (flowErr n s t l g = Eg) := hEg
  clear hVg hEg
  have HX : Hid (W.heap[w.heap.size]? = some (.cells #[.int .i64 n, .int .i64 s, .int .i64 t, .slice ao l.length cap] 24 (0, 0))) := x3
  have hw0 : w.heap.size < W.heap.size := by omega
  clear x3
  by_cases hEf : Ef = 0
  · subst hEf
    by_cases hEg : Eg = 0
    · subst hEg
      obtain ⟨hN, hFf⟩ := flow_ok HEf.out
      obtain ⟨_, hFg⟩ := flow_ok HEg.out
      obtain ⟨hge, hs, ht, hst⟩ := net_ok hN
      obtain ⟨⟨hn1, hn2⟩, hl60, hall⟩ := err_ok hge
      obtain ⟨N, rfl⟩ := Int.eq_ofNat_of_zero_le (show 0 ≤ n by omega)
      rw [Int.toNat_natCast] at hFf hFg
      have HN : Hid (netErr N s t l = 0) := hN
      have HFf : Hid (FlowIs N s t l f) := hFf
      have HFg : Hid (FlowIs N s t l g) := hFg
      have Hlf : Hid (f.length = l.length) := hFf.len
      have Hlg : Hid (g.length = l.length) := hFg.len
      have HVf' : Hid (Vf = gone l (ati f) s) := HVf.out rfl
      have HVg' : Hid (Vg = gone l (ati g) s) := HVg.out rfl
      have HCap : Hid (∀ k, k < l.length → 0 ≤ (at3 l k).2.2 ∧ (at3 l k).2.2 ≤ 10000) := fun k hk => by
        have := (hall _ (at3_mem l k hk)).2.2
        omega
      have HBf : Hid (∀ k, k < l.length → 0 ≤ ati f k ∧ ati f k ≤ 10000) := fun k hk => by
        have := hFf.bnd k hk
        have := HCap.out k hk
        omega
      have HBg : Hid (∀ k, k < l.length → 0 ≤ ati g k ∧ ati g k ≤ 10000) := fun k hk => by
        have := hFg.bnd k hk
        have := HCap.out k hk
        omega
      have hA0 : ArcsAt W ao l := HG.out.arcs
      have HNl : Hid (ao = none → l.length = 0 ∧ cap = 0) := HG.out.nil
      rw [Hlf.out, Hlg.out]
      have gll : ((l.length : Int) != (l.length : Int)) = false := by simp
      clear hN hFf hFg hge hall HVf HVg HEf HEg hs ht hst
      go_wp2_with fail
      go_cut [11] (fun s' wx => ∃ p ao3 cap3, s' = .pointer (some ⟨p, 0, none⟩) ∧ NetCopy W wx p N s t ao3 cap3 l)
      case first =>
        have HS : Hid (∀ x : World, Below W.heap.size W x → Below W.heap.size W x ∧ x.cell? ⟨w.heap.size, 0, none⟩ = some (.int .i64 (N : Int)) ∧ x.cell? ⟨w.heap.size, 1, none⟩ = some (.int .i64 s) ∧ x.cell? ⟨w.heap.size, 2, none⟩ = some (.int .i64 t) ∧ x.cell? ⟨w.heap.size, 3, none⟩ = some (.slice ao l.length cap)) := fun x h => ⟨h, later h r0 hw0, later h r1 hw0, later h r2 hw0, later h r3 hw0⟩
        have HL24 : Hid (l.length * 24 ≤ 140737488351232) := by rw [Hid]; omega
        clear r0 r1 r2 r3 HF HI HB HX HN HFf HFg Hlf Hlg HVf' HVg' HCap HBf HBg HG g00 g01 gll hz1 hz2 hz3 hn1 hn2 hG hF hGi
        go_region_held3 (fun x => Below W.heap.size W x ∧ x.cell? ⟨w.heap.size, 0, none⟩ = some (.int .i64 (N : Int)) ∧ x.cell? ⟨w.heap.size, 1, none⟩ = some (.int .i64 s) ∧ x.cell? ⟨w.heap.size, 2, none⟩ = some (.int .i64 t) ∧ x.cell? ⟨w.heap.size, 3, none⟩ = some (.slice ao l.length cap))
          (first
            | with_reducible assumption
            | with_reducible exact HS.out _ ((Below.refl _ W).drew)
            | with_reducible exact HS.out _ (below_al (And.left (by with_reducible assumption)) _)
            | with_reducible exact HS.out _ (below_set4 hs3.1 _ _ _ _))
          (first
            | (go_at_call 16; refine (clone_own ao cap l _ (hA0.below (And.left (by with_reducible assumption)) (Nat.le_refl _)) HNl.out HL24.out).mono ?_; rintro e w3 ⟨hb3, v, rfl, hown⟩; obtain ⟨ao3, cap3, rfl⟩ := owns_form hown; have hs3 := HS.out w3 (below_tr (And.left (by with_reducible assumption)) hb3); (try (have tA : w3.heap[W.heap.size]? = some (.cells #[.int .i64 0, .int .i64 0, .int .i64 0, .slice none 0 0] 24 (0, 0)) := (by with_reducible exact pre_al hb3); obtain ⟨a0, a1, a2, a3⟩ := blk4 tA; obtain ⟨f0, f1, f2, f3⟩ := blk4z tA)); have HO : Hid _ := hown; clear hown))
        all_goals
          go_wp2_with fail
          go_meet
          case rel =>
            first
            | exact ⟨w3.heap.size, ao3, cap3, rfl, netCopy_late hs3.1 (Nat.le_refl _) HO.out⟩
            | exact ⟨W.heap.size, ao3, cap3, rfl, netCopy_early hs3.1 tA (owns_weaken HO.out (by simp))⟩
      case rest =>
        obtain ⟨p, ao3, cap3, rfl, hp, hblk, hO, hgp, hbW⟩ := hcut
        have HGP : Hid (∀ g, ao3 = some ⟨g, 0, none⟩ → g ≠ p) := hgp
        have HO0 : Hid (OwnA wc W.heap.size ao3 cap3 l) := hO
        have HBk0 : Hid (wc.heap[p]? = some (.cells #[.int .i64 (N : Int), .int .i64 s, .int .i64 t, .slice ao3 l.length cap3] 24 (0, 0))) := hblk
        have HbW : Hid (Below W.heap.size W wc) := hbW
        have x5 := blk_below hbW HX.out hw0
        have hzc := hbW.size
        have hpc : p < wc.heap.size := (Array.getElem?_eq_some_iff.1 hblk).1
        have hcl := cloneI_any af capf f wc (HF.out.ints.below hbW (Nat.le_refl _)) HF.out.nil (by rw [Hlf.out]; exact hl60)
        rw [Hlf.out] at hcl
        clear r0 r1 r2 r3 hgp hO hblk hbW
        obtain ⟨r0, r1, r2, r3⟩ := blk4 x5
        clear x5
        go_wp2_with fail
        refine hcl.mono ?_
        clear hcl
        rintro e w5 ⟨hb5, ai, ci, rfl, hOI⟩
        have hz5 := hb5.size
        have HBk5 : Hid (w5.heap[p]? = some (.cells #[.int .i64 (N : Int), .int .i64 s, .int .i64 t, .slice ao3 l.length cap3] 24 (0, 0))) := blk_below hb5 HBk0.out hpc
        have HO5 : Hid (OwnA w5 W.heap.size ao3 cap3 l) := HO0.out.below hb5 (Nat.le_refl _)
        have HGA : Hid (∀ g, ao3 = some ⟨g, 0, none⟩ → g < wc.heap.size) := fun g e => HO0.out.lt e
        have HbW5 : Hid (Below W.heap.size W w5) := HbW.out.trans (hb5.mono (by omega))
        have HOI : Hid (OwnIs w5 wc.heap.size ai ci f) := hOI
        have x5 := blk_below HbW5.out HX.out hw0
        clear r0 r1 r2 r3 hb5 hOI HBk0 HO0 HbW
        obtain ⟨r0, r1, r2, r3⟩ := blk4 x5
        clear x5
        go_wp2
        go_loopw [64] (fun i wr => ∃ k : Nat, k ≤ l.length ∧ i = .int .i64 k ∧ (∀ j, j < k → 2 * (at3 l j).2.2 ≤ 10000) ∧ wr.heap[p]? = some (.cells #[.int .i64 (N : Int), .int .i64 s, .int .i64 t, .slice ao3 l.length cap3] 24 (0, 0)) ∧ OwnA wr W.heap.size ao3 cap3 (mapTo dbl l k) ∧ OwnIs wr wc.heap.size ai ci (addTo f g k) ∧ Below W.heap.size W wr) (fun i _ => l.length - (intOf i).toNat)
        case atStart => exact ⟨0, Nat.zero_le _, rfl, fun j hj => absurd hj (Nat.not_lt_zero _), HBk5.out, by rw [mapTo_zero]; exact HO5.out, by rw [addTo_zero]; exact HOI.out, HbW5.out⟩
        case round =>
          obtain ⟨k, hk, rfl, hok, hblk, hO, hI, hB⟩ := hrel
          clear r0 r1 r2 r3 HBk5 HO5 HOI HbW5
          have hz := hB.size
          have hpl : p < wr.heap.size := (Array.getElem?_eq_some_iff.1 hblk).1
          have x6 := blk_below hB HX.out hw0
          obtain ⟨r0, r1, r2, r3⟩ := blk4 x6
          obtain ⟨s0, s1, s2, s3⟩ := blk4 hblk
          clear x6
          by_cases hlt : k < l.length
          · obtain ⟨ba, off, rfl, hba, c0, c1, c2⟩ := hA0.below hB (Nat.le_refl _) k hlt
            have hbaW : ba < W.heap.size := arcs_lie' hA0 rfl (by omega)
            obtain ⟨g1, eg, hgB, hgl, hgc, m0, m1⟩ := hO.at (i := k) (by rw [mapTo_len]; exact hlt)
            subst eg
            have hgp := HGP.out g1 rfl
            have hgw := HGA.out g1 rfl
            rw [mapTo_at dbl l k k hk hlt, if_neg (Nat.lt_irrefl k)] at m0
            obtain ⟨g2, ei, hiB, hil, hic, n0, n1⟩ := hI.at (i := k) (by rw [addTo_len, Hlf.out]; exact hlt)
            subst ei
            rw [addTo_at f g k (by rw [Hlf.out]; exact hlt), if_neg (Nat.lt_irrefl k)] at n0
            rw [addTo_len, Hlf.out] at hic
            rw [mapTo_len] at hgc
            obtain ⟨gb, go, e, hgb, d0⟩ := HI.out.ints.below hB (Nat.le_refl _) k (by rw [Hlg.out]; exact hlt)
            subst e
            have hgbW : gb < W.heap.size := by
              obtain ⟨_, _, e, h, _⟩ := HI.out.ints k (by rw [Hlg.out]; exact hlt)
              cases e; exact h
            obtain ⟨cp1, cp2⟩ := HCap.out k hlt
            obtain ⟨bf1, bf2⟩ := HBf.out k hlt
            obtain ⟨bg1, bg2⟩ := HBg.out k hlt
            have HSet : Hid (∀ j, j < (mapTo dbl l k).length → at3 (mapTo dbl l (k + 1)) j = if j = k then ((at3 (mapTo dbl l k) k).1, (at3 (mapTo dbl l k) k).2.1, 2 * (at3 l k).2.2) else at3 (mapTo dbl l k) j) := mapTo_next dbl l k hlt fun a => ⟨rfl, rfl⟩
            have HAdd : Hid (∀ j, j < f.length → ati (addTo f g (k + 1)) j = if j = k then ati f k + ati g k else ati (addTo f g k) j) := addTo_next f g k (by rw [Hlf.out]; exact hlt)
            have HOk : Hid (2 * (at3 l k).2.2 ≤ 10000 → ∀ j, j < k + 1 → 2 * (at3 l j).2.2 ≤ 10000) := fun h j hj => by
              by_cases e : j = k
              · subst e; exact h
              · exact hok j (by omega)
            generalize (at3 l k).1 = pf at *
            generalize (at3 l k).2.1 = pt at *
            generalize (at3 l k).2.2 = x at *
            generalize ati f k = y at *
            generalize ati g k = z at *
            have HBk : Hid (wr.heap[p]? = some (.cells #[.int .i64 (N : Int), .int .i64 s, .int .i64 t, .slice (some ⟨g1, 0, none⟩) l.length cap3] 24 (0, 0))) := hblk
            have HO : Hid (OwnA wr W.heap.size (some ⟨g1, 0, none⟩) cap3 (mapTo dbl l k)) := hO
            have HI' : Hid (OwnIs wr wc.heap.size (some ⟨g2, 0, none⟩) ci (addTo f g k)) := hI
            have HB' : Hid (Below W.heap.size W wr) := hB
            have v1 : IntKind.i64.wrap (2 * x) = 2 * x := by rw [IntKind.wrap_i64]; omega
            have v2 : IntKind.i64.wrap (y + z) = y + z := by rw [IntKind.wrap_i64]; omega
            have hg12 : g2 ≠ g1 := by omega
            have hgl' : g1 < wr.heap.size := hgl
            clear hO hI hB hblk hok hA0
            by_cases hx : 10000 < 2 * x
            · have ex : decide (10000 < 2 * x) = true := decide_eq_true hx
              go_wp2
              go_region
              go_wp2
              go_ret
              exact ⟨rfl, HB.out.trans (((HB'.out.setCell hgB _).drew).mono (by omega))⟩
            · have ex : decide (10000 < 2 * x) = false := decide_eq_false hx
              have n0' := (show (wr.setCell ⟨g1, k * 3 + 2, none⟩ (.int .i64 (2 * x))).cell? ⟨g2, k, none⟩ = some (.int .i64 y) from (World.cell?_of_block (w := wr) (a := ⟨g2, k, none⟩) (Below.heap_setCell wr _ _ g2 hg12)).trans n0)
              have HOk' : Hid (∀ j, j < k + 1 → 2 * (at3 l j).2.2 ≤ 10000) := HOk.out (by omega)
              go_wp2
              go_region
              go_wp2
              go_region
              go_wp2
              go_roundw
              case rel =>
                refine ⟨k + 1, by omega, by go_num, HOk'.out, ?_, ?_, ?_, ?_⟩
                · have e1 := Go.Deep.blk_setCell_other (wr.setCell ⟨g1, k * 3 + 2, none⟩ (.int .i64 (2 * x))) ⟨g2, k, none⟩ (.int .i64 (y + z)) p (by simp; omega)
                  have e2 := Go.Deep.blk_setCell_other wr ⟨g1, k * 3 + 2, none⟩ (.int .i64 (2 * x)) p (Ne.symm hgp)
                  exact (e1.trans e2).trans HBk.out
                · exact ((HO.out.set (by rw [mapTo_len]; exact hlt) (by rw [mapTo_len, mapTo_len]) HSet.out).setOther (Ne.symm hg12) _).drewN 2
                · exact ((HI'.out.setOther hgw _).set (by rw [addTo_len, addTo_len]) (fun j hj => HAdd.out j (by rw [addTo_len] at hj; exact hj))).drewN 2
                · exact (((HB'.out.setCell hgB _).setCell (by simp; omega) _).drew).drew
              case measure => simp [intOf]; omega
          · have hkk : l.length = k := by omega
            subst hkk
            rw [mapTo_all] at hO
            have hfl : addTo f g l.length = addTo f g f.length := by rw [Hlf.out]
            rw [hfl] at hI
            have e1 : flowErr N s t (l.map dbl) (addTo f g f.length) = 0 := flow_mk (sum_net HN.out hok) (by rw [Int.toNat_natCast]; exact sum_flow HFf.out HFg.out)
            have e2 : valueOf N s t (l.map dbl) (addTo f g f.length) = Vf + Vg := by unfold valueOf; rw [if_pos e1, sum_gone Hlf.out, HVf'.out, HVg'.out]
            have hq := hC N s t ao3 ai cap3 ci (l.map dbl) (addTo f g f.length) wr hO.graph hI.arg
            rw [e1, e2, List.length_map, addTo_len, Hlf.out] at hq
            have HBw : Hid (Below w.heap.size w wr) := HB.out.trans (hB.mono (by omega))
            obtain ⟨o1, o2⟩ := goneK_bound (l := l) (f := ati f) (v := s) (C := 10000) (by omega) l.length HBf.out
            obtain ⟨o3, o4⟩ := goneK_bound (l := l) (f := ati g) (v := s) (C := 10000) (by omega) l.length HBg.out
            have u1 : goneK l (ati f) s l.length = Vf := HVf'.out.symm
            have u2 : goneK l (ati g) s l.length = Vg := HVg'.out.symm
            rw [u1] at o1 o2
            rw [u2] at o3 o4
            have v5 : IntKind.i64.wrap (Vf + Vg) = Vf + Vg := by rw [IntKind.wrap_i64]; omega
            have v6 : (Vf + Vg == Vf + Vg) = true := by simp
            clear e1 e2 hO hI hok hblk hB hfl u1 u2
            go_wp2_with fail
            refine hq.mono ?_
            rintro e w8 ⟨hb8, rfl⟩
            have HB8 : Hid (Below w.heap.size w w8) := HBw.out.trans (hb8.mono (by have := HBw.out.size; omega))
            clear hq hb8
            go_wp2
            go_ret
            exact ⟨rfl, HB8.out⟩
    · have e2 : (Eg != 0) = true := by simpa using hEg
      clear hEg
      go_wp2
      go_ret
      exact ⟨rfl, HB.out⟩
  · have e2 : (Ef != 0) = true := by simpa using hEf
    clear hEf
    go_wp2
    go_ret
    exact ⟨rfl, HB.out⟩

end Go.Proofs.Ytpomdnjfogfnbaa
