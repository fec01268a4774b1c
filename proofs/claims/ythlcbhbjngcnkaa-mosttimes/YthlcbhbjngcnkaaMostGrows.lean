/- The law MostGrows, walked, out of the contracts of Of and of flow.Check. -/
import Derived.Test.YthlcbhbjngcnkaaMostTurned
import Derived.Test.YthlcbhbjngcnkaaCloneNet
import Derived.Test.YthlcbhbjngcnkaaRest
import Derived.Deep.RegionHeld3
namespace Go.Proofs.Ythlcbhbjngcnkaa
open Go.RowKit
set_option linter.unusedVariables false

theorem vbound {N : Nat} {s t : Int} {l : List Arc3} {v : Int} (hE : netErr N s t l = 0) (h : MaxIs N s t l v) : 0 ≤ v ∧ v ≤ 600000 := by
  obtain ⟨side, hs, e⟩ := h.side
  have hb := capK_bound (side := side) (l := l) l.length fun i hi => (err_ok (net_ok hE).1).2.2 _ (at3_mem l i hi) |>.2.2
  have hl := (err_ok (net_ok hE).1).2.1
  have e2 : capK side l l.length = v := e
  rw [e2] at hb
  omega

set_option maxHeartbeats 8000000 in
set_option maxRecDepth 100000 in
theorem MostGrows_any (hM : MOfC) (hK : FCheckC) (n s t k b : Int) (ao : Option Addr) (cap : Nat) (l : List Arc3) (w : World) (hG : GraphIn w ao cap l) :
    Calls Try.prog 4 #[.agg #[.int .i64 n, .int .i64 s, .int .i64 t, .slice ao l.length cap], .int .i64 k, .int .i64 b] w fun e w' => e = .returned (.bool true) ∧ Below w.heap.size w w' := by
  have hG0 := hG.alloc (.cells #[.int .i64 n, .int .i64 s, .int .i64 t, .slice ao l.length cap] 24)
  have x0 := blk_new w (.cells #[.int .i64 n, .int .i64 s, .int .i64 t, .slice ao l.length cap] 24)
  have g00 : ((0 : Int) != 0) = false := rfl
  have g01 : ((0 : Int) == 0) = true := rfl
  go_enter Try.func4, Try.ntmps4
  go_wp2_with fail
  refine (mosts_any hM hK _).mono ?_
  rintro e w1 ⟨rfl, hb1⟩
  simp only [World.size_alloc] at hb1
  have hz1 := hb1.size
  simp only [World.size_alloc] at hz1
  have x1 := blk_below hb1 x0 (by omega)
  have hG1 := hG0.below hb1 (by simp)
  have hbb1 := below_in hb1 (by omega)
  obtain ⟨r0, r1, r2, r3⟩ := blk4 x1
  clear hb1 x0 hG0
  go_wp2_with fail
  refine (hM n s t ao cap l _ hG1).mono ?_
  rintro e W ⟨hb2, a1, c1, F, v, rfl, _, hT⟩
  have hz2 := hb2.size
  have x2 := blk_below hb2 x1 (by omega)
  have HG : Hid (GraphIn W ao cap l) := hG1.below hb2 (Nat.le_refl _)
  have HB : Hid (Below w.heap.size w W) := hbb1.trans (hb2.mono (by omega))
  have HT : Hid (MostTells n s t l F v (netErr n s t l)) := hT
  clear r0 r1 r2 r3 x1 hG1 hb2 hbb1 hT
  obtain ⟨r0, r1, r2, r3⟩ := blk4 x2
  obtain ⟨E, hE⟩ : ∃ E, netErr n s t l = E := ⟨_, rfl⟩
  rw [hE] at HT ⊢
  have HE : Hid (netErr n s t l = E) := hE
  have hw0 : w.heap.size < W.heap.size := by omega
  clear hE x2
  by_cases h0 : E = 0
  · subst h0
    obtain ⟨hge, hs, ht, hst⟩ := net_ok HE.out
    obtain ⟨⟨hn1, hn2⟩, hl60, hall⟩ := err_ok hge
    by_cases hk : 0 ≤ k ∧ k < (l.length : Int)
    · obtain ⟨k, rfl⟩ := Int.eq_ofNat_of_zero_le hk.1
      have hkl : k < l.length := by omega
      obtain ⟨ba, oa, e, hba, c0, c1', c2⟩ := HG.out.arcs k hkl
      subst e
      have hcap := (hall _ (at3_mem l k hkl)).2.2
      obtain ⟨x, hx⟩ : ∃ x, (at3 l k).2.2 = x := ⟨_, rfl⟩
      rw [hx] at c2 hcap
      obtain ⟨m, hm⟩ : ∃ m : Nat, (m : Int) = 10000 - x + 1 := ⟨(10000 - x + 1).toNat, by omega⟩
      have hr := rest_big b m (by omega) (by omega) W
      rw [hm] at hr
      obtain ⟨m1, m2⟩ := restV_in b (m := m) (by omega)
      have HX : Hid ((at3 l k).2.2 = x) := hx
      have v1 : IntKind.i64.wrap (10000 - x) = 10000 - x := by rw [IntKind.wrap_i64]; omega
      have v2 : IntKind.i64.wrap (10000 - x + 1) = 10000 - x + 1 := by rw [IntKind.wrap_i64]; omega
      have g1 : ¬ (k : Int) < 0 := by omega
      have g2 : ¬ (l.length : Int) ≤ (k : Int) := by omega
      rw [hm] at m2
      generalize restV b m = rv at *
      clear hge hall hs ht hst hk hx hm c0 c1'
      go_wp2_with fail
      refine hr.mono ?_
      clear hr
      rintro e w' ⟨rfl, hw⟩
      rw [hw]
      clear hw
      have hA0 : ArcsAt W (some ⟨ba, oa, none⟩) l := HG.out.arcs
      go_wp2_with fail
      go_cut [10] (fun s' wx => ∃ p ao3 cap3, s' = .pointer (some ⟨p, 0, none⟩) ∧ NetCopy W wx p n s t ao3 cap3 l)
      case first =>
        have HS : Hid (∀ x : World, Below W.heap.size W x → Below W.heap.size W x ∧ x.cell? ⟨w.heap.size, 0, none⟩ = some (.int .i64 n) ∧ x.cell? ⟨w.heap.size, 1, none⟩ = some (.int .i64 s) ∧ x.cell? ⟨w.heap.size, 2, none⟩ = some (.int .i64 t) ∧ x.cell? ⟨w.heap.size, 3, none⟩ = some (.slice (some ⟨ba, oa, none⟩) l.length cap)) := fun x h => ⟨h, later h r0 hw0, later h r1 hw0, later h r2 hw0, later h r3 hw0⟩
        have HL24 : Hid (l.length * 24 ≤ 140737488351232) := by rw [Hid]; omega
        have HNl : Hid ((some ⟨ba, oa, none⟩ : Option Addr) = none → l.length = 0 ∧ cap = 0) := fun e => by cases e
        clear r0 r1 r2 r3 HT HG HB HE HX v1 v2 g1 g2 g00 g01 hba hkl hl60 hn1 hn2 hz1 hz2 hcap m1 m2 c2 hM hK hG
        go_region_held3 (fun x => Below W.heap.size W x ∧ x.cell? ⟨w.heap.size, 0, none⟩ = some (.int .i64 n) ∧ x.cell? ⟨w.heap.size, 1, none⟩ = some (.int .i64 s) ∧ x.cell? ⟨w.heap.size, 2, none⟩ = some (.int .i64 t) ∧ x.cell? ⟨w.heap.size, 3, none⟩ = some (.slice (some ⟨ba, oa, none⟩) l.length cap))
          (first
            | with_reducible assumption
            | with_reducible exact HS.out _ ((Below.refl _ W).drew)
            | with_reducible exact HS.out _ (below_al (And.left (by with_reducible assumption)) _)
            | with_reducible exact HS.out _ (below_set4 hs3.1 _ _ _ _))
          (first
            | (go_at_call 15; refine (clone_own (some ⟨ba, oa, none⟩) cap l _ (hA0.below (And.left (by with_reducible assumption)) (Nat.le_refl _)) HNl.out HL24.out).mono ?_; rintro e w3 ⟨hb3, v, rfl, hown⟩; obtain ⟨ao3, cap3, rfl⟩ := owns_form hown; have hs3 := HS.out w3 (below_tr (And.left (by with_reducible assumption)) hb3); (try (have tA : w3.heap[W.heap.size]? = some (.cells #[.int .i64 0, .int .i64 0, .int .i64 0, .slice none 0 0] 24 (0, 0)) := (by with_reducible exact pre_al hb3); obtain ⟨a0, a1, a2, a3⟩ := blk4 tA; obtain ⟨f0, f1, f2, f3⟩ := blk4z tA)); have HO : Hid _ := hown; clear hown))
        all_goals
          go_wp2_with fail
          go_meet
          case rel =>
            first
            | exact ⟨w3.heap.size, ao3, cap3, rfl, netCopy_late hs3.1 (Nat.le_refl _) HO.out⟩
            | exact ⟨W.heap.size, ao3, cap3, rfl, netCopy_early hs3.1 tA (owns_weaken HO.out (by simp))⟩
      case rest =>
        obtain ⟨p, ao3, cap3, rfl, hN⟩ := hcut
        obtain ⟨s0, s1, s2, s3⟩ := blk4 hN.blk
        obtain ⟨g, eg, hgB, hgl, hgc, m0, m1'⟩ := hN.own.at (i := k) hkl
        subst eg
        rw [HX.out] at m0
        have hgp := hN.apart g rfl
        have hpl : p < wc.heap.size := (Array.getElem?_eq_some_iff.1 hN.blk).1
        have v3 : IntKind.i64.wrap (x + rv) = x + rv := by rw [IntKind.wrap_i64]; omega
        have hne : netErr n s t (l.set k ((at3 l k).1, (at3 l k).2.1, x + rv)) = 0 := net_set hkl HE.out (by omega)
        have hO : OwnA (wc.setCell ⟨g, k * 3 + 2, none⟩ (.int .i64 (x + rv))) W.heap.size (some ⟨g, 0, none⟩) cap3 (l.set k ((at3 l k).1, (at3 l k).2.1, x + rv)) := hN.own.set hkl (by rw [List.length_set]) fun j hj => at3_set hj
        have hq := hM n s t (some ⟨g, 0, none⟩) cap3 _ _ hO.graph
        rw [hne, List.length_set] at hq
        have HB2 : Hid (Below w.heap.size w (wc.setCell ⟨g, k * 3 + 2, none⟩ (.int .i64 (x + rv)))) := HB.out.trans ((hN.below.setCell hgB _).mono (by omega))
        have hz4 := HB2.out.size
        clear r0 r1 r2 r3 hN hO
        go_wp2_with fail
        refine hq.mono ?_
        clear hq
        rintro e w4 ⟨hb4, a4, c4, F4, v4, rfl, _, hT4⟩
        have HB4 : Hid (Below w.heap.size w w4) := HB2.out.trans (hb4.mono (by omega))
        obtain ⟨N, rfl⟩ := Int.eq_ofNat_of_zero_le (show 0 ≤ n by omega)
        have mx1 := HT.out.most rfl
        have mx2 := hT4.most rfl
        rw [Int.toNat_natCast] at mx1 mx2
        obtain ⟨q1, q2⟩ := MaxIs.grows hkl (show 0 ≤ rv by omega) HE.out hne (by rw [List.length_set]) (fun j hj => by
          rw [at3_set hj]
          by_cases e : j = k
          · subst e; rw [if_pos rfl, if_pos rfl, HX.out]; exact ⟨rfl, rfl, rfl⟩
          · rw [if_neg e, if_neg e]; exact ⟨rfl, rfl, by omega⟩) mx1 mx2
        have hb := vbound HE.out mx1
        have v5 : IntKind.i64.wrap (v + rv) = v + rv := by rw [IntKind.wrap_i64]; omega
        clear hb4 hT4 hne mx1 mx2 HT
        go_wp2
        go_ret
        exact ⟨rfl, HB4.out⟩
    · have g1 : k < 0 ∨ (¬ k < 0 ∧ (l.length : Int) ≤ k) := by omega
      clear hge hall hs ht hst hk
      rcases g1 with g1 | ⟨g1, g2⟩
      · go_wp2
        go_ret
        exact ⟨rfl, HB.out⟩
      · go_wp2
        go_ret
        exact ⟨rfl, HB.out⟩
  · obtain ⟨rfl, hv⟩ := HT.out.none h0
    obtain rfl : 0 = v := hv.symm
    have g1 : (E != 0) = true := by simpa using h0
    have g2 : (E == 0) = false := by simpa using h0
    clear h0 hv HT
    go_wp2
    go_ret
    exact ⟨rfl, HB.out⟩

end Go.Proofs.Ythlcbhbjngcnkaa
