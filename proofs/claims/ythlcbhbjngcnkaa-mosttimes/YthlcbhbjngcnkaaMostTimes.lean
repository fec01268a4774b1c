/- The law MostTimes, walked, out of the contracts of Of and of flow.Check. -/
import Derived.Test.YthlcbhbjngcnkaaMostGrows
import Derived.Test.YthlcbhbjngcnkaaMapTo
namespace Go.Proofs.Ythlcbhbjngcnkaa
open Go.RowKit
set_option linter.unusedVariables false

def mulB (b : Int) (a : Arc3) : Arc3 := (a.1, a.2.1, b * a.2.2)

theorem net_snoc {n s t c : Int} {l : List Arc3} (h : netErr n s t l = 0) (h60 : l.length < 60) (hc : 0 ≤ c ∧ c ≤ 10000) : netErr n s t (l ++ [(s, t, c)]) = 0 := by
  obtain ⟨h1, h2, h3, h4⟩ := net_ok h
  obtain ⟨a1, a2, a3⟩ := err_ok h1
  refine net_mk ⟨err_mk ⟨a1, by rw [List.length_append, List.length_singleton]; omega, fun a ha => ?_⟩, h2, h3, h4⟩
  rcases List.mem_append.1 ha with ha | ha
  · exact a3 a ha
  · rw [List.mem_singleton] at ha
    subst ha
    exact ⟨h2, h3, hc.1, hc.2⟩
theorem mulB_max {N : Nat} {s t b v u : Int} {l : List Arc3} (hb : 0 ≤ b) (hE : netErr N s t l = 0) (hE' : netErr N s t (l.map (mulB b)) = 0) (h : MaxIs N s t l v) (h' : MaxIs N s t (l.map (mulB b)) u) : u = b * v :=
  h'.unique hE' (MaxIs.times hb hE (by simp) (fun i hi => by rw [at3_map (mulB b) l i hi]; exact ⟨rfl, rfl, rfl⟩) h)

set_option maxHeartbeats 8000000 in
set_option maxRecDepth 100000 in
theorem MostTimes_any (hM : MOfC) (hK : FCheckC) (n s t b0 c0 : Int) (ao : Option Addr) (cap : Nat) (l : List Arc3) (w : World) (hG : GraphIn w ao cap l) :
    Calls Try.prog 6 #[.agg #[.int .i64 n, .int .i64 s, .int .i64 t, .slice ao l.length cap], .int .i64 b0, .int .i64 c0] w fun e w' => e = .returned (.bool true) ∧ Below w.heap.size w w' := by
  have hG0 := hG.alloc (.cells #[.int .i64 n, .int .i64 s, .int .i64 t, .slice ao l.length cap] 24)
  have x0 := blk_new w (.cells #[.int .i64 n, .int .i64 s, .int .i64 t, .slice ao l.length cap] 24)
  have g00 : ((0 : Int) != 0) = false := rfl
  have g01 : ((0 : Int) == 0) = true := rfl
  go_enter Try.func6, Try.ntmps6
  go_wp2_with fail
  refine (mosts_any hM hK _).mono ?_
  rintro e w1 ⟨rfl, hb1⟩
  simp only [World.size_alloc] at hb1
  have hz1 := hb1.size
  simp only [World.size_alloc] at hz1
  have x1 := blk_below hb1 x0 (by omega)
  have hG1 := hG0.below hb1 (by simp)
  have hbb1 := below_in hb1 (by omega)
  obtain ⟨r0, r1, r2, r3⟩ := blk4 x1
  clear hb1 x0 hG0
  go_wp2_with fail
  refine (hM n s t ao cap l _ hG1).mono ?_
  rintro e W ⟨hb2, a1, c1, F, v, rfl, _, hT⟩
  have hz2 := hb2.size
  have x2 := blk_below hb2 x1 (by omega)
  have HG : Hid (GraphIn W ao cap l) := hG1.below hb2 (Nat.le_refl _)
  have HB : Hid (Below w.heap.size w W) := hbb1.trans (hb2.mono (by omega))
  have HT : Hid (MostTells n s t l F v (netErr n s t l)) := hT
  clear r0 r1 r2 r3 x1 hG1 hb2 hbb1 hT
  obtain ⟨r0, r1, r2, r3⟩ := blk4 x2
  obtain ⟨E, hE⟩ : ∃ E, netErr n s t l = E := ⟨_, rfl⟩
  rw [hE] at HT ⊢
  have HE : Hid (netErr n s t l = E) := hE
  have hw0 : w.heap.size < W.heap.size := by omega
  have HX : Hid (W.heap[w.heap.size]? = some (.cells #[.int .i64 n, .int .i64 s, .int .i64 t, .slice ao l.length cap] 24 (0, 0))) := x2
  clear hE x2
  by_cases h0 : E = 0
  · subst h0
    obtain ⟨hge, hs, ht, hst⟩ := net_ok HE.out
    obtain ⟨⟨hn1, hn2⟩, hl60, hall⟩ := err_ok hge
    by_cases hk : l.length = 60
    · have e60 : ((l.length : Int) == 60) = true := by simp; omega
      clear hge hall hs ht hst hk
      go_wp2
      go_ret
      exact ⟨rfl, HB.out⟩
    · have e60 : ((l.length : Int) == 60) = false := by simp; omega
      have hl59 : l.length < 60 := by omega
      obtain ⟨N, rfl⟩ := Int.eq_ofNat_of_zero_le (show 0 ≤ n by omega)
      have HMx : Hid (MaxIs N s t l v) := by have := HT.out.most rfl; rwa [Int.toNat_natCast] at this
      have HCap : Hid (∀ k, k < l.length → 0 ≤ (at3 l k).2.2 ∧ (at3 l k).2.2 ≤ 10000) := fun k hk => (hall _ (at3_mem l k hk)).2.2
      have hvb := vbound HE.out HMx.out
      have hr1 : ∀ x : World, Calls Try.prog 14 #[.int .i64 b0, .int .i64 10] x fun e w' => e = .returned (.int .i64 (restV b0 10)) ∧ w' = x := fun x => rest_big b0 10 (by omega) (by omega) x
      have hr2 : ∀ x : World, Calls Try.prog 14 #[.int .i64 c0, .int .i64 1001] x fun e w' => e = .returned (.int .i64 (restV c0 1001)) ∧ w' = x := fun x => rest_big c0 1001 (by omega) (by omega) x
      obtain ⟨m1, m2⟩ := restV_in b0 (m := 10) (by omega)
      obtain ⟨m3, m4⟩ := restV_in c0 (m := 1001) (by omega)
      generalize restV b0 10 = b at *
      generalize restV c0 1001 = c at *
      have HR1 : Hid (∀ x : World, Calls Try.prog 14 #[.int .i64 b0, .int .i64 10] x fun e w' => e = .returned (.int .i64 b) ∧ w' = x) := hr1
      have HR2 : Hid (∀ x : World, Calls Try.prog 14 #[.int .i64 c0, .int .i64 1001] x fun e w' => e = .returned (.int .i64 c) ∧ w' = x) := hr2
      clear hge hall hs ht hst hk hr1 hr2 HT
      go_wp2_with fail
      refine (HR1.out _).mono ?_
      rintro e w' ⟨rfl, hw⟩
      rw [hw]
      clear hw
      go_wp2_with fail
      refine (HR2.out _).mono ?_
      rintro e w' ⟨rfl, hw⟩
      rw [hw]
      clear hw HR1 HR2
      have hA0 : ArcsAt W ao l := HG.out.arcs
      have HNl : Hid (ao = none → l.length = 0 ∧ cap = 0) := HG.out.nil
      go_wp2_with fail
      go_cut [10] (fun s' wx => ∃ p ao3 cap3, s' = .pointer (some ⟨p, 0, none⟩) ∧ NetCopy W wx p N s t ao3 cap3 l)
      case first =>
        have HS : Hid (∀ x : World, Below W.heap.size W x → Below W.heap.size W x ∧ x.cell? ⟨w.heap.size, 0, none⟩ = some (.int .i64 (N : Int)) ∧ x.cell? ⟨w.heap.size, 1, none⟩ = some (.int .i64 s) ∧ x.cell? ⟨w.heap.size, 2, none⟩ = some (.int .i64 t) ∧ x.cell? ⟨w.heap.size, 3, none⟩ = some (.slice ao l.length cap)) := fun x h => ⟨h, later h r0 hw0, later h r1 hw0, later h r2 hw0, later h r3 hw0⟩
        have HL24 : Hid (l.length * 24 ≤ 140737488351232) := by rw [Hid]; omega
        clear r0 r1 r2 r3 HG HB HE HX HMx HCap hvb e60 m1 m2 m3 m4 g00 g01 hl60 hl59 hn1 hn2 hz1 hz2 hM hK hG
        go_region_held3 (fun x => Below W.heap.size W x ∧ x.cell? ⟨w.heap.size, 0, none⟩ = some (.int .i64 (N : Int)) ∧ x.cell? ⟨w.heap.size, 1, none⟩ = some (.int .i64 s) ∧ x.cell? ⟨w.heap.size, 2, none⟩ = some (.int .i64 t) ∧ x.cell? ⟨w.heap.size, 3, none⟩ = some (.slice ao l.length cap))
          (first
            | with_reducible assumption
            | with_reducible exact HS.out _ ((Below.refl _ W).drew)
            | with_reducible exact HS.out _ (below_al (And.left (by with_reducible assumption)) _)
            | with_reducible exact HS.out _ (below_set4 hs3.1 _ _ _ _))
          (first
            | (go_at_call 15; refine (clone_own ao cap l _ (hA0.below (And.left (by with_reducible assumption)) (Nat.le_refl _)) HNl.out HL24.out).mono ?_; rintro e w3 ⟨hb3, v, rfl, hown⟩; obtain ⟨ao3, cap3, rfl⟩ := owns_form hown; have hs3 := HS.out w3 (below_tr (And.left (by with_reducible assumption)) hb3); (try (have tA : w3.heap[W.heap.size]? = some (.cells #[.int .i64 0, .int .i64 0, .int .i64 0, .slice none 0 0] 24 (0, 0)) := (by with_reducible exact pre_al hb3); obtain ⟨a0, a1, a2, a3⟩ := blk4 tA; obtain ⟨f0, f1, f2, f3⟩ := blk4z tA)); have HO : Hid _ := hown; clear hown))
        all_goals
          go_wp2_with fail
          go_meet
          case rel =>
            first
            | exact ⟨w3.heap.size, ao3, cap3, rfl, netCopy_late hs3.1 (Nat.le_refl _) HO.out⟩
            | exact ⟨W.heap.size, ao3, cap3, rfl, netCopy_early hs3.1 tA (owns_weaken HO.out (by simp))⟩
      case rest =>
        obtain ⟨p, ao3, cap3, rfl, hp, hblk, hO, hgp, hbW⟩ := hcut
        have HGP : Hid (∀ g, ao3 = some ⟨g, 0, none⟩ → g ≠ p) := hgp
        have HO0 : Hid (OwnA wc W.heap.size ao3 cap3 l) := hO
        have HBk0 : Hid (wc.heap[p]? = some (.cells #[.int .i64 (N : Int), .int .i64 s, .int .i64 t, .slice ao3 l.length cap3] 24 (0, 0))) := hblk
        have HbW : Hid (Below W.heap.size W wc) := hbW
        have x5 := blk_below hbW HX.out hw0
        clear r0 r1 r2 r3 hgp hO hbW
        obtain ⟨r0, r1, r2, r3⟩ := blk4 x5
        obtain ⟨s0, s1, s2, s3⟩ := blk4 hblk
        clear x5 hblk
        go_wp2
        go_loopw [57] (fun i wr => ∃ k : Nat, k ≤ l.length ∧ i = .int .i64 k ∧ wr.heap[p]? = some (.cells #[.int .i64 (N : Int), .int .i64 s, .int .i64 t, .slice ao3 l.length cap3] 24 (0, 0)) ∧ Hid (OwnA wr W.heap.size ao3 cap3 (mapTo (mulB b) l k)) ∧ Hid (Below W.heap.size W wr)) (fun i _ => l.length - (intOf i).toNat)
        case atStart => exact ⟨0, Nat.zero_le _, rfl, HBk0.out, by rw [mapTo_zero]; exact HO0, HbW⟩
        case round =>
          obtain ⟨k, hk, rfl, hblk, hO, hB⟩ := hrel
          clear r0 r1 r2 r3 s0 s1 s2 s3 HBk0 HO0 HbW
          have hz := hB.out.size
          have hpl : p < wr.heap.size := (Array.getElem?_eq_some_iff.1 hblk).1
          have x6 := blk_below hB.out HX.out hw0
          obtain ⟨r0, r1, r2, r3⟩ := blk4 x6
          obtain ⟨s0, s1, s2, s3⟩ := blk4 hblk
          have HBk : Hid (wr.heap[p]? = some (.cells #[.int .i64 (N : Int), .int .i64 s, .int .i64 t, .slice ao3 l.length cap3] 24 (0, 0))) := hblk
          clear x6 hblk
          by_cases hlt : k < l.length
          · obtain ⟨ba, off, rfl, hba, c0', c1', c2⟩ := hA0.below hB.out (Nat.le_refl _) k hlt
            obtain ⟨g1, eg, hgB, hgl, hgc, m0, m1'⟩ := hO.out.at (i := k) (by rw [mapTo_len]; exact hlt)
            subst eg
            have hgp := HGP.out g1 rfl
            rw [mapTo_at (mulB b) l k k hk hlt, if_neg (Nat.lt_irrefl k)] at m0
            rw [mapTo_len] at hgc
            obtain ⟨cp1, cp2⟩ := HCap.out k hlt
            have HSet : Hid (∀ j, j < (mapTo (mulB b) l k).length → at3 (mapTo (mulB b) l (k + 1)) j = if j = k then ((at3 (mapTo (mulB b) l k) k).1, (at3 (mapTo (mulB b) l k) k).2.1, b * (at3 l k).2.2) else at3 (mapTo (mulB b) l k) j) := mapTo_next (mulB b) l k hlt fun a => ⟨rfl, rfl⟩
            generalize (at3 l k).1 = pf at *
            generalize (at3 l k).2.1 = pt at *
            generalize (at3 l k).2.2 = x at *
            have hbx : 0 ≤ b * x ∧ b * x ≤ 90000 := ⟨Int.mul_nonneg m1 cp1, by
              have h1 : b * x ≤ 9 * x := Int.mul_le_mul_of_nonneg_right (by omega) cp1
              omega⟩
            have v1 : IntKind.i64.wrap (b * x) = b * x := by rw [IntKind.wrap_i64]; omega
            clear hbx
            go_wp2
            go_region
            go_wp2
            go_roundw
            case rel =>
              refine ⟨k + 1, by omega, by go_num, ?_, ?_, ?_⟩
              · have e2 := Go.Deep.blk_setCell_other wr ⟨g1, k * 3 + 2, none⟩ (.int .i64 (b * x)) p (Ne.symm hgp)
                exact e2.trans HBk.out
              · exact (hO.out.set (by rw [mapTo_len]; exact hlt) (by rw [mapTo_len, mapTo_len]) HSet.out).drewN 1
              · exact (hB.out.setCell hgB _).drew
            case measure => simp [intOf]; omega
          · have hkk : l.length = k := by omega
            subst hkk
            rw [mapTo_all] at hO
            have hq := hM N s t ao3 cap3 (l.map (mulB b)) wr hO.out.graph
            rw [List.length_map] at hq
            obtain ⟨E2, hE2⟩ : ∃ E, netErr N s t (l.map (mulB b)) = E := ⟨_, rfl⟩
            rw [hE2] at hq
            have HE2 : Hid (netErr N s t (l.map (mulB b)) = E2) := hE2
            have HBw : Hid (Below w.heap.size w wr) := HB.out.trans (hB.out.mono (by omega))
            have hwr : w.heap.size < wr.heap.size := by omega
            have x7 := blk_below hB.out HX.out hw0
            have HG7 : Hid (GraphIn wr ao cap l) := HG.out.below hB.out (Nat.le_refl _)
            clear hO hE2 hA0 hB HBk HGP HG
            go_wp2_with fail
            refine hq.mono ?_
            clear hq
            rintro e w8 ⟨hb8, a4, c4, F4, v4, rfl, _, hT4⟩
            have hz8 := hb8.size
            have HB8 : Hid (Below w.heap.size w w8) := HBw.out.trans (hb8.mono (by omega))
            have HG8 : Hid (GraphIn w8 ao cap l) := HG7.out.below hb8 (Nat.le_refl _)
            have x8 := blk_below hb8 x7 hwr
            have hw8 : w.heap.size < w8.heap.size := by omega
            have HV4 : Hid (E2 = 0 → v4 = b * v) := fun h => by
              have := hT4.most h
              rw [Int.toNat_natCast] at this
              exact mulB_max m1 HE.out (HE2.out.trans h) HMx.out this
            clear hT4 hb8 x7 HBw HG7 hwr r0 r1 r2 r3 s0 s1 s2 s3 hz hpl hk
            obtain ⟨r0, r1, r2, r3⟩ := blk4 x8
            have HNs : Hid (netErr N s t (l ++ [(s, t, c)]) = 0) := net_snoc HE.out hl59 ⟨m3, by omega⟩
            have HVs : Hid (∀ u, MaxIs N s t (l ++ [(s, t, c)]) u → u = v + c) := fun u hu => hu.unique HNs.out (MaxIs.more m3 HE.out HMx.out)
            have HA : Hid (ArcsAt w8 ao l) := HG8.out.arcs
            have HN : Hid (ao = none → l.length = 0 ∧ cap = 0) := HG8.out.nil
            have HS : Hid (∀ x : World, Below w8.heap.size w8 x → Below w8.heap.size w8 x ∧ x.cell? ⟨w.heap.size, 0, none⟩ = some (.int .i64 (N : Int)) ∧ x.cell? ⟨w.heap.size, 1, none⟩ = some (.int .i64 s) ∧ x.cell? ⟨w.heap.size, 2, none⟩ = some (.int .i64 t) ∧ x.cell? ⟨w.heap.size, 3, none⟩ = some (.slice ao l.length cap)) := fun x h => ⟨h, later h r0 hw8, later h r1 hw8, later h r2 hw8, later h r3 hw8⟩
            have HOf : Hid (∀ (x : World) (ao' : Option Addr) (cap' : Nat), Below w8.heap.size w8 x → x.ownsRow w8.heap.size 37 3 (.slice ao' (l.length + 1) cap') (l.length + 1) (flat l ++ [.int .i64 s, .int .i64 t, .int .i64 c]) →
                Calls Try.prog 8 #[.agg #[.int .i64 (N : Int), .int .i64 s, .int .i64 t, .slice ao' (l.length + 1) cap']] x fun e w' => Below w8.heap.size w8 w' ∧ ∃ a1 len c1, e = .returned (.tuple #[.slice a1 len c1, .int .i64 (v + c), .int .i64 0])) := fun x ao' cap' hb hown => by
              have e : flat l ++ [.int .i64 s, .int .i64 t, .int .i64 c] = flat (l ++ [(s, t, c)]) := by rw [flat_append]; rfl
              have e2 : (l ++ [(s, t, c)]).length = l.length + 1 := by simp
              rw [e, ← e2] at hown
              obtain ⟨x', y, h1, h2, _, h3, h4⟩ := owns_arcs hown
              rw [e2] at h1
              cases h1
              have hGx : GraphIn x ao' cap' (l ++ [(s, t, c)]) := ⟨h2, h3, h4, fun e => by
                obtain ⟨b, off, e', _⟩ := h2 0 (by simp)
                rw [e] at e'; cases e'⟩
              have := hM N s t ao' cap' (l ++ [(s, t, c)]) x hGx
              rw [HNs.out, e2] at this
              refine this.mono ?_
              rintro e w' ⟨hb', a1, c1, F, u, rfl, _, hT⟩
              have hu := hT.most rfl
              rw [Int.toNat_natCast] at hu
              rw [HVs.out u hu]
              exact ⟨below_tr hb hb', a1, _, c1, rfl⟩
            clear HB HX HE2 HCap HMx HNs HVs HG8 x8 HE HNl hG
            go_wp2_with fail
            go_cut [15, 16, 17] (fun q1 q2 q3 wx => q2 = .int .i64 (v + c) ∧ q3 = .int .i64 0 ∧ Below w8.heap.size w8 wx)
            case first =>
              obtain ⟨i0, hi, hz0, hz1', hz2'⟩ := info_parts infoArc
              have HR : Hid (l.length * 24 ≤ 140737488351232) := by rw [Hid]; omega
              have HO1 : Hid (∀ u ∈ [Value.int .i64 s, .int .i64 t, .int .i64 c], u.oneCell' = true) := by intro u hu; simp at hu; rcases hu with rfl | rfl | rfl <;> rfl
              have HK1 : Hid (l.length + 1 ≤ maxLen) := by rw [Hid]; unfold maxLen; omega
              have HK2 : Hid ((l.length + 1) * 24 ≤ 140737488355328) := by rw [Hid]; omega
              clear r0 r1 r2 r3 HB8 HV4 hvb e60 m1 m2 m3 m4 g00 g01 hl60 hl59 hn1 hn2 hz1 hz2 hz8 hw0 hw8 hM hK hp
              go_region_held3 (fun x => Below w8.heap.size w8 x ∧ x.cell? ⟨w.heap.size, 0, none⟩ = some (.int .i64 (N : Int)) ∧ x.cell? ⟨w.heap.size, 1, none⟩ = some (.int .i64 s) ∧ x.cell? ⟨w.heap.size, 2, none⟩ = some (.int .i64 t) ∧ x.cell? ⟨w.heap.size, 3, none⟩ = some (.slice ao l.length cap))
                (first
                  | with_reducible assumption
                  | with_reducible exact HS.out _ ((Below.refl _ w8).drew)
                  | with_reducible exact HS.out _ (below_al (And.left (by with_reducible assumption)) _))
                (first
                  | (refine step_append_join (w0 := w8) rfl (.tmp 89) (.tmp 96) 22 rfl 37 i0 _ 3 24 Try.underlying22 hi hz0 hz1' hz2' rfl (by decide) (.slice ao7 l.length cap7) l.length (flat l) rfl (by first | with_reducible exact HO.out | with_reducible exact HO.out.alloc _) (by with_reducible exact And.left (by assumption)) ⟨w7.heap.size, 0, none⟩ 1 1 [.int .i64 s, .int .i64 t, .int .i64 c] rfl rfl (news3 (t := 37) (by first | with_reducible exact blk_new _ _ | with_reducible exact pre0 hb7)) HO1.out HK1.out HK2.out ?_; intro ao8 cap8 w10 hown8 hb10 hk8; have hs8 := HS.out w10 hb10; have HO8 : Hid (w10.ownsRow w8.heap.size 37 3 (.slice ao8 (l.length + 1) cap8) (l.length + 1) (flat l ++ [.int .i64 s, .int .i64 t, .int .i64 c])) := hown8; clear hown8 hk8)
                  | (refine step_append_join (w0 := w8) rfl (.tmp 89) (.tmp 96) 22 rfl 37 i0 _ 3 24 Try.underlying22 hi hz0 hz1' hz2' rfl (by decide) (.slice ao7 l.length cap7) l.length (flat l) rfl (by first | with_reducible exact HO.out | with_reducible exact HO.out.alloc _) (by with_reducible exact And.left (by assumption)) ⟨w8.heap.size, 0, none⟩ 1 1 [.int .i64 s, .int .i64 t, .int .i64 c] rfl rfl (news3 (t := 37) (by first | with_reducible exact blk_new _ _ | with_reducible exact pre0 hb7)) HO1.out HK1.out HK2.out ?_; intro ao8 cap8 w10 hown8 hb10 hk8; have hs8 := HS.out w10 hb10; have HO8 : Hid (w10.ownsRow w8.heap.size 37 3 (.slice ao8 (l.length + 1) cap8) (l.length + 1) (flat l ++ [.int .i64 s, .int .i64 t, .int .i64 c])) := hown8; clear hown8 hk8)
                  | (go_at_call 15; refine (clone_own ao cap l _ (HA.out.below (And.left (by with_reducible assumption)) (Nat.le_refl _)) HN.out HR.out).mono ?_; rintro e w7 ⟨hb7, v, rfl, hown⟩; obtain ⟨ao7, cap7, rfl⟩ := owns_form hown; have hs7 := HS.out w7 (below_tr (And.left (by with_reducible assumption)) hb7); have HO : Hid (w7.ownsRow w8.heap.size 37 3 (.slice ao7 l.length cap7) l.length (flat l)) := owns_weaken hown (Below.size (And.left (by with_reducible assumption))); clear hown)
                  | (go_at_call 8; refine (HOf.out _ _ _ (And.left (by with_reducible assumption)) HO8.out).mono ?_; rintro e w11 ⟨hb11, a11, l11, c11, rfl⟩; have hs11 := HS.out w11 hb11))
              all_goals
                go_wp2_with fail
                go_meet
                case rel => exact ⟨rfl, rfl, hs11.1⟩
            case rest =>
              obtain ⟨rfl, rfl, hbc⟩ := hcut
              have HBc : Hid (Below w.heap.size w wc) := HB8.out.trans (hbc.mono (by omega))
              have hbv : 0 ≤ b * v ∧ b * v ≤ 5400000 := ⟨Int.mul_nonneg m1 hvb.1, by
                have h1 : b * v ≤ 9 * v := Int.mul_le_mul_of_nonneg_right (by omega) hvb.1
                omega⟩
              have v1 : IntKind.i64.wrap (b * v) = b * v := by rw [IntKind.wrap_i64]; omega
              have v2 : IntKind.i64.wrap (v + c) = v + c := by rw [IntKind.wrap_i64]; omega
              have e1 : (b * v == b * v) = true := by simp
              have e2 : (v + c == v + c) = true := by simp
              clear r0 r1 r2 r3 HB8 HS HOf HA HN hbc hbv hvb m1 m2 m3 m4
              by_cases hE2 : E2 = 0
              · subst hE2
                obtain rfl := HV4.out rfl
                go_wp2
                go_ret
                exact ⟨rfl, HBc.out⟩
              · have e3 : (E2 != 0) = true := by simpa using hE2
                clear hE2
                go_wp2
                go_ret
                exact ⟨rfl, HBc.out⟩
  · obtain ⟨rfl, hv⟩ := HT.out.none h0
    obtain rfl : 0 = v := hv.symm
    have g1 : (E != 0) = true := by simpa using h0
    have g2 : (E == 0) = false := by simpa using h0
    clear h0 hv HT
    go_wp2
    go_ret
    exact ⟨rfl, HB.out⟩

end Go.Proofs.Ythlcbhbjngcnkaa
