/- The law FlowOwn, walked: of flows, their pieces, and more of them. -/
import Derived.Test.YthlcbhbjngcnkaaMMore
import Derived.Test.YthlcbhbjngcnkaaFSplit
import Derived.Test.YthlcbhbjngcnkaaCloneW
import Derived.Test.YthlcbhbjngcnkaaSpoilI
import Derived.Test.YthlcbhbjngcnkaaContains
import Derived.Test.YthlcbhbjngcnkaaClone
import Derived.Test.YthlcbhbjngcnkaaSl
import Derived.Deep.RegionHeld3
namespace Go.Proofs.Ythlcbhbjngcnkaa
open Go.RowKit
set_option linter.unusedVariables false

theorem NumRow.sp {w : World} {B C : Nat} {pa : Option Addr} {pc : Nat} {K : List Nat} (h : NumRow w B pa pc K) (hC : w.heap.size ≤ C) : SpRow w B C pa pc ∧ K.length ≤ pc := by
  obtain ⟨g, off, cur, e, hB, hg, hs, hl, hm, _⟩ := h
  exact ⟨Or.inr ⟨g, off, cur, e, hB, by have := (Array.getElem?_eq_some_iff.1 hg).1; omega, hg, by omega, by omega⟩, hl⟩
theorem OwnIs.sp {w : World} {B C : Nat} {pa : Option Addr} {pc : Nat} {l : List Int} (h : OwnIs w B pa pc l) (hC : w.heap.size ≤ C) : SpRow w B C pa pc ∧ l.length ≤ pc := by
  refine ⟨?_, h.arg.le⟩
  rcases h with ⟨e1, e2, _⟩ | ⟨g, e, hB, hm, f, ⟨cur, hg, hn, _⟩, h2, _⟩
  · exact Or.inl ⟨e1, e2⟩
  · exact Or.inr ⟨g, 0, cur, e, hB, by have := (Array.getElem?_eq_some_iff.1 hg).1; omega, hg, by omega, hm⟩
theorem no_minus {N : Nat} {s t : Int} {l : List Arc3} {F : List Int} (h : FlowIs N s t l F) : decide ((-1 : Int) ∈ F) = false := by
  refine decide_eq_false fun hm => ?_
  obtain ⟨k, hk, e⟩ := List.mem_iff_getElem.1 hm
  have := (h.bnd k (by rw [← h.len]; exact hk)).1
  rw [ati_lt _ _ hk, e] at this
  omega

set_option maxHeartbeats 8000000 in
set_option maxRecDepth 100000 in
theorem FlowOwn_any (n s t : Int) (ao af : Option Addr) (cap capf : Nat) (l : List Arc3) (f : List Int) (w : World) (hG : GraphIn w ao cap l) (hI : IntsIn w af capf f) (hrl : l.length * 24 ≤ 140737488351232) (hrf : f.length * 8 ≤ 140737488351232) :
    Calls Try.prog 7 #[.agg #[.int .i64 n, .int .i64 s, .int .i64 t, .slice ao l.length cap], .slice af f.length capf] w fun e w' => e = .returned (.bool true) ∧ Below w.heap.size w w' := by
  have hG0 := hG.alloc (.cells #[.int .i64 n, .int .i64 s, .int .i64 t, .slice ao l.length cap] 24)
  have hI0 := hI.alloc (.cells #[.int .i64 n, .int .i64 s, .int .i64 t, .slice ao l.length cap] 24)
  have x0 := blk_new w (.cells #[.int .i64 n, .int .i64 s, .int .i64 t, .slice ao l.length cap] 24)
  have g00 : ((0 : Int) != 0) = false := rfl
  have g01 : ((0 : Int) == 0) = true := rfl
  go_enter Try.func7, Try.ntmps7
  go_wp2_with fail
  refine (weir_any _).mono ?_
  rintro e w1 ⟨hb1, aw, cw, rfl, hGw⟩
  simp only [World.size_alloc] at hb1
  have hz1 := hb1.size
  simp only [World.size_alloc] at hz1
  have x1 := blk_below hb1 x0 (by omega)
  have hG1 := hG0.below hb1 (by simp)
  have hI1 := hI0.below hb1 (by simp)
  have hB1 : Below w.heap.size w w1 := below_in hb1 (by omega)
  have hIz := ints_new w1 [0, 0, 0, 0, 0] 3
  have hq := MMore_own 4 0 3 aw (some ⟨w1.heap.size, 0, none⟩) cw 5 weirL [0, 0, 0, 0, 0] _ (hGw.alloc _) ⟨hIz, by decide, by unfold maxLen; omega, fun e => by cases e⟩
  rw [show flowErr 4 0 3 weirL [0, 0, 0, 0, 0] = 0 by decide] at hq
  simp only [List.map_cons, List.map_nil] at hq
  clear hb1 x0 hG0 hI0 hIz hGw
  go_wp2_with fail
  refine hq.mono ?_
  clear hq
  rintro e W ⟨hb2, a5, c5, F5, v5, rfl, _, hT5⟩
  simp only [World.size_alloc] at hb2
  have hz2 := hb2.size
  simp only [World.size_alloc] at hz2
  have hF5 : F5.length = 5 := (hT5.flow rfl).1.len
  have hb2' : Below w1.heap.size w1 W := below_in hb2 (by omega)
  have x2 := blk_below hb2' x1 (by omega)
  have HG : Hid (GraphIn W ao cap l) := hG1.below hb2' (Nat.le_refl _)
  have HI : Hid (IntsIn W af capf f) := hI1.below hb2' (Nat.le_refl _)
  have HB : Hid (Below w.heap.size w W) := hB1.trans (hb2'.mono (by omega))
  have hw0 : w.heap.size < W.heap.size := by omega
  have HX : Hid (W.heap[w.heap.size]? = some (.cells #[.int .i64 n, .int .i64 s, .int .i64 t, .slice ao l.length cap] 24 (0, 0))) := x2
  rw [hF5]
  have q3 := (blk4 x2).2.2.2
  have HS : Hid (∀ x : World, Below W.heap.size W x → Below W.heap.size W x ∧ x.cell? ⟨w.heap.size, 3, none⟩ = some (.slice ao l.length cap)) := fun x h => ⟨h, later h q3 hw0⟩
  have e55 : ((5 : Int) != 5) = false := rfl
  clear hb2 hb2' x1 x2 hG1 hI1 hB1 hT5 hF5 hz1 hz2
  go_wp2
  go_cut [8, 9] (fun y z wx => ∃ a8 c8 a9 c9, y = .slice a8 f.length c8 ∧ z = .slice a9 l.length c9 ∧ Hid (IntsAt wx a8 f) ∧ Hid (ArcsAt wx a9 l) ∧ Below W.heap.size W wx)
  case first =>
    have HA : Hid (ArcsAt W ao l) := HG.out.arcs
    have HNl : Hid (ao = none → l.length = 0 ∧ cap = 0) := HG.out.nil
    have HF : Hid (IntsAt W af f) := HI.out.ints
    have HNf : Hid (af = none → f.length = 0 ∧ capf = 0) := HI.out.nil
    have HR1 : Hid (l.length * 24 ≤ 140737488351232) := hrl
    have HR2 : Hid (f.length * 8 ≤ 140737488351232) := hrf
    clear HG HI HB HX hG hI hrl hrf q3 g00 g01 e55 hw0
    go_region_held3 (fun x => Below W.heap.size W x ∧ x.cell? ⟨w.heap.size, 3, none⟩ = some (.slice ao l.length cap))
      (first
        | with_reducible assumption
        | with_reducible exact HS.out _ ((Below.refl _ _).drew))
      (first
        | (go_at_call 18; refine (cloneI_all af capf f _ (HF.out.below (And.left (by with_reducible assumption)) (Nat.le_refl _)) HNf.out HR2.out).mono ?_; rintro e w3 ⟨hb3, a8, c8, rfl, hi8⟩; have hs3 := HS.out w3 (below_tr (And.left (by with_reducible assumption)) hb3); have Hi8 : Hid (IntsAt w3 a8 f) := hi8; have Hb3 : Hid (Below _ _ w3) := hb3; clear hi8 hb3)
        | (go_at_call 15; refine (clone_own ao cap l _ (HA.out.below (And.left (by with_reducible assumption)) (Nat.le_refl _)) HNl.out HR1.out).mono ?_; rintro e w4 ⟨hb4, v, rfl, hown⟩; obtain ⟨a9, c9, rfl, ha9, _, _, _⟩ := owns_arcs hown; have hs4 := HS.out w4 (below_tr (And.left (by with_reducible assumption)) hb4); have Ha9 : Hid (ArcsAt w4 a9 l) := ha9; have Hb4 : Hid (Below _ _ w4) := hb4; clear ha9 hb4 hown))
    all_goals
      go_wp2_with fail
      go_meet
      case rel =>
        first
        | exact ⟨a8, c8, a9, c9, rfl, rfl, Hi8.out.below Hb4.out (Nat.le_refl _), Ha9, hs4.1⟩
        | exact ⟨a8, c8, a9, c9, rfl, rfl, Hi8, Ha9.out.below Hb3.out (Nat.le_refl _), hs3.1⟩
  case rest =>
    obtain ⟨a8, c8, a9, c9, rfl, rfl, Hi8, Ha9, hbc⟩ := hcut
    have x3 := blk_below hbc HX.out hw0
    have HGc : Hid (GraphIn wc ao cap l) := HG.out.below hbc (Nat.le_refl _)
    have HIc : Hid (IntsIn wc af capf f) := HI.out.below hbc (Nat.le_refl _)
    have HBc : Hid (Below w.heap.size w wc) := HB.out.trans (hbc.mono (by omega))
    have hwc : w.heap.size < wc.heap.size := by have := hbc.size; omega
    have HXc : Hid (wc.heap[w.heap.size]? = some (.cells #[.int .i64 n, .int .i64 s, .int .i64 t, .slice ao l.length cap] 24 (0, 0))) := x3
    clear HG HI HB HX HS hbc q3 hw0
    obtain ⟨r0, r1, r2, r3⟩ := blk4 x3
    clear x3
    go_wp2_with fail
    refine (FSplit_own n s t ao af cap capf l f _ HGc.out HIc.out).mono ?_
    rintro e w5 ⟨hb5, a1, c1, P, a2, c2, R, err, rfl, hTwo, hSay⟩
    have hz5 := hb5.size
    have x5 := blk_below hb5 HXc.out hwc
    have HTwo : Hid (Two w5 wc.heap.size a1 c1 P a2 c2 R) := hTwo
    have HSay : Hid (SplitSays n s t l f (P.map PcV.pc) (R.map PcV.pc) err) := hSay
    have Hb5 : Hid (Below wc.heap.size wc w5) := hb5
    clear hTwo hSay hb5 r0 r1 r2 r3
    obtain ⟨r0, r1, r2, r3⟩ := blk4 x5
    by_cases he : err = 0
    · subst he
      obtain ⟨hE, _, hSI⟩ := HSay.out.right
      obtain ⟨hN, hFf⟩ := flow_ok hE
      have hl60 := (err_ok (net_ok hN).1).2.1
      have hfew := hSI.few
      rw [List.length_map, List.length_map] at hfew
      have HE : Hid (flowErr n s t l f = 0) := hE
      have HN : Hid (netErr n s t l = 0) := hN
      have hm := MMore_own n s t ao af cap capf l f w5 (HGc.out.below Hb5.out (Nat.le_refl _)) (HIc.out.below Hb5.out (Nat.le_refl _))
      rw [hE] at hm
      clear hE hSI hN hFf x5
      go_wp2_with fail
      refine hm.mono ?_
      clear hm
      rintro e w6 ⟨hb6, aG, cG, Gg, v, rfl, hOG, hT⟩
      have hz6 := hb6.size
      have HT : Hid (MostTells n s t l Gg v 0) := hT
      have HOG : Hid (OwnIs w6 w5.heap.size aG cG Gg) := hOG
      have Hb6 : Hid (Below w5.heap.size w5 w6) := hb6
      obtain ⟨hP1, hP2⟩ := HTwo.out.pieces
      have hPa := (hP1.below hb6 (Nat.le_refl _)).alloc (.cells #[.slice a1 P.length c1, .slice a2 R.length c2] 44)
      have hRa := (hP2.below hb6 (Nat.le_refl _)).alloc (.cells #[.slice a1 P.length c1, .slice a2 R.length c2] 44)
      have hcat := concatP_any w6.heap.size a1 a2 c1 c2 P R (w6.alloc (.cells #[.slice a1 P.length c1, .slice a2 R.length c2] 44)) (by simp) (newest _ _ _) (newest _ _ _) hPa hRa (by omega)
      clear hT hOG hb6 hP1 hP2 hPa hRa r0 r1 r2 r3
      go_wp2_with fail
      refine hcat.mono ?_
      clear hcat
      rintro e w7 ⟨hb7, aC, cC, rfl, hPC, hcl, hcm, hCB⟩
      simp only [World.size_alloc] at hb7 hCB
      have hz7 := hb7.size
      simp only [World.size_alloc] at hz7
      have hb7' : Below w6.heap.size w6 w7 := below_in hb7 (by omega)
      have HbW : Hid (Below wc.heap.size wc w7) := Hb5.out.trans ((Hb6.out.trans (hb7'.mono (by omega))).mono (by omega))
      have HSp : Hid (∀ i, i < P.length + R.length → SpRow w7 wc.heap.size w5.heap.size (atp (P ++ R) i).ao (atp (P ++ R) i).cap ∧ (atp (P ++ R) i).k.length ≤ (atp (P ++ R) i).cap) := fun i hi => by
        have hi' : i < (P ++ R).length := by rw [List.length_append]; exact hi
        have hm : atp (P ++ R) i ∈ P ++ R := by rw [atp_lt _ _ hi']; exact List.getElem_mem hi'
        obtain ⟨h1, h2⟩ := (HTwo.out.rows _ hm).sp (Nat.le_refl _)
        exact ⟨(h1.below Hb6.out (Nat.le_refl _)).below hb7' (Nat.le_refl _), h2⟩
      have HPC : Hid (∀ i, i < P.length + R.length → ∃ b off, aC = some ⟨b, off, none⟩ ∧ w5.heap.size ≤ b ∧ b < w7.heap.size ∧ w7.cell? ⟨b, off + i * 2, none⟩ = some (.int .i64 (atp (P ++ R) i).a) ∧ w7.cell? ⟨b, off + i * 2 + 1, none⟩ = some (.slice (atp (P ++ R) i).ao (atp (P ++ R) i).k.length (atp (P ++ R) i).cap)) := fun i hi => by
        obtain ⟨b, off, e, hb, k0, k1, _⟩ := hPC i (by rw [List.length_append]; exact hi)
        exact ⟨b, off, e, by have := hCB b off e; omega, hb, k0, k1⟩
      have HSG : Hid (SpRow w7 w5.heap.size w6.heap.size aG cG ∧ Gg.length ≤ cG) := by
        obtain ⟨h1, h2⟩ := HOG.out.sp (C := w6.heap.size) (Nat.le_refl _)
        exact ⟨h1.below hb7' (Nat.le_refl _), h2⟩
      unfold maxLen at hcm
      obtain ⟨m, hm⟩ : ∃ m, P.length + R.length = m := ⟨_, rfl⟩
      rw [hm] at HSp HPC hcl hfew ⊢
      clear hPC hCB hb7 hb7' HTwo HOG Hb5 Hb6 hm
      go_wp2
      go_loopw [64] (fun i wr => ∃ k : Nat, k ≤ m ∧ i = .int .i64 k ∧ Hid (Spoilt wc.heap.size w5.heap.size w7 wr)) (fun i _ => m - (intOf i).toNat)
      case atStart => exact ⟨0, Nat.zero_le _, rfl, Spoilt.refl _ _ _⟩
      case round =>
        obtain ⟨k, hk, rfl, hS⟩ := hrel
        by_cases hlt : k < m
        · obtain ⟨b, off, rfl, hbC, hb7, k0, k1⟩ := HPC.out k hlt
          obtain ⟨hsp, hkl⟩ := HSp.out k hlt
          have hbr : b < wr.heap.size := by have := hS.out.size; omega
          have hblk := hS.out.block b hb7 (Or.inr hbC)
          have k0 := (World.cell?_of_block (w := w7) (a := ⟨b, off + k * 2, none⟩) hblk).trans k0
          have k1 := (World.cell?_of_block (w := w7) (a := ⟨b, off + k * 2 + 1, none⟩) hblk).trans k1
          generalize (atp (P ++ R) k).a = pa at *
          generalize (atp (P ++ R) k).ao = po at *
          generalize (atp (P ++ R) k).cap = pc at *
          generalize (atp (P ++ R) k).k.length = pl at *
          have hcall := spoilI_any wc.heap.size w5.heap.size pl po pc (-1) _ hkl ((hsp.spoilt hS.out).alloc (.cells #[.int .i64 pa, .slice po pl pc] 50))
          clear hblk hsp hkl
          go_wp2_with fail
          refine hcall.mono ?_
          clear hcall
          rintro e w8 ⟨rfl, hsp8⟩
          have HS8 : Hid (Spoilt wc.heap.size w5.heap.size w7 w8) := (hS.out.alloc _).trans hsp8
          clear hsp8 hS
          go_wp2
          go_roundw
          case rel => exact ⟨k + 1, by omega, by go_num, HS8⟩
          case measure => simp [intOf]; omega
        · have hkk : m = k := by omega
          subst hkk
          have hcall := spoilI_any w5.heap.size w6.heap.size Gg.length aG cG (-1) wr HSG.out.2 (HSG.out.1.spoilt hS.out)
          go_wp2_with fail
          refine hcall.mono ?_
          clear hcall
          rintro e w8 ⟨rfl, hsp8⟩
          have hBr : Below wc.heap.size w7 wr := hS.out.below HbW.out.size
          have hB8 : Below wc.heap.size wr w8 := (hsp8.below (by have := hS.out.size; omega)).mono hz5
          have HB8 : Hid (Below wc.heap.size wc w8) := HbW.out.trans (hBr.trans hB8)
          have x8 := blk_below HB8.out HXc.out hwc
          have HG8 : Hid (GraphIn w8 ao cap l) := HGc.out.below HB8.out (Nat.le_refl _)
          have HI8 : Hid (IntsIn w8 af capf f) := HIc.out.below HB8.out (Nat.le_refl _)
          have Hi : Hid (IntsAt w8 a8 f) := Hi8.out.below HB8.out (Nat.le_refl _)
          have Ha : Hid (ArcsAt w8 a9 l) := Ha9.out.below HB8.out (Nat.le_refl _)
          have HBw : Hid (Below w.heap.size w w8) := HBc.out.trans (HB8.out.mono (by omega))
          have hz8 : w.heap.size < w8.heap.size := by have := HB8.out.size; omega
          have hf63 := HI8.out.len
          have hl63 := HG8.out.len
          have he1 := equalIntsB af a8 capf c8 f f w8 hf63 hf63 HI8.out.ints Hi.out
          rw [decide_eq_true rfl] at he1
          have HX8 : Hid (w8.heap[w.heap.size]? = some (.cells #[.int .i64 n, .int .i64 s, .int .i64 t, .slice ao l.length cap] 24 (0, 0))) := x8
          clear hsp8 hBr hB8 x8 hS HSp HPC HSG HbW HXc HGc HIc HBc Hi8 Ha9 HB8
          go_wp2_with fail
          refine he1.mono ?_
          clear he1
          rintro e w9 ⟨rfl, hb9⟩
          have hz9 := hb9.size
          have HX9 : Hid (w9.heap[w.heap.size]? = some (.cells #[.int .i64 n, .int .i64 s, .int .i64 t, .slice ao l.length cap] 24 (0, 0))) := blk_below hb9 HX8.out hz8
          have HG9 : Hid (GraphIn w9 ao cap l) := HG8.out.below hb9 (Nat.le_refl _)
          have HI9 : Hid (IntsIn w9 af capf f) := HI8.out.below hb9 (Nat.le_refl _)
          have HBw9 : Hid (Below w.heap.size w w9) := HBw.out.trans (hb9.mono (by omega))
          have he2 := equalArcsB ao a9 cap c9 l l w9 hl63 hl63 HG9.out.arcs (Ha.out.below hb9 (Nat.le_refl _))
          rw [decide_eq_true rfl] at he2
          obtain ⟨r0, r1, r2, r3⟩ := blk4 HX9.out
          clear hb9 HX8 HG8 HI8 HBw Hi Ha
          go_wp2_with fail
          refine he2.mono ?_
          clear he2
          rintro e w10 ⟨rfl, hb10⟩
          have hz10 := hb10.size
          have hm2 := MMore_own n s t ao af cap capf l f w10 (HG9.out.below hb10 (Nat.le_refl _)) (HI9.out.below hb10 (Nat.le_refl _))
          rw [HE.out] at hm2
          have x10 := blk_below hb10 HX9.out (by omega)
          have HBw10 : Hid (Below w.heap.size w w10) := HBw9.out.trans (hb10.mono (by omega))
          clear hb10 HX9 HG9 HI9 HBw9 r0 r1 r2 r3
          obtain ⟨r0, r1, r2, r3⟩ := blk4 x10
          clear x10
          go_wp2_with fail
          refine hm2.mono ?_
          clear hm2
          rintro e w11 ⟨hb11, aH, cH, Hh, v2, rfl, hOH, hT2⟩
          have HBw11 : Hid (Below w.heap.size w w11) := HBw10.out.trans (hb11.mono (by omega))
          have hvv : v = v2 := by
            obtain ⟨N, rfl⟩ := Int.eq_ofNat_of_zero_le (show 0 ≤ n by have := (err_ok (net_ok HN.out).1).1; omega)
            have q1 := HT.out.most rfl
            have q2 := hT2.most rfl
            rw [Int.toNat_natCast] at q1 q2
            exact q1.unique HN.out q2
          subst hvv
          have hct := containsInts aH cH Hh (-1) w11 hOH.arg.len hOH.arg.ints
          rw [no_minus (hT2.flow rfl).1] at hct
          have evv : (v == v) = true := by simp
          clear hb11 hOH hT2 HT HBw10 r0 r1 r2 r3
          go_wp2_with fail
          refine hct.mono ?_
          rintro e w' ⟨rfl, hw⟩
          rw [hw]
          clear hw hct
          go_wp2
          go_ret
          exact ⟨rfl, HBw11.out⟩
    · have he1 : (err != 0) = true := by simpa using he
      have hq := equalIntsB af a8 capf c8 f f w5 HIc.out.len HIc.out.len (HIc.out.ints.below Hb5.out (Nat.le_refl _)) (Hi8.out.below Hb5.out (Nat.le_refl _))
      rw [decide_eq_true rfl] at hq
      clear he
      go_wp2_with fail
      refine hq.mono ?_
      clear hq
      rintro e w6 ⟨rfl, hb6⟩
      have HB6 : Hid (Below w.heap.size w w6) := HBc.out.trans ((Hb5.out.trans (hb6.mono Hb5.out.size)).mono (by omega))
      clear hb6 r0 r1 r2 r3
      go_wp2
      go_ret
      exact ⟨rfl, HB6.out⟩

end Go.Proofs.Ythlcbhbjngcnkaa
