/- Package most: More, and Of. -/
import Derived.Deep.RegionHeld3
import Derived.Test.YtmneajmfoljflaaMSearch
import Derived.Test.YtmneajmfoljflaaMPush
import Derived.Test.YtmneajmfoljflaaCopyI
import Derived.Test.YtmneajmfoljflaaMostC
import Derived.Test.YtmneajmfoljflaaFCheck
namespace Go.Proofs.Ytmneajmfoljflaa
open Go.RowKit
set_option linter.unusedVariables false

theorem gone_600 {N s t : Nat} {l : List Arc3} {F : List Int} (hE : netErr N s t l = 0) (hF : FlowIs N s t l F) : -600000 ≤ gone l (ati F) s ∧ gone l (ati F) s ≤ 600000 := by
  have h60 := (err_ok (net_ok hE).1).2.1
  have := goneK_bound (l := l) (f := ati F) (v := s) (C := 10000) (by omega) l.length fun i hi => by
    have := hF.bnd i hi
    have := (err_ok (net_ok hE).1).2.2 _ (at3_mem l i hi)
    omega
  unfold gone
  omega

/-- More, its answer in memory of the call's own -/
def MMoreOwn : Prop := ∀ (n s t : Int) (ao af : Option Addr) (cap capf : Nat) (l : List Arc3) (f : List Int) (w : World), GraphIn w ao cap l → IntsIn w af capf f →
  Calls Try.prog 27 #[.agg #[.int .i64 n, .int .i64 s, .int .i64 t, .slice ao l.length cap], .slice af f.length capf] w fun e w' => Below w.heap.size w w' ∧
    ∃ a1 c1 F v, e = .returned (.tuple #[.slice a1 (F : List Int).length c1, .int .i64 v, .int .i64 (flowErr n s t l f)]) ∧ OwnIs w' w.heap.size a1 c1 F ∧ MostTells n s t l F v (flowErr n s t l f)

set_option maxHeartbeats 8000000 in
set_option maxRecDepth 100000 in
theorem MMore_own : MMoreOwn := by
  intro n s t ao af cap capf l f w hG hI
  have hG0 := hG.alloc (.cells #[.int .i64 n, .int .i64 s, .int .i64 t, .slice ao l.length cap] 43)
  have hI0 := hI.alloc (.cells #[.int .i64 n, .int .i64 s, .int .i64 t, .slice ao l.length cap] 43)
  have x0 := blk_new w (.cells #[.int .i64 n, .int .i64 s, .int .i64 t, .slice ao l.length cap] 43)
  have hc := FValue_any n s t ao af cap capf l f _ hG0 hI0
  have HV : Hid (valueOf n s t l f = if flowErr n s t l f = 0 then gone l (ati f) s else 0) := rfl
  obtain ⟨V, hVV⟩ : ∃ V, valueOf n s t l f = V := ⟨_, rfl⟩
  obtain ⟨E, hEE⟩ : ∃ E, flowErr n s t l f = E := ⟨_, rfl⟩
  rw [hVV, hEE] at hc HV
  rw [hEE]
  have HE : Hid (flowErr n s t l f = E) := hEE
  clear hG hI hEE hVV
  go_enter Try.func27, Try.ntmps27
  go_wp2_with fail
  refine hc.mono ?_
  clear hc
  rintro e w1 ⟨hb1, rfl⟩
  simp only [World.size_alloc] at hb1
  have hz1 := hb1.size
  simp only [World.size_alloc] at hz1
  have x1 := blk_below hb1 x0 (by omega)
  have HB : Hid (Below w.heap.size w w1) := below_in hb1 (by omega)
  have HG : Hid (GraphIn w1 ao cap l) := hG0.below hb1 (by simp)
  have HI : Hid (IntsIn w1 af capf f) := hI0.below hb1 (by simp)
  have hwz : w.heap.size < w1.heap.size := by omega
  have HX : Hid (w1.heap[w.heap.size]? = some (.cells #[.int .i64 n, .int .i64 s, .int .i64 t, .slice ao l.length cap] 43 (0, 0))) := x1
  clear hb1 x0 x1 hG0 hI0 hz1
  by_cases hE : E = 0
  · subst hE
    rw [if_pos rfl] at HV
    have hV := HV.out
    subst hV
    have h00 : ((0 : Int) != 0) = false := rfl
    obtain ⟨hN, hFf⟩ := flow_ok HE.out
    obtain ⟨hge, hs, ht, hst⟩ := net_ok hN
    obtain ⟨⟨hn1, hn2⟩, hl60, hall⟩ := err_ok hge
    obtain ⟨N, rfl⟩ := Int.eq_ofNat_of_zero_le (show 0 ≤ n by omega)
    obtain ⟨sN, rfl⟩ := Int.eq_ofNat_of_zero_le hs.1
    obtain ⟨tN, rfl⟩ := Int.eq_ofNat_of_zero_le ht.1
    rw [Int.toNat_natCast] at hFf
    have hlen := hFf.len
    rw [hlen]
    have HN : Hid (netErr N sN tN l = 0) := hN
    have Hf : Hid (FlowIs N sN tN l f) := hFf
    have Hlen : Hid (f.length = l.length) := hlen
    have hti : (tN : Int) < 12 := by omega
    have hti2 : tN < 12 := by omega
    have hmk := make_ints l.length (by omega)
    clear hN hFf hge hs ht hst hall hlen HV
    go_wp2_with (refine wpList_copy_ints rfl _ _ rfl w1.heap.size l.length af capf f Hlen.out rfl rfl (blk_new w1 _) (HI.out.ints.alloc _) ?_; intro w2 hb2 ho2)
    have HB2 : Hid (Below w.heap.size w w2) := HB.out.trans ((below_in hb2 (Nat.le_refl _)).mono (by omega))
    have HX2 : Hid (w2.heap[w.heap.size]? = some (.cells #[.int .i64 (N : Int), .int .i64 (sN : Int), .int .i64 (tN : Int), .slice ao l.length cap] 43 (0, 0))) := blk_below hb2 (blk_old HX.out _) hwz
    have HArc : Hid (∀ x y : World, Only w1.heap.size x y → ArcsAt x ao l → ArcsAt y ao l) := fun x y ho hA i hi => (ho.arcs hA (fun c off e => by obtain ⟨b, o', e', hb, _⟩ := HG.out.arcs i hi; rw [e] at e'; cases e'; omega)) i hi
    have HG2 : Hid (GraphIn w2 ao cap l) := HG.out.below (below_in hb2 (Nat.le_refl _)) (Nat.le_refl _)
    have HO2 : Hid (OwnI w2 w1.heap.size l.length l.length (ati f)) := ho2
    have hz2 : w1.heap.size < w2.heap.size := ho2.lt
    clear hb2 ho2 HX HG HI HB hmk
    simp only [Act.put, List.setIfInBounds_toArray, List.set_cons_succ, List.set_cons_zero, goInt]
    go_loopw [7] (fun v wr => ∃ F : List Int, v = .int .i64 (gone l (ati F) sN) ∧ Hid (F.length = l.length) ∧ Hid (FlowIs N sN tN l F) ∧ Hid (OwnI wr w1.heap.size l.length l.length (ati F)) ∧ Hid (Below w.heap.size w wr) ∧ Hid (GraphIn wr ao cap l) ∧ w1.heap.size < wr.heap.size ∧
      wr.heap[w.heap.size]? = some (.cells #[.int .i64 (N : Int), .int .i64 (sN : Int), .int .i64 (tN : Int), .slice ao l.length cap] 43 (0, 0))) (fun v _ => (600001 - intOf v).toNat)
    case atStart => exact ⟨f, rfl, Hlen, Hf, HO2, HB2, HG2, hz2, HX2.out⟩
    case round =>
      obtain ⟨F, rfl, HFl, HF, HO, HB, HG, hzr, x1⟩ := hrel
      have hIF : IntsAt wr (some ⟨w1.heap.size, 0, none⟩) F := fun i hi => ⟨_, _, rfl, HO.out.lt, by rw [Nat.zero_add]; exact HO.out.cell (by rw [← HFl.out]; exact hi)⟩
      have hsr := search_any N sN tN ao (some ⟨w1.heap.size, 0, none⟩) cap l.length l F wr HN.out HF.out HG.out.arcs hIF
      have HXr : Hid (wr.heap[w.heap.size]? = some (.cells #[.int .i64 (N : Int), .int .i64 (sN : Int), .int .i64 (tN : Int), .slice ao l.length cap] 43 (0, 0))) := x1
      obtain ⟨r0, r1, r2, r3⟩ := blk4 x1
      have hgb := gone_600 HN.out HF.out
      obtain ⟨y, hy⟩ : ∃ y, gone l (ati F) sN = y := ⟨_, rfl⟩
      rw [hy] at hgb ⊢
      have HY : Hid (gone l (ati F) sN = y) := hy
      clear x1 hIF hy HX2 HO2 HB2 HG2
      go_wp2_with fail
      refine hsr.mono ?_
      clear hsr
      rintro e w3 ⟨hb3, c, G, rfl, hV, hFd⟩
      have hz3 := hb3.size
      have HX3 : Hid (w3.heap[w.heap.size]? = some (.cells #[.int .i64 (N : Int), .int .i64 (sN : Int), .int .i64 (tN : Int), .slice ao l.length cap] 43 (0, 0))) := blk_below hb3 HXr.out (by omega)
      have HO3 : Hid (OwnI w3 w1.heap.size l.length l.length (ati F)) := by
        obtain ⟨q, h1, h2, h3⟩ := HO.out
        exact ⟨q, h1.of_block (hb3.block _ hzr), h2, h3⟩
      have HB3 : Hid (Below w.heap.size w w3) := HB.out.trans (hb3.mono HB.out.size)
      have HG3 : Hid (GraphIn w3 ao cap l) := HG.out.below hb3 (Nat.le_refl _)
      have HFd : Hid (Found N sN l (ati F) G) := hFd
      have HV : Hid (StepsV c G) := hV
      clear r0 r1 r2 r3 HXr HO HB HG hb3 hV hFd
      by_cases hT : rmv G tN = 0
      · have hm := HFd.out.most HN.out HF.out hT
        rw [HY.out] at hm
        have HM : Hid (MaxIs N sN tN l y) := hm
        have e1 : (G (tN * 4 + 3) == 0) = true := by
          have : G (tN * 4 + 3) = 0 := hT
          simp [this]
        clear hm hT
        go_wp2_with (first
          | (refine wpList_alloc_steps rfl rfl ?_; intro w4 hb4 hz4 hs4)
          | (refine wpList_store_steps rfl _ _ rfl w3.heap.size c G (fun _ => 0) rfl rfl HV.out hs4 ?_; intro w5 ho5 hs5; have hz5 := ho5.size; have x5 := ho5.blk (blk_below hb4 HX3.out (by omega)) (by omega); obtain ⟨r0, r1, r2, r3⟩ := blk4 x5; have c3 := World.rowIs.cell hs5 (i := tN * 4 + 3) (by omega); clear x5))
        have hB5 : Below w.heap.size w w5 := HB3.out.trans ((hb4.trans (ho5.below (Nat.le_refl _) (by omega))).mono HB3.out.size)
        have hO5 : OwnIs w5 w.heap.size (some ⟨w1.heap.size, 0, none⟩) l.length F := by
          refine Or.inr ⟨w1.heap.size, rfl, by omega, by unfold maxLen; omega, ?_⟩
          obtain ⟨q, h1, h2, h3⟩ := HO3.out
          rw [HFl.out]
          exact ⟨q, (h1.of_block (hb4.block _ (by omega))).of_block (ho5.block _ (by omega) (by omega)), h2, h3⟩
        have HR : Hid (Below w.heap.size w w5 ∧ OwnIs w5 w.heap.size (some ⟨w1.heap.size, 0, none⟩) l.length F) := ⟨hB5, hO5⟩
        clear hB5 hO5
        go_ret3
        exact ⟨HR.out.1, _, _, F, y, by rw [HFl.out]; rfl, HR.out.2, ⟨fun h => absurd rfl h, fun _ => HN.out, fun _ => ⟨by rw [Int.toNat_natCast]; exact HF.out, HY.out⟩, fun _ => by rw [Int.toNat_natCast]; exact HM.out⟩⟩
      · have e1 : (G (tN * 4 + 3) == 0) = false := by
          have : G (tN * 4 + 3) ≠ 0 := hT
          simp [this]
        have hpos : 0 < rmv G tN := by
          obtain ⟨⟨rk, hTr⟩, _⟩ := HFd.out
          have := (hTr.bnd tN (by have := (net_ok HN.out).2.2.1; omega)).1
          omega
        have HP : Hid (0 < rmv G tN) := hpos
        clear hT hpos
        go_wp2_with (first
          | (refine wpList_alloc_steps rfl rfl ?_; intro w4 hb4 hz4 hs4)
          | (refine wpList_store_steps rfl _ _ rfl w3.heap.size c G (fun _ => 0) rfl rfl HV.out hs4 ?_; intro w5 ho5 hs5; have hz5 := ho5.size; have x5 := ho5.blk (blk_below hb4 HX3.out (by omega)) (by omega); obtain ⟨r0, r1, r2, r3⟩ := blk4 x5; have c3 := World.rowIs.cell hs5 (i := tN * 4 + 3) (by omega); clear x5)
          | (refine wpList_load_steps rfl _ rfl w3.heap.size G rfl hs5 ?_; intro c9 hV9))
        have hB5 : Below w.heap.size w w5 := HB3.out.trans ((hb4.trans (ho5.below (Nat.le_refl _) (by omega))).mono HB3.out.size)
        have hO5 : OwnI w5 w1.heap.size l.length F.length (ati F) := by
          obtain ⟨q, h1, h2, h3⟩ := HO3.out
          rw [HFl.out]
          exact ⟨q, (h1.of_block (hb4.block _ (by omega))).of_block (ho5.block _ (by omega) (by omega)), h2, h3⟩
        have hG5 : GraphIn w5 ao cap l := HG3.out.below (hb4.trans (ho5.below (Nat.le_refl _) (by omega))) (Nat.le_refl _)
        have hX5 := ho5.blk (blk_below hb4 HX3.out (by omega)) (by omega)
        have hpu := push_any N sN tN w1.heap.size ao cap l.length l F c9 G w5 HN.out HF.out hV9 HFd.out HP.out hO5
        rw [HFl.out] at hpu
        have HX5 : Hid (w5.heap[w.heap.size]? = some (.cells #[.int .i64 (N : Int), .int .i64 (sN : Int), .int .i64 (tN : Int), .slice ao l.length cap] 43 (0, 0))) := hX5
        have HB5 : Hid (Below w.heap.size w w5) := hB5
        have HG5 : Hid (GraphIn w5 ao cap l) := hG5
        have hz6 : w1.heap.size < w5.heap.size := by omega
        have HZ : Hid (rmv G tN = rmv G tN) := rfl
        obtain ⟨z, hz⟩ : ∃ z, rmv G tN = z := ⟨_, rfl⟩
        rw [hz] at hpu HP
        clear HZ hz hB5 hO5 hG5 hX5 HB3 HO3 HG3 HX3 hb4 hz4 hs4 ho5 hs5 hz5 r0 r1 r2 r3 c3
        refine hpu.mono ?_
        clear hpu
        rintro e w6 ⟨ho6, F2, rfl, hl2, hfl2, hg2, hO6⟩
        have hb2 := gone_600 HN.out hfl2
        rw [HY.out] at hg2
        rw [hg2] at hb2
        have hzp := HP.out
        have v1 : IntKind.i64.wrap (y + z) = y + z := by rw [IntKind.wrap_i64]; omega
        have HR : Hid (gone l (ati F2) sN = y + z ∧ FlowIs N sN tN l F2 ∧ OwnI w6 w1.heap.size l.length l.length (ati F2)) := ⟨hg2, hfl2, hO6⟩
        have HL2 : Hid (F2.length = l.length) := hl2
        clear hg2 hfl2 hO6 hl2
        go_wp2
        go_roundw
        case rel => exact ⟨F2, by rw [HR.out.1], HL2, HR.out.2.1, HR.out.2.2, HB5.out.trans (ho6.below (by omega) HB5.out.size), ⟨HArc.out _ _ ho6 HG5.out.arcs, HG5.out.le, HG5.out.max, HG5.out.nil⟩, by have := ho6.size; omega, ho6.blk HX5.out (by omega)⟩
        case measure => simp [intOf]; omega
  · have hE' : (E != 0) = true := by simpa using hE
    rw [if_neg hE] at HV
    have hV := HV.out
    subst hV
    have HT : Hid (E ≠ 0) := hE
    clear hE HV
    go_wp2
    go_ret3
    exact ⟨HB.out, none, 0, [], 0, rfl, Or.inl ⟨rfl, rfl, rfl⟩, ⟨fun _ => ⟨rfl, rfl⟩, fun h => absurd h HT.out, fun h => absurd h HT.out, fun h => absurd h HT.out⟩⟩

theorem MMore_any : MMoreC := fun n s t ao af cap capf l f w hG hI => (MMore_own n s t ao af cap capf l f w hG hI).mono fun e w' ⟨hb, a1, c1, F, v, he, ho, ht⟩ => ⟨hb, a1, c1, F, v, he, ho.arg, ht⟩

/-- nothing goes -/
theorem ati_zeros (n k : Nat) : ati (List.replicate n 0) k = 0 := by
  by_cases h : k < n
  · simp [ati, h]
  · simp [ati, show (List.replicate n (0 : Int))[k]? = none from List.getElem?_eq_none (by rw [List.length_replicate]; omega)]
theorem flow_zeros {n s t : Int} {l : List Arc3} (h : netErr n s t l = 0) : flowErr n s t l (List.replicate l.length 0) = 0 := by
  refine flow_mk h ⟨by simp, fun k hk => ?_, fun v hv h1 h2 => ?_⟩
  · rw [ati_zeros]
    have := (err_ok (net_ok h).1).2.2 _ (at3_mem l k hk)
    omega
  · rw [gone_congr (g := fun _ => 0) fun i _ => ati_zeros _ i]; exact gone_zero _ _

/-- Of, its answer in memory of the call's own -/
def MOfOwn : Prop := ∀ (n s t : Int) (ao : Option Addr) (cap : Nat) (l : List Arc3) (w : World), GraphIn w ao cap l →
  Calls Try.prog 18 #[.agg #[.int .i64 n, .int .i64 s, .int .i64 t, .slice ao l.length cap]] w fun e w' => Below w.heap.size w w' ∧
    ∃ a1 c1 F v, e = .returned (.tuple #[.slice a1 (F : List Int).length c1, .int .i64 v, .int .i64 (netErr n s t l)]) ∧ OwnIs w' w.heap.size a1 c1 F ∧ MostTells n s t l F v (netErr n s t l)

set_option maxHeartbeats 8000000 in
set_option maxRecDepth 100000 in
theorem MOf_own : MOfOwn := by
  intro n s t ao cap l w hG
  have hG0 := hG.alloc (.cells #[.int .i64 n, .int .i64 s, .int .i64 t, .slice ao l.length cap] 43)
  have x0 := blk_new w (.cells #[.int .i64 n, .int .i64 s, .int .i64 t, .slice ao l.length cap] 43)
  have hc := CheckNet_any n s t ao cap l _ hG.len hG0.arcs
  obtain ⟨E, hEE⟩ : ∃ E, netErr n s t l = E := ⟨_, rfl⟩
  rw [hEE] at hc ⊢
  have HE : Hid (netErr n s t l = E) := hEE
  clear hG hEE
  go_enter Try.func18, Try.ntmps18
  go_wp2_with fail
  refine hc.mono ?_
  clear hc
  rintro e w1 ⟨rfl, hb1⟩
  simp only [World.size_alloc] at hb1
  have hz1 := hb1.size
  simp only [World.size_alloc] at hz1
  have x1 := blk_below hb1 x0 (by omega)
  have HB : Hid (Below w.heap.size w w1) := below_in hb1 (by omega)
  have HG : Hid (GraphIn w1 ao cap l) := hG0.below hb1 (by simp)
  have hwz : w.heap.size < w1.heap.size := by omega
  obtain ⟨r0, r1, r2, r3⟩ := blk4 x1
  clear hb1 x0 x1 hG0 hz1
  by_cases hE : E = 0
  · subst hE
    have h00 : ((0 : Int) != 0) = false := rfl
    have hl60 := (err_ok (net_ok HE.out).1).2.1
    have hmk := make_ints l.length (by omega)
    have HS : Hid (∀ x : World, Below w1.heap.size w1 x → Below w1.heap.size w1 x ∧ x.cell? ⟨w.heap.size, 0, none⟩ = some (.int .i64 n) ∧ x.cell? ⟨w.heap.size, 1, none⟩ = some (.int .i64 s) ∧ x.cell? ⟨w.heap.size, 2, none⟩ = some (.int .i64 t) ∧ x.cell? ⟨w.heap.size, 3, none⟩ = some (.slice ao l.length cap)) :=
      fun x h => ⟨h, later h r0 hwz, later h r1 hwz, later h r2 hwz, later h r3 hwz⟩
    have HC : Hid (∀ (x : World), Below w1.heap.size w1 x → Calls Try.prog 27 #[.agg #[.int .i64 n, .int .i64 s, .int .i64 t, .slice ao l.length cap], .slice (some ⟨x.heap.size, 0, none⟩) l.length l.length] (x.alloc (.cells (zeri l.length) 3)) fun e w' => Below (x.heap.size + 1) (x.alloc (.cells (zeri l.length) 3)) w' ∧
        ∃ a1 c1 F v, e = .returned (.tuple #[.slice a1 (F : List Int).length c1, .int .i64 v, .int .i64 0]) ∧ OwnIs w' w1.heap.size a1 c1 F ∧ MostTells n s t l F v 0) := fun x h => by
      have hI : IntsIn (x.alloc (.cells (zeri l.length) 3)) (some ⟨x.heap.size, 0, none⟩) l.length (List.replicate l.length 0) := by
        refine ⟨fun i hi => ⟨_, 0, rfl, by simp, ?_⟩, by simp, by unfold maxLen; omega, fun e => by cases e⟩
        rw [List.length_replicate] at hi
        rw [Nat.zero_add, (zeri_row x l.length 3).cell (i := i) hi, ati_zeros]
      have := MMore_own n s t ao (some ⟨x.heap.size, 0, none⟩) cap l.length l (List.replicate l.length 0) _ ((HG.out.below h (Nat.le_refl _)).alloc _) hI
      rw [List.length_replicate, flow_zeros HE.out, World.size_alloc] at this
      refine this.mono ?_
      rintro e w' ⟨hb, a1, c1, F, v, rfl, ho, ht⟩
      refine ⟨hb, a1, c1, F, v, rfl, ?_, ht⟩
      have hsz := h.size
      rcases ho with ho | ⟨g, e, hg, r⟩
      · exact Or.inl ho
      · exact Or.inr ⟨g, e, by omega, r⟩
    have HC2 : Hid (Calls Try.prog 27 #[.agg #[.int .i64 n, .int .i64 s, .int .i64 t, .slice ao l.length cap], .slice (some ⟨w1.heap.size, 0, none⟩) l.length l.length] (w1.drew.alloc (.cells (zeri l.length) 3)) fun e w' => Below w1.heap.size w1 w' ∧
        ∃ a1 c1 F v, e = .returned (.tuple #[.slice a1 (F : List Int).length c1, .int .i64 v, .int .i64 0]) ∧ OwnIs w' w1.heap.size a1 c1 F ∧ MostTells n s t l F v 0) :=
      (HC.out w1.drew (Below.refl _ _).drew).mono fun e w' ⟨hb, h⟩ => ⟨((Below.refl w1.heap.size w1).drew.alloc (Nat.le_refl _) _).trans (hb.mono (Nat.le_succ _)), h⟩
    clear HG HE HC r0 r1 r2 r3
    go_wp2
    go_region_held3 (fun x => Below w1.heap.size w1 x ∧ x.cell? ⟨w.heap.size, 0, none⟩ = some (.int .i64 n) ∧ x.cell? ⟨w.heap.size, 1, none⟩ = some (.int .i64 s) ∧ x.cell? ⟨w.heap.size, 2, none⟩ = some (.int .i64 t) ∧ x.cell? ⟨w.heap.size, 3, none⟩ = some (.slice ao l.length cap))
      (first
        | with_reducible assumption
        | with_reducible exact HS.out _ ((Below.refl _ _).drew)
        | with_reducible exact HS.out _ (below_al (And.left (by with_reducible assumption)) _))
      (first
        | (go_at_call 27; refine HC2.out.mono ?_; rintro e w3 ⟨hb3, a1, c1, F, v, rfl, ho, ht⟩; have hs3 := HS.out w3 hb3; have HO : Hid (OwnIs w3 w1.heap.size a1 c1 F) := ho; have HTl : Hid (MostTells n s t l F v 0) := ht; clear ho ht hb3))
    all_goals
      go_wp2
      go_ret3
      exact ⟨HB.out.trans (hs3.1.mono (by omega)), a1, c1, F, v, rfl, HO.out.imp id fun ⟨g, e, hg, r⟩ => ⟨g, e, by omega, r⟩, HTl.out⟩
  · have hE' : (E != 0) = true := by simpa using hE
    have HT : Hid (E ≠ 0) := hE
    clear hE
    go_wp2
    go_ret3
    exact ⟨HB.out, none, 0, [], 0, rfl, Or.inl ⟨rfl, rfl, rfl⟩, ⟨fun _ => ⟨rfl, rfl⟩, fun h => absurd h HT.out, fun h => absurd h HT.out, fun h => absurd h HT.out⟩⟩

theorem MOf_any : MOfC := fun n s t ao cap l w hG => (MOf_own n s t ao cap l w hG).mono fun e w' ⟨hb, a1, c1, F, v, he, ho, ht⟩ => ⟨hb, a1, c1, F, v, he, ho.arg, ht⟩

end Go.Proofs.Ytmneajmfoljflaa
