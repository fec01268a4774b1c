/- Package flow: the contract of Split: its pieces, in memory of its own. -/
import Derived.Test.YthlcbhbjngcnkaaFOut
import Derived.Test.YthlcbhbjngcnkaaFCheck
namespace Go.Proofs.Ythlcbhbjngcnkaa
open Go.RowKit
set_option linter.unusedVariables false

theorem NumRow.at {w : World} {B : Nat} {p : PcV} (h : NumRow w B p.ao p.cap p.k) : p.At w := by
  have hi := h.ints
  obtain ⟨g, off, cur, e, hB, hg, hs, hle, hm, hc⟩ := h
  exact ⟨hi, hle, by omega, fun e' => by rw [e] at e'; cases e'⟩
theorem Two.pieces {w : World} {B : Nat} {a1 a2 : Option Addr} {c1 c2 : Nat} {W R : List PcV} (h : Two w B a1 c1 W a2 c2 R) : PiecesAt w a1 W ∧ PiecesAt w a2 R := by
  refine ⟨?_, ?_⟩
  · obtain ⟨ao, cap, e, hP, _⟩ := owns_pieces h.ways fun i hi => by rw [atp_lt _ _ hi]; exact (h.rows _ (List.mem_append_left _ (List.getElem_mem hi))).at
    cases e; exact hP
  · obtain ⟨ao, cap, e, hP, _⟩ := owns_pieces h.rounds fun i hi => by rw [atp_lt _ _ hi]; exact (h.rows _ (List.mem_append_right _ (List.getElem_mem hi))).at
    cases e; exact hP

/-- what Split answers -/
def SplitAns (n s t : Int) (l : List Arc3) (f : List Int) (B : Nat) (e : Ending) (w' : World) : Prop :=
  ∃ a1 c1 W a2 c2 R err, e = .returned (.tuple #[.slice a1 (W : List PcV).length c1, .slice a2 (R : List PcV).length c2, .int .i64 err]) ∧ Two w' B a1 c1 W a2 c2 R ∧ SplitSays n s t l f (W.map PcV.pc) (R.map PcV.pc) err
theorem splitAns_none (n s t : Int) (l : List Arc3) (f : List Int) (B : Nat) (w' : World) (err : Int) (h : SplitSays n s t l f [] [] err) : SplitAns n s t l f B (.returned (.tuple #[.slice none 0 0, .slice none 0 0, .int .i64 err])) w' :=
  ⟨none, 0, [], none, 0, [], err, rfl, Two.none _ _, h⟩

set_option maxHeartbeats 4000000 in
set_option maxRecDepth 100000 in
theorem FSplit_own (n s t : Int) (ao af : Option Addr) (cap capf : Nat) (l : List Arc3) (f : List Int) (w : World) (hG : GraphIn w ao cap l) (hFI : IntsIn w af capf f) :
    Calls Try.prog 19 #[.agg #[.int .i64 n, .int .i64 s, .int .i64 t, .slice ao l.length cap], .slice af f.length capf] w fun e w' => Below w.heap.size w w' ∧ SplitAns n s t l f w.heap.size e w' := by
  obtain ⟨i0, hi, hz0, hz1, hz2⟩ := info_parts infoPiece
  have x0 := blk_new w (.cells #[.int .i64 n, .int .i64 s, .int .i64 t, .slice ao l.length cap] 24)
  have hG0 := hG.alloc (.cells #[.int .i64 n, .int .i64 s, .int .i64 t, .slice ao l.length cap] 24)
  have hF0 := hFI.alloc (.cells #[.int .i64 n, .int .i64 s, .int .i64 t, .slice ao l.length cap] 24)
  have hc := FValue_any n s t ao af cap capf l f _ hG0 hF0
  have HV : Hid (valueOf n s t l f = if flowErr n s t l f = 0 then gone l (ati f) s else 0) := rfl
  have HAw : Hid (ArcsAt w ao l) := hG.arcs
  have HGm : Hid (l.length ≤ cap ∧ cap ≤ maxLen ∧ (ao = none → l.length = 0 ∧ cap = 0)) := ⟨hG.le, hG.max, hG.nil⟩
  obtain ⟨Vv, hVv⟩ : ∃ V, valueOf n s t l f = V := ⟨_, rfl⟩
  obtain ⟨E, hEE⟩ : ∃ E, flowErr n s t l f = E := ⟨_, rfl⟩
  rw [hVv, hEE] at HV hc
  have HE : Hid (flowErr n s t l f = E) := hEE
  clear hG hFI hEE hVv
  go_enter Try.func19, Try.ntmps19
  go_wp2_with fail
  refine hc.mono ?_
  rintro e W1 ⟨hb1, rfl⟩
  simp only [World.size_alloc] at hb1
  have hz1' := hb1.size
  simp only [World.size_alloc] at hz1'
  have x1 := blk_below hb1 x0 (by omega)
  obtain ⟨r0, r1, r2, r3⟩ := blk4 x1
  have hwz : w.heap.size < W1.heap.size := by omega
  have HB0 : Hid (Below w.heap.size w W1) := below_in hb1 (by omega)
  have HG1 : Hid (GraphIn W1 ao cap l) := hG0.below hb1 (by simp)
  have HF1 : Hid (IntsIn W1 af capf f) := hF0.below hb1 (by simp)
  have HX1 : Hid (W1.heap[w.heap.size]? = some (.cells #[.int .i64 n, .int .i64 s, .int .i64 t, .slice ao l.length cap] 24 (0, 0))) := x1
  clear hc hb1 x0 x1 hG0 hF0 hz1'
  by_cases hE : E = 0
  · subst hE
    have h0 : ((0 : Int) != 0) = false := rfl
    rw [if_pos rfl] at HV
    by_cases hneg : Vv < 0
    · have hneg' : decide (Vv < 0) = true := decide_eq_true hneg
      have HR : Hid (SplitSays n s t l f [] [] 9) := ⟨fun h => absurd HE.out h, fun _ _ => rfl, fun _ => ⟨rfl, rfl⟩, fun _ h => by have := HV.out; omega⟩
      clear hneg
      go_wp2
      go_ret3
      exact ⟨HB0.out, splitAns_none _ _ _ _ _ _ _ _ HR.out⟩
    · have hneg' : decide (Vv < 0) = false := decide_eq_false hneg
      obtain ⟨hN, hFf⟩ := flow_ok HE.out
      obtain ⟨hge, hs, ht, hst⟩ := net_ok hN
      obtain ⟨⟨hn1, hn2⟩, hl60, hall⟩ := err_ok hge
      obtain ⟨N, rfl⟩ := Int.eq_ofNat_of_zero_le (show 0 ≤ n by omega)
      obtain ⟨sN, rfl⟩ := Int.eq_ofNat_of_zero_le hs.1
      rw [Int.toNat_natCast] at hFf
      have hsN : sN < N := by omega
      have hN12 : N ≤ 12 := by omega
      have HN : Hid (netErr N sN t l = 0) := hN
      have HFf : Hid (FlowIs N sN t l f) := hFf
      have HL : Hid (∀ a ∈ l, (0 ≤ a.1 ∧ a.1 < (N : Int)) ∧ (0 ≤ a.2.1 ∧ a.2.1 < (N : Int))) := net_nodes hN
      have HNn : Hid (Nn l f) := ⟨hFf.len, fun k hk => by
        have := hFf.bnd k hk
        have := (hall _ (at3_mem l k hk)).2.2.2
        omega⟩
      have HV0 : Hid (0 ≤ gone l (ati f) sN) := by have := HV.out; rw [Hid]; omega
      have hlen := hFf.len
      have hcl := cloneI_any af capf f W1 HF1.out.ints HF1.out.nil (by omega)
      rw [hlen] at hcl ⊢
      clear hN hFf hge hall hs ht hst hneg hlen
      go_wp2_with fail
      refine hcl.mono ?_
      clear hcl
      rintro e V ⟨hb2, ag, capg, rfl, hOg⟩
      have hz2' := hb2.size
      have HB1 : Hid (Below w.heap.size w V) := HB0.out.trans (hb2.mono (by omega))
      have HG2 : Hid (GraphIn V ao cap l) := HG1.out.below hb2 (Nat.le_refl _)
      have HX2 : Hid (V.heap[w.heap.size]? = some (.cells #[.int .i64 (N : Int), .int .i64 (sN : Int), .int .i64 t, .slice ao l.length cap] 24 (0, 0))) := blk_below hb2 HX1.out hwz
      have HAB : Hid (0 < l.length → ∀ b off, ao = some ⟨b, off, none⟩ → b < W1.heap.size) := fun h b off e => by
        obtain ⟨b', off', e', hb', _⟩ := HG1.out.arcs 0 h
        rw [e] at e'; cases e'; exact hb'
      have HLb : Hid (∀ j, lb ag = some j → W1.heap.size ≤ j ∧ j < V.heap.size) := hOg.lt
      have hto := takeOut_any N sN W1.heap.size ao ag cap capg l f V hN12 hsN hl60 HL.out HNn.out HG2.out.arcs hOg HAB.out
      clear r0 r1 r2 r3
      obtain ⟨r0, r1, r2, r3⟩ := blk4 HX2.out
      have hwV : w.heap.size < V.heap.size := by omega
      clear hOg hb2
      go_wp2_with fail
      refine hto.mono ?_
      clear hto
      rintro e V1 ⟨F, W, R, a1, c1, a2, c2, rfl, hT, hD, hO, hTwo, hgr⟩
      have hV1 := hgr.size
      have hTu : Turns N sN t l f 0 F (W.map PcV.pc) (R.map PcV.pc) := Turns.start HN.out HFf.out HNn.out HV0.out hT hD
      have HTu : Hid (Turns N sN t l f 0 F (W.map PcV.pc) (R.map PcV.pc)) := hTu
      have HO1 : Hid (OwnIs V1 W1.heap.size ag capg F) := hO
      have HTwo1 : Hid (Two V1 V.heap.size a1 c1 W a2 c2 R) := hTwo
      have HX3 : Hid (V1.heap[w.heap.size]? = some (.cells #[.int .i64 (N : Int), .int .i64 (sN : Int), .int .i64 t, .slice ao l.length cap] 24 (0, 0))) := (hgr.block _ hwV (fun e => by have := (HLb.out _ e.symm).1; omega)).trans HX2.out
      have HB2 : Hid (Below w.heap.size w V1) := HB1.out.grown hgr HB1.out.size (fun j e => by have := (HLb.out j e).1; omega)
      have hwV1 : w.heap.size < V1.heap.size := by omega
      clear r0 r1 r2 r3 hT hD hTu hO hTwo hgr HX1 HX2 HG1 HF1
      obtain ⟨r0, r1, r2, r3⟩ := blk4 HX3.out
      have HG3 : Hid (GraphIn V1 ao cap l) := ⟨HAw.out.below HB2.out (Nat.le_refl _), HGm.out.1, HGm.out.2.1, HGm.out.2.2⟩
      go_wp2
      go_loopw [11, 39] (fun s2 i wr => ∃ (v : Nat) (F : List Int) (R : List PcV) (a2 : Option Addr) (c2 : Nat), v ≤ N ∧ i = .int .i64 v ∧ s2 = .slice a2 R.length c2 ∧ Hid (Turns N sN t l f v F (W.map PcV.pc) (R.map PcV.pc)) ∧
        Hid (OwnIs wr W1.heap.size ag capg F) ∧ Hid (Two wr V.heap.size a1 c1 W a2 c2 R) ∧ Hid (Below w.heap.size w wr) ∧ Hid (GraphIn wr ao cap l) ∧ wr.heap[w.heap.size]? = some (.cells #[.int .i64 (N : Int), .int .i64 (sN : Int), .int .i64 t, .slice ao l.length cap] 24 (0, 0)) ∧ V.heap.size ≤ wr.heap.size) (fun _ i _ => N - (intOf i).toNat)
      case atStart =>
        exact ⟨0, F, R, a2, c2, Nat.zero_le _, rfl, rfl, HTu, HO1, HTwo1, HB2, HG3, HX3.out, hV1⟩
      case round =>
        obtain ⟨v, F, R, a2, c2, hv, rfl, rfl, hTu, hO, hTwo, hB, hG, hX, hVr⟩ := hrel
        have hzr := hB.out.size
        have hwr : w.heap.size < wr.heap.size := by omega
        clear r0 r1 r2 r3
        obtain ⟨r0, r1, r2, r3⟩ := blk4 hX
        by_cases hlt : v < N
        · have hto := takeOut_any N v W1.heap.size ao ag cap capg l F wr hN12 hlt hl60 HL.out hTu.out.kept.nn hG.out.arcs hO.out HAB.out
          go_wp2_with fail
          refine hto.mono ?_
          clear hto
          rintro e w2 ⟨G, W', Q, a3, c3, a4, c4, rfl, hT, hD, hO2, hTwo2, hgr⟩
          obtain ⟨hW', hTu'⟩ := hTu.out.next HL.out hT hD
          have hz2' := hgr.size
          have HTu1 : Hid (Turns N sN t l f (v + 1) G (W.map PcV.pc) ((R ++ Q).map PcV.pc)) := by rw [Hid, List.map_append]; exact hTu'
          have HO2 : Hid (OwnIs w2 W1.heap.size ag capg G) := hO2
          have hkeep : ∀ (k : Nat) (o : Obj), (∀ j, lb ag = some j → k ≠ j) → wr.heap[k]? = some o → w2.heap[k]? = some o := fun k o hne h => (hgr.block k (Array.getElem?_eq_some_iff.1 h).1 (fun e => hne k e.symm rfl)).trans h
          have HTwo2 : Hid (Two w2 V.heap.size a1 c1 W a2 c2 R) := hTwo.out.keep fun g o t hg h => hkeep g _ (fun j e => by have := (HLb.out j e).2; omega) h
          have HRows : Hid (∀ p ∈ Q, NumRow w2 V.heap.size p.ao p.cap p.k) := fun p hp => (hTwo2.rows p (List.mem_append_right _ hp)).weaken hVr
          have HB2 : Hid (Below w.heap.size w w2) := hB.out.grown hgr hB.out.size (fun j e => by have := (HLb.out j e).1; omega)
          have HX2 : Hid (w2.heap[w.heap.size]? = some (.cells #[.int .i64 (N : Int), .int .i64 (sN : Int), .int .i64 t, .slice ao l.length cap] 24 (0, 0))) := hkeep _ _ (fun j e => by have := (HLb.out j e).1; omega) hX
          have hQfew : R.length + Q.length ≤ 60 := by
            have := hTu'.kept.few
            have h60 := cntF_le (ati f) l.length
            simp only [List.length_map, List.length_append] at this
            omega
          have HQ : Hid (w2.ownsRow wr.heap.size 50 2 (.slice a4 Q.length c4) Q.length (flatp Q)) := hTwo2.rounds
          clear hT hD hO2 hTwo2 hgr hW' hTu' hkeep hTu hO hTwo hB hX hG r0 r1 r2 r3
          cases a4 with
          | none =>
            have hQ0 : Q = [] := by
              rcases HQ.out.2 with ⟨_, e⟩ | ⟨g', _, _, e, _⟩
              · exact List.eq_nil_of_length_eq_zero e
              · cases e
            subst hQ0
            rw [List.append_nil] at HTu1
            simp only [List.length_nil] at HQ ⊢
            have HG2 : Hid (GraphIn w2 ao cap l) := ⟨HAw.out.below HB2.out (Nat.le_refl _), HGm.out.1, HGm.out.2.1, HGm.out.2.2⟩
            go_wp2_with (at_builtin; refine wpList_append_own_nil _ rfl (.tmp 50) (.tmp 51) 44 rfl V.heap.size 50 i0 2 Try.underlying44 hi hz1 _ _ _ rfl HTwo2.out.rounds c4 rfl ?_)
            go_roundw
            case rel => exact ⟨v + 1, G, R, a2, c2, by omega, by go_num, rfl, HTu1, HO2, HTwo2, HB2, HG2, HX2.out, by omega⟩
            case measure => simp [intOf]; omega
          | some ad =>
            have HG2 : Hid (GraphIn w2 ao cap l) := ⟨HAw.out.below HB2.out (Nat.le_refl _), HGm.out.1, HGm.out.2.1, HGm.out.2.2⟩
            have HNews : Hid (∀ j u, (flatp Q)[j]? = some u → w2.cell? (ad.add j) = some u) := by
              rcases HQ.out.2 with ⟨e, _⟩ | ⟨g', cap', cur, e, _⟩
              · cases e
              · cases e
                exact HQ.out.cells (g := g') rfl
            have HLn : Hid ((flatp Q).length = Q.length * 2) := flatp_len Q
            have H1 : Hid (∀ u ∈ flatp Q, u.oneCell' = true) := flatp_one Q
            have HM : Hid (R.length + Q.length ≤ maxLen) := by unfold Hid maxLen; omega
            go_wp2_with (at_builtin; refine wpList_append_own_at _ rfl (.tmp 50) (.tmp 51) 44 rfl V.heap.size 50 i0 _ 2 32 Try.underlying44 hi hz0 hz1 hz2 rfl (by decide) _ _ _ rfl HTwo2.out.rounds ad Q.length c4 (flatp Q) rfl HLn.out HNews.out H1.out HM.out (by omega) (by omega) ?_)
            intro v' w4 hown' hgrow _ hloc
            obtain ⟨a5, c5, rfl⟩ := owns_form hown'
            have HTwo5 : Hid (Two w4 V.heap.size a1 c1 W a5 c5 (R ++ Q)) := HTwo2.out.addRs HRows.out hown' hgrow hloc
            have HO5 : Hid (OwnIs w4 W1.heap.size ag capg G) := HO2.out.keep fun g o h => grown_ints HTwo2.out.rounds hgrow h
            have HB5 : Hid (Below w.heap.size w w4) := HB2.out.grown hgrow HB2.out.size (fun j e => by have := owns_own HTwo2.out.rounds j e; omega)
            have HX5 : Hid (w4.heap[w.heap.size]? = some (.cells #[.int .i64 (N : Int), .int .i64 (sN : Int), .int .i64 t, .slice ao l.length cap] 24 (0, 0))) := (hgrow.block _ (by omega) (fun e => by have := owns_own HTwo2.out.rounds _ e.symm; omega)).trans HX2.out
            have HG5 : Hid (GraphIn w4 ao cap l) := ⟨HAw.out.below HB5.out (Nat.le_refl _), HGm.out.1, HGm.out.2.1, HGm.out.2.2⟩
            have hz5 := hgrow.size
            have Hlen : Hid ((R ++ Q).length = R.length + Q.length) := List.length_append
            clear hown' hgrow hloc HTwo2 HO2 HB2 HX2 HNews H1
            go_wp2
            go_roundw
            case rel => exact ⟨v + 1, G, R ++ Q, a5, c5, by omega, by go_num, by rw [Hlen.out], HTu1, HO5, HTwo5, HB5, HG5, HX5.out, by omega⟩
            case measure => simp [intOf]; omega
        · have hvN : v = N := by omega
          subst hvN
          have HR : Hid (SplitSays v sN t l f (W.map PcV.pc) (R.map PcV.pc) 0) := ⟨fun h => absurd HE.out h, fun _ h => by have := HV0.out; omega, fun h => absurd rfl h, fun _ _ => ⟨rfl, hTu.out.done HL.out⟩⟩
          go_wp2
          go_ret3
          exact ⟨hB.out, a1, c1, W, a2, c2, R, 0, rfl, hTwo.out.weaken (by omega), HR.out⟩
  · have hE' : (E != 0) = true := by simpa using hE
    have HR : Hid (SplitSays n s t l f [] [] E) := ⟨fun _ => HE.out.symm, fun h _ => absurd (HE.out.symm.trans h) hE, fun _ => ⟨rfl, rfl⟩, fun h _ => absurd (HE.out.symm.trans h) hE⟩
    clear hE
    go_wp2
    go_ret3
    exact ⟨HB0.out, splitAns_none _ _ _ _ _ _ _ _ HR.out⟩

theorem FSplit_any : FSplitC := fun n s t ao af cap capf l f w hG hF =>
  (FSplit_own n s t ao af cap capf l f w hG hF).mono fun e w' ⟨hb, a1, c1, W, a2, c2, R, err, he, hT, hS⟩ => ⟨hb, a1, c1, W, a2, c2, R, err, he, hT.pieces.1, hT.pieces.2, hS⟩

end Go.Proofs.Ythlcbhbjngcnkaa
