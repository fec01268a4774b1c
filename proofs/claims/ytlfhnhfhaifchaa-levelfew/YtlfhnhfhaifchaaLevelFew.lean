/- The law LevelFew, walked out of the contract of level.Of. -/
import Derived.Test.YtlfhnhfhaifchaaLevelC
import Derived.Test.YtlfhnhfhaifchaaAppJoin
import Derived.Test.YtlfhnhfhaifchaaOwns
namespace Go.Proofs.Ytlfhnhfhaifchaa
open Go.RowKit
set_option linter.unusedVariables false

/-- each arc takes one -/
def one1 (a : Arc3) : Arc3 := (a.1, a.2.1, 1)
theorem one1_net {n s t : Int} {l : List Arc3} (h : netErr n s t l = 0) : netErr n s t (l.map one1) = 0 := by
  obtain ⟨h1, h2, h3, h4⟩ := net_ok h
  obtain ⟨a1, a2, a3⟩ := err_ok h1
  refine net_mk ⟨err_mk ⟨a1, by rw [List.length_map]; exact a2, fun a ha => ?_⟩, h2, h3, h4⟩
  obtain ⟨b, hb, rfl⟩ := List.mem_map.1 ha
  have := a3 b hb
  exact ⟨this.1, this.2.1, by simp [one1], by simp [one1]⟩
theorem one1_flat {l : List Arc3} {k : Nat} (hk : k < l.length) : flat ((l.take (k + 1)).map one1) = flat ((l.take k).map one1) ++ [.int .i64 (at3 l k).1, .int .i64 (at3 l k).2.1, .int .i64 1] := by
  rw [take_snoc3 l k hk, List.map_append, flat_append]
  rfl
theorem net_cell3 {w : World} {p : Nat} {x y z u : Value} {t : TypeId} (h : w.heap[p]? = some (.cells #[x, y, z, u] t (0, 0))) (v : Value) : (w.setCell ⟨p, 3, none⟩ v).heap[p]? = some (.cells #[x, y, z, v] t (0, 0)) := by
  simp [World.setCell, Array.getElem?_modify, h]

set_option maxHeartbeats 8000000 in
set_option maxRecDepth 100000 in
theorem LevelFew_any (hO : LOfC) (n s t : Int) (ao : Option Addr) (cap : Nat) (l : List Arc3) (w : World) (hG : GraphIn w ao cap l) (hrl : l.length * 24 ≤ 140737488351232) :
    Calls Try.prog 5 #[.agg #[.int .i64 n, .int .i64 s, .int .i64 t, .slice ao l.length cap]] w fun e w' => e = .returned (.bool true) ∧ Below w.heap.size w w' := by
  obtain ⟨i0, hi, hz0, hz1i, hz2i⟩ := info_parts infoArc
  have hG0 := hG.alloc (.cells #[.int .i64 n, .int .i64 s, .int .i64 t, .slice ao l.length cap] 24)
  have x0 := blk_new w (.cells #[.int .i64 n, .int .i64 s, .int .i64 t, .slice ao l.length cap] 24)
  have g00 : ((0 : Int) != 0) = false := rfl
  have g01 : ((0 : Int) == 0) = true := rfl
  have g55 : ((5 : Int) != 5) = false := rfl
  go_enter Try.func5, Try.ntmps5
  go_wp2_with fail
  refine (weir_any _).mono ?_
  rintro e w1 ⟨hb1, aw, cw, rfl, hGw⟩
  simp only [World.size_alloc] at hb1
  have hz1 := hb1.size
  simp only [World.size_alloc] at hz1
  have x1 := blk_below hb1 x0 (by omega)
  have hG1 := hG0.below hb1 (by simp)
  have HB1 : Hid (Below w.heap.size w w1) := below_in hb1 (by omega)
  have hq := hO 4 0 3 aw cw weirL w1 hGw
  rw [weir_net] at hq
  clear hb1 x0 hG0 hGw
  go_wp2_with fail
  refine hq.mono ?_
  clear hq
  rintro e w2 ⟨hb2, a2, c2, F, v, r, rfl, _, hT⟩
  have hz2 := hb2.size
  have x2 := blk_below hb2 x1 (by omega)
  have hG2 := hG1.below hb2 (Nat.le_refl _)
  have HB2 : Hid (Below w.heap.size w w2) := HB1.out.trans (hb2.mono (by omega))
  obtain ⟨rfl, hFl, hr1, hr3, -⟩ := hT.weir
  rw [hFl]
  have k1 : ¬ r < 1 := by omega
  have k2 : ¬ 3 < r := by omega
  clear hb2 x1 hG1 HB1 hT hFl
  obtain ⟨r0, r1, r2, r3⟩ := blk4 x2
  go_wp2_with fail
  refine (hO n s t ao cap l _ hG2).mono ?_
  rintro e W ⟨hb3, a3, c3, F3, v3, r3', rfl, _, hT3⟩
  have hz3 := hb3.size
  have x3 := blk_below hb3 x2 (by omega)
  have HG : Hid (GraphIn W ao cap l) := hG2.below hb3 (Nat.le_refl _)
  have HB : Hid (Below w.heap.size w W) := HB2.out.trans (hb3.mono (by omega))
  obtain ⟨E, hE⟩ : ∃ E, netErr n s t l = E := ⟨_, rfl⟩
  have HT : Hid (LevelTells n s t l F3 v3 r3' E) := by rw [← hE]; exact hT3
  rw [hE]
  have HE : Hid (netErr n s t l = E) := hE
  have hw0 : w.heap.size < W.heap.size := by omega
  have HX : Hid (W.heap[w.heap.size]? = some (.cells #[.int .i64 n, .int .i64 s, .int .i64 t, .slice ao l.length cap] 24 (0, 0))) := x3
  have HRl : Hid (l.length * 24 ≤ 140737488351232) := hrl
  clear hb3 x2 hG2 HB2 hT3 hE r0 r1 r2 r3 hr1 hr3 k1 k2 hG
  obtain ⟨r0, r1, r2, r3⟩ := blk4 x3
  clear x3
  go_wp2
  go_loopw [62] (fun i wr => ∃ (k : Nat) (ao2 : Option Addr) (cap2 : Nat), k ≤ l.length ∧ i = .int .i64 k ∧ wr.heap[W.heap.size]? = some (.cells #[.int .i64 n, .int .i64 s, .int .i64 t, .slice ao2 k cap2] 24 (0, 0)) ∧
    Hid (wr.ownsRow (W.heap.size + 1) 39 3 (.slice ao2 k cap2) k (flat ((l.take k).map one1))) ∧ Below W.heap.size W wr ∧ W.heap.size < wr.heap.size) (fun i _ => l.length - (intOf i).toNat)
  case atStart => exact ⟨0, none, 0, Nat.zero_le _, rfl, blk_new _ _, World.ownsRow_nil _ _ _ _, below_one _ _, by simp⟩
  case round =>
    obtain ⟨k, ao2, cap2, hk, rfl, hblk, hown, hB, hWr⟩ := hrel
    have hz := hB.size
    clear r0 r1 r2 r3
    obtain ⟨r0, r1, r2, r3⟩ := blk4 (blk_below hB HX.out hw0)
    obtain ⟨s0, s1, s2, s3⟩ := blk4 hblk
    have HBk : Hid (wr.heap[W.heap.size]? = some (.cells #[.int .i64 n, .int .i64 s, .int .i64 t, .slice ao2 k cap2] 24 (0, 0))) := hblk
    have HBw : Hid (Below W.heap.size W wr) := hB
    by_cases hlt : k < l.length
    · obtain ⟨b, off, rfl, hbb, a0, a1, a2⟩ := HG.out.arcs.below hB (Nat.le_refl _) k hlt
      have HFl : Hid (flat ((l.take (k + 1)).map one1) = flat ((l.take k).map one1) ++ [.int .i64 (at3 l k).1, .int .i64 (at3 l k).2.1, .int .i64 1]) := one1_flat hlt
      generalize (at3 l k).1 = p at *
      generalize (at3 l k).2.1 = q at *
      generalize (at3 l k).2.2 = c at *
      have hrl := HRl.out
      have HO1 : Hid (∀ u ∈ [Value.int .i64 p, .int .i64 q, .int .i64 1], u.oneCell' = true) := by intro u hu; simp at hu; rcases hu with rfl | rfl | rfl <;> rfl
      have HK1 : Hid (k + 1 ≤ maxLen) := by rw [Hid]; unfold maxLen; omega
      have HK2 : Hid ((k + 1) * 24 ≤ 140737488355328) := by rw [Hid]; omega
      have HK3 : Hid (W.heap.size + 1 ≤ ((wr.alloc (.cells #[.int .i64 p, .int .i64 q, .int .i64 c] 39)).alloc (.cells #[.int .i64 p, .int .i64 q, .int .i64 1] 39)).heap.size) := by rw [Hid]; simp; omega
      have hlb : ∀ j, (Value.slice ao2 k cap2).ownBlock = some j → W.heap.size + 1 ≤ j := fun j e => (hown.out.lt j e).1
      have HXO : Hid (∀ w5 : World, ((wr.alloc (.cells #[.int .i64 p, .int .i64 q, .int .i64 c] 39)).alloc (.cells #[.int .i64 p, .int .i64 q, .int .i64 1] 39)).grownBy w5 (Value.slice ao2 k cap2).ownBlock →
          w5.heap[W.heap.size]? = some (.cells #[.int .i64 n, .int .i64 s, .int .i64 t, .slice ao2 k cap2] 24 (0, 0)) ∧ Below W.heap.size W w5 ∧ W.heap.size < w5.heap.size) := fun w5 hg => by
        have hsz := hg.size
        simp only [World.size_alloc] at hsz
        refine ⟨(hg.block _ (by simp; omega) (fun e => by have := hlb _ e.symm; omega)).trans (blk_old (blk_old HBk.out _) _), ?_, by omega⟩
        exact ((HBw.out.alloc (by omega) _).alloc (by simp; omega) _).grown hg (by simp; omega) (fun j e => by have := hlb j e; omega)
      have HOw : Hid (((wr.alloc (.cells #[.int .i64 p, .int .i64 q, .int .i64 c] 39)).alloc (.cells #[.int .i64 p, .int .i64 q, .int .i64 1] 39)).ownsRow (W.heap.size + 1) 39 3 (.slice ao2 k cap2) k (flat ((l.take k).map one1))) := (hown.out.alloc _).alloc _
      clear hown hlb hblk hB hrl
      go_wp2_with (at_builtin; refine wpList_append_own _ rfl (.tmp 67) (.tmp 73) 22 rfl (W.heap.size + 1) 39 i0 _ 3 24 Try.underlying22 hi hz0 hz1i hz2i rfl (by decide) (.slice ao2 k cap2) k (flat ((l.take k).map one1)) rfl HOw.out ⟨wr.heap.size + 1, 0, none⟩ 1 1 [.int .i64 p, .int .i64 q, .int .i64 1] rfl rfl (news3 (t := 39) blk_new1) HO1.out HK1.out HK2.out HK3.out ?_; intro v' w5 hown' hgrow _; obtain ⟨ao5, cap5, rfl⟩ := owns_shape hown'; obtain ⟨xO, hB5, hW5⟩ := HXO.out w5 hgrow; have HXO5 : Hid (w5.heap[W.heap.size]? = some (.cells #[.int .i64 n, .int .i64 s, .int .i64 t, .slice ao2 k cap2] 24 (0, 0))) := xO; have Hown5 : Hid (w5.ownsRow (W.heap.size + 1) 39 3 (.slice ao5 (k + 1) cap5) (k + 1) (flat ((l.take k).map one1) ++ [.int .i64 p, .int .i64 q, .int .i64 1])) := hown'; obtain ⟨t0, t1, t2, t3⟩ := blk4 xO; obtain ⟨z0, z1, z2, z3⟩ := blk4z xO; clear hown' hgrow xO)
      go_roundw
      case rel =>
        refine ⟨k + 1, ao5, cap5, by omega, by go_num, net_cell3 HXO5.out _, ?_, hB5.setCell (Nat.le_refl _) _, by simp [World.setCell]; omega⟩
        rw [Hid, HFl.out]
        exact owns_set Hown5.out (p := ⟨W.heap.size, 3, none⟩) (fun _ _ g cc e => by have := (owns_lt Hown5.out g cc e).1; show g ≠ W.heap.size; omega) _
      case measure => simp [intOf]; omega
    · have hkk : l.length = k := by omega
      subst hkk
      rw [List.take_length] at hown
      have hrow : wr.ownsRow (W.heap.size + 1) 39 3 (.slice ao2 l.length cap2) (l.map one1).length (flat (l.map one1)) := by rw [List.length_map]; exact hown.out
      obtain ⟨ao', cap', e, h2, _, h3, h4⟩ := owns_arcs hrow
      rw [List.length_map] at e
      cases e
      have hq := hO n s t ao2 cap2 (l.map one1) wr ⟨h2, h3, h4, fun e => by
        rcases hrow.2 with ⟨e1, e2⟩ | ⟨g, _, _, e1, _⟩
        · simp only [Value.slice.injEq] at e1; exact ⟨e2, e1.2.2⟩
        · simp only [Value.slice.injEq] at e1; rw [e] at e1; cases e1.1⟩
      obtain ⟨E1, hE1⟩ : ∃ E, netErr n s t (l.map one1) = E := ⟨_, rfl⟩
      rw [hE1, List.length_map] at hq
      have HE1 : Hid (netErr n s t (l.map one1) = E1) := hE1
      have x7 := blk_below hB HX.out hw0
      clear hown hrow h2 h3 h4 hblk hE1 hB
      go_wp2_with fail
      refine hq.mono ?_
      clear hq
      rintro e w6 ⟨hb6, a6, c6, F6, v6, r6, rfl, _, hT6⟩
      have hz6 := hb6.size
      have x8 := blk_below hb6 x7 (by omega)
      have HB6 : Hid (Below w.heap.size w w6) := HB.out.trans ((HBw.out.trans (hb6.mono (by omega))).mono (by omega))
      have HT6 : Hid (LevelTells n s t (l.map one1) F6 v6 r6 E1) := hT6
      clear hb6 x7 HBw HBk hT6 r0 r1 r2 r3 s0 s1 s2 s3 HG HX
      obtain ⟨r0, r1, r2, r3⟩ := blk4 x8
      by_cases h0 : E = 0
      · subst h0
        have hE10 : 0 = E1 := (one1_net HE.out).symm.trans HE1.out
        subst hE10
        have hl60 := (err_ok (net_ok HE.out).1).2.1
        obtain ⟨l1, l2, _⟩ := HT.out.low rfl
        obtain ⟨m1, m2, _⟩ := HT6.out.low rfl
        have HOn : Hid (∀ q : Nat, l.length < (q + 1) * (q + 1) → r6 ≤ 2 * q + 2) := fun q hq => HT6.out.ones rfl (fun k hk => by
          rw [List.length_map] at hk
          rw [at3_map one1 l k hk]; rfl) q (by rw [List.length_map]; exact hq)
        clear HT HT6 HB HRl
        go_wp2
        go_loopw [18] (fun i wr => ∃ k : Nat, k ≤ 60 ∧ i = .int .i64 k ∧ wr = w6) (fun i _ => 61 - (intOf i).toNat)
        case atStart => exact ⟨0, by omega, rfl, rfl⟩
        case round =>
          obtain ⟨k, hk, rfl, e⟩ := hrel
          have e := e.symm
          subst e
          have hb1 : (k + 1) * (k + 1) ≤ 61 * 61 := Nat.mul_le_mul (by omega) (by omega)
          have hge : k + 1 ≤ (k + 1) * (k + 1) := Nat.le_mul_of_pos_left _ (by omega)
          obtain ⟨sq, hsq⟩ : ∃ sq, (k + 1) * (k + 1) = sq := ⟨_, rfl⟩
          rw [hsq] at hb1 hge
          have w1' : IntKind.i64.wrap ((k : Int) + 1) = (k : Int) + 1 := by rw [IntKind.wrap_i64]; omega
          have w2' : IntKind.i64.wrap (((k : Int) + 1) * ((k : Int) + 1)) = (sq : Int) := by
            have e9 : ((k : Int) + 1) * ((k : Int) + 1) = (sq : Int) := by rw [← hsq, Int.natCast_mul]; rfl
            rw [e9, IntKind.wrap_i64]; omega
          have HSq : Hid ((k + 1) * (k + 1) = sq) := hsq
          clear hsq
          by_cases hle : sq ≤ l.length
          · have hlei : (sq : Int) ≤ (l.length : Int) := by omega
            go_wp2
            go_roundw
            case rel => exact ⟨k + 1, by omega, by first | rfl | go_num, trivial⟩
            case measure => simp [intOf]; omega
          · have hlei : ¬ (sq : Int) ≤ (l.length : Int) := by omega
            have h6 := HOn.out k (by rw [HSq.out]; omega)
            have w3' : IntKind.i64.wrap (2 * (k : Int)) = 2 * (k : Int) := by rw [IntKind.wrap_i64]; omega
            have w4' : IntKind.i64.wrap (2 * (k : Int) + 2) = 2 * (k : Int) + 2 := by rw [IntKind.wrap_i64]; omega
            go_wp2
            go_ret
            exact ⟨rfl, HB6.out⟩
      · have e1 : (E != 0) = true := by simpa using h0
        obtain ⟨_, hv⟩ := HT.out.most.none h0
        have hr := HT.out.none h0
        subst hv hr
        clear h0 HT HT6
        go_wp2
        go_ret
        exact ⟨rfl, HB6.out⟩

end Go.Proofs.Ytlfhnhfhaifchaa
