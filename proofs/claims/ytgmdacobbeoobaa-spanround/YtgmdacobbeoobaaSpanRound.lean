/- The law SpanRound, walked out of the contracts of Least and Parts. -/
import Derived.Test.YtgmdacobbeoobaaSpanC
import Derived.Test.YtgmdacobbeoobaaContains
import Derived.Test.YtgmdacobbeoobaaAppJoin
import Derived.Test.YtgmdacobbeoobaaFlat
import Derived.Test.YtgmdacobbeoobaaMk
namespace Go.Proofs.Ytgmdacobbeoobaa
open Go.RowKit
set_option linter.unusedVariables false

/-- those of K that are ahead of k -/
def ahead (l : List Arc3) (K : List Nat) (k : Nat) : List Nat := K.filter fun i => decide (ltA l i k)
theorem ahead_snoc {l : List Arc3} {K : List Nat} {k j : Nat} (h : j < K.length) : ahead l (K.take (j + 1)) k = ahead l (K.take j) k ++ if ltA l (K.getD j 0) k then [K.getD j 0] else [] := by
  unfold ahead
  rw [List.take_add_one, List.getElem?_eq_getElem h, List.filter_append]
  simp only [Option.toList_some]
  rw [show K.getD j 0 = K[j] by simp [h]]
  by_cases e : ltA l K[j] k
  · rw [if_pos e]; simp [e]
  · rw [if_neg e]; simp [e]
theorem ahead_le (l : List Arc3) (K : List Nat) (k : Nat) : (ahead l K k).length ≤ K.length := List.length_filter_le _ _
theorem ahead_err {n least : Int} {l : List Arc3} {K : List Nat} {k : Nat} (h : LeastIs l K) (he : graphErr n least l = 0) : graphErr n least (pickK l (ahead l K k)) = 0 := by
  obtain ⟨h1, h2, h3⟩ := err_ok (pickK_err h he)
  refine err_mk ⟨h1, ?_, fun a ha => ?_⟩
  · have := ahead_le l K k
    simp only [pickK, List.length_map] at h2 ⊢
    omega
  · obtain ⟨i, hi, rfl⟩ := List.mem_map.1 ha
    exact h3 _ (List.mem_map.2 ⟨i, (List.mem_filter.1 hi).1, rfl⟩)
theorem ahead_jn {l : List Arc3} {K : List Nat} {k : Nat} (h : LeastIs l K) (hk : k < l.length) (hn : k ∉ K) : Jn (pickK l (ahead l K k)) (at3 l k).1 (at3 l k).2.1 := by
  refine (h.round hk hn).mono fun a ha => ?_
  obtain ⟨i, hi, hq, rfl⟩ := mem_sel.1 ha
  obtain ⟨h1, h2⟩ := Bool.and_eq_true_iff.1 hq
  exact List.mem_map.2 ⟨i, List.mem_filter.2 ⟨of_decide_eq_true h2, h1⟩, rfl⟩

set_option maxRecDepth 10000 in
set_option maxHeartbeats 3000000 in
theorem SpanRound_any (hC : LeastC) (hP : PartsC) (n kI : Int) (ao : Option Addr) (cap : Nat) (l : List Arc3) (w : World) (hG : GraphIn w ao cap l) :
    Calls Try.prog 4 #[.agg #[.int .i64 n, .slice ao l.length cap], .int .i64 kI] w fun e w' => e = .returned (.bool true) ∧ Below w.heap.size w w' := by
  have hne0 : ((0 : Int) != 0) = false := rfl
  have heq0 : ((0 : Int) == 0) = true := rfl
  have x0 := blk_new w (.cells #[.int .i64 n, .slice ao l.length cap] 24)
  have HG : Hid (GraphIn w ao cap l) := hG
  clear hG
  go_enter Try.func4, Try.ntmps4
  go_wp2_with fail
  refine (spans_any hC _).mono ?_
  rintro e w1 ⟨rfl, hb1⟩
  simp only [World.size_alloc] at hb1
  have hz1 := hb1.size
  simp only [World.size_alloc] at hz1
  have x1 := blk_below hb1 x0 (by omega)
  have HB1 : Hid (Below w.heap.size w w1) := below_in hb1 (by omega)
  have hG1 := HG.out.below HB1.out (Nat.le_refl _)
  clear hb1 x0
  obtain ⟨r0, r1, f0, f1⟩ := blk2 x1
  have hw1 : w.heap.size < w1.heap.size := by omega
  go_wp2_with fail
  refine (hC n ao cap l w1 hG1).mono ?_
  rintro e w2 ⟨hb2, ao2, cap2, K, sm, rfl, hI2, hz, hy⟩
  have hz2 := hb2.size
  have x2 := blk_below hb2 x1 hw1
  have HB2 : Hid (Below w.heap.size w w2) := below_tr HB1.out hb2
  clear hG1 hb2 x1 r0 r1 f0 f1
  obtain ⟨r0, r1, f0, f1⟩ := blk2 x2
  have hw2 : w.heap.size < w2.heap.size := by omega
  by_cases hE : graphErr n (-10000) l = 0
  · obtain ⟨hK, _⟩ := hy hE
    obtain ⟨⟨hn1, hn2⟩, hlen, hnod⟩ := err_ok hE
    have HNod : Hid (∀ a ∈ l, (0 ≤ a.1 ∧ a.1 < n) ∧ (0 ≤ a.2.1 ∧ a.2.1 < n)) := fun a ha => ⟨(hnod a ha).1, (hnod a ha).2.1⟩
    have HE : Hid (graphErr n (-10000) l = 0) := hE
    have HK : Hid (LeastIs l K) := hK
    have HI : Hid (IntsAt w2 ao2 (numK K)) := hI2
    have HX : Hid (w2.heap[w.heap.size]? = some (.cells #[.int .i64 n, .slice ao l.length cap] 24 (0, 0))) := x2
    have hKl : K.length ≤ 60 := by
      have := pigS (A := K) (m := List.range l.length) (hK.up.imp fun hlt => Nat.ne_of_lt hlt) fun x hx => List.mem_range.2 (hK.lt x hx)
      rw [List.length_range] at this; omega
    rw [hE]
    clear hy hz hE hK hnod hI2 x2
    by_cases hk0 : kI < 0
    · have hd : decide (kI < 0) = true := decide_eq_true hk0
      go_wp2_with fail
      go_ret
      exact ⟨rfl, HB2.out⟩
    · have hd : decide (kI < 0) = false := decide_eq_false hk0
      by_cases hk1 : (l.length : Int) ≤ kI
      · have hd1 : decide ((l.length : Int) ≤ kI) = true := decide_eq_true hk1
        go_wp2_with fail
        go_ret
        exact ⟨rfl, HB2.out⟩
      · have hd1 : decide ((l.length : Int) ≤ kI) = false := decide_eq_false hk1
        obtain ⟨k, rfl⟩ := Int.eq_ofNat_of_zero_le (show 0 ≤ kI by omega)
        have hkl : k < l.length := by omega
        have hdk : decide (l.length ≤ k) = false := decide_eq_false (by omega)
        have hcon := containsInts ao2 cap2 (numK K) (k : Int) w2 (by rw [numK_len]; unfold maxLen; omega) HI.out
        rw [numK_len] at hcon
        by_cases hin : k ∈ K
        · rw [decide_eq_true (numK_mem.2 hin)] at hcon
          clear hin
          go_wp2_with (go_at_call 9; refine hcon.mono ?_; rintro e w9 ⟨rfl, hw9⟩; subst hw9)
          go_ret
          exact ⟨rfl, HB2.out⟩
        · rw [decide_eq_false (fun h => hin (numK_mem.1 h))] at hcon
          have HJ : Hid (Jn (pickK l (ahead l K k)) (at3 l k).1 (at3 l k).2.1) := ahead_jn HK.out hkl hin
          have hGr := HG.out.below HB2.out (Nat.le_refl _)
          obtain ⟨ab, aof, rfl, hab, a0, a1, a2⟩ := hGr.arcs k hkl
          obtain ⟨⟨n1, n2⟩, n3, n4⟩ := HNod.out _ (at3_mem l k hkl)
          obtain ⟨⟨af, at', ac⟩, hak⟩ : ∃ a, at3 l k = a := ⟨_, rfl⟩
          have HKk : Hid (at3 l k = (af, at', ac)) := hak
          rw [hak] at a0 a1 a2 n1 n2 n3 n4 HJ
          simp only at a0 a1 a2 n1 n2 n3 n4 HJ
          clear hak hin hGr
          go_wp2_with (go_at_call 9; refine hcon.mono ?_; rintro e w9 ⟨rfl, hw9⟩; subst hw9)
          have hW0z : ((w9.alloc (.cells #[.int .i64 af, .int .i64 at', .int .i64 ac] 32)).alloc (.cells #[.int .i64 n, .slice none 0 0] 24)).heap.size = w9.heap.size + 2 := by simp
          have hA0 := blk_old (blk_new w9 (.cells #[.int .i64 af, .int .i64 at', .int .i64 ac] 32)) (.cells #[.int .i64 n, .slice none 0 0] 24)
          have hH0 := blk_new1 (w := w9) (o := .cells #[.int .i64 af, .int .i64 at', .int .i64 ac] 32) (o' := .cells #[.int .i64 n, .slice none 0 0] 24)
          have hB0 : Below w9.heap.size w9 ((w9.alloc (.cells #[.int .i64 af, .int .i64 at', .int .i64 ac] 32)).alloc (.cells #[.int .i64 n, .slice none 0 0] 24)) := (below_one w9 _).alloc (by simp) _
          obtain ⟨i0, hi, hz0, hz1', hz2'⟩ := info_parts infoArc
          go_loopw [58] (fun i wr => ∃ j : Nat, j ≤ K.length ∧ i = .int .i64 j ∧ (∃ v, wr.heap[w9.heap.size + 1]? = some (.cells #[.int .i64 n, v] 24 (0, 0)) ∧ wr.ownsRow (w9.heap.size + 2) 32 3 v (pickK l (ahead l (K.take j) k)).length (flat (pickK l (ahead l (K.take j) k)))) ∧
            wr.heap[w9.heap.size]? = some (.cells #[.int .i64 af, .int .i64 at', .int .i64 ac] 32 (0, 0)) ∧ w9.heap.size + 2 ≤ wr.heap.size ∧ Hid (Below w9.heap.size w9 wr)) (fun i _ => K.length - (intOf i).toNat)
          case atStart => exact ⟨0, Nat.zero_le _, rfl, ⟨_, hH0, World.ownsRow_nil _ _ _ _⟩, hA0, by rw [hW0z]; exact Nat.le_refl _, hB0⟩
          case round =>
            obtain ⟨j, hj, rfl, ⟨v, hblk, hown⟩, hAb, hzr, HB⟩ := hrel
            have xr := blk_below HB.out HX.out hw2
            clear r0 r1 f0 f1
            obtain ⟨r0, r1, f0, f1⟩ := blk2 xr
            obtain ⟨aov, capv, rfl⟩ := owns_shape hown
            obtain ⟨s0, s1, g0, g1⟩ := blk2 hblk
            obtain ⟨p0, p1, p2⟩ := blk3 hAb
            have hwr : w.heap.size < wr.heap.size := by omega
            have hw9r : w9.heap.size < wr.heap.size := by omega
            have hw9r1 : w9.heap.size + 1 < wr.heap.size := by omega
            by_cases hlt : j < K.length
            · obtain ⟨kb, ko, rfl, hkb, ck⟩ := HI.out.below HB.out (Nat.le_refl _) j (by rw [numK_len]; exact hlt)
              rw [numK_at hlt] at ck
              have hqK : K.getD j 0 ∈ K := by simp [hlt]
              have hql := HK.out.lt _ hqK
              have hsn := ahead_snoc (l := l) (k := k) hlt
              generalize K.getD j 0 = q at *
              obtain ⟨_, _, eab, hab2, b0, b1, b2⟩ := ((HG.out.below HB2.out (Nat.le_refl _)).below HB.out (Nat.le_refl _)).arcs q hql
              cases eab
              have hq0 : ¬ (q : Int) < 0 := by omega
              have hq1 : ¬ (l.length : Int) ≤ (q : Int) := by omega
              have hq2 : ¬ l.length ≤ q := by omega
              have hqI : (q : Int) < (l.length : Int) := by omega
              have hltA : ltA l q k ↔ ((at3 l q).2.2 < ac ∨ (at3 l q).2.2 = ac ∧ q < k) := by unfold ltA; rw [HKk.out]
              have hpl : pickK l [q] = [at3 l q] := rfl
              have HB' : Hid (at3 l q = at3 l q) := rfl
              have HPm : Hid (pickK l (ahead l (K.take (j + 1)) k) = pickK l (ahead l (K.take j) k) ++ if ltA l q k then [at3 l q] else []) := by
                rw [Hid, hsn]
                by_cases e : ltA l q k
                · rw [if_pos e, if_pos e, pickK, List.map_append]; rfl
                · rw [if_neg e, if_neg e, List.append_nil, List.append_nil]
              have hpn : (pickK l (ahead l (K.take j) k)).length ≤ 60 := by
                have h1 := ahead_le l (K.take j) k
                rw [List.length_take] at h1
                rw [pickK, List.length_map]; omega
              have HBk : Hid (wr.heap[w9.heap.size + 1]? = some (.cells #[.int .i64 n, .slice aov (pickK l (ahead l (K.take j) k)).length capv] 24 (0, 0))) := hblk
              have HAb : Hid (wr.heap[w9.heap.size]? = some (.cells #[.int .i64 af, .int .i64 at', .int .i64 ac] 32 (0, 0))) := hAb
              have HOw : Hid (wr.ownsRow (w9.heap.size + 2) 32 3 (.slice aov (pickK l (ahead l (K.take j) k)).length capv) (pickK l (ahead l (K.take j) k)).length (flat (pickK l (ahead l (K.take j) k)))) := hown
              by_cases hlA : ltA l q k
              · rw [if_pos hlA] at HPm
                have hor := hltA.1 hlA
                generalize at3 l q = b at *
                obtain ⟨bf, bt, bc⟩ := b
                simp only at b0 b1 b2 hor
                generalize hQ : pickK l (ahead l (K.take j) k) = Q at *
                have HS : Hid (flat (pickK l (ahead l (K.take (j + 1)) k)) = flat Q ++ [.int .i64 bf, .int .i64 bt, .int .i64 bc] ∧ (pickK l (ahead l (K.take (j + 1)) k)).length = Q.length + 1) := by
                  rw [Hid, HPm.out, flat_append, List.length_append]; exact ⟨rfl, rfl⟩
                clear hQ hsn hqK hltA hpl hlA HPm hblk hAb hown
                have HO : Hid (((wr.alloc (.cells #[.int .i64 bf, .int .i64 bt, .int .i64 bc] 32)).alloc (.cells #[.int .i64 bf, .int .i64 bt, .int .i64 bc] 32)).ownsRow (w9.heap.size + 2) 32 3 (.slice aov Q.length capv) Q.length (flat Q)) := (HOw.out.alloc _).alloc _
                have HC1 : Hid (∀ i u, [Value.int .i64 bf, .int .i64 bt, .int .i64 bc][i]? = some u → ((wr.alloc (.cells #[.int .i64 bf, .int .i64 bt, .int .i64 bc] 32)).alloc (.cells #[.int .i64 bf, .int .i64 bt, .int .i64 bc] 32)).cell? ((⟨wr.heap.size + 1, 0, none⟩ : Addr).add i) = some u) := news3 blk_new1
                have HO1 : Hid (∀ u ∈ [Value.int .i64 bf, .int .i64 bt, .int .i64 bc], u.oneCell' = true) := by intro u hu; simp at hu; rcases hu with rfl | rfl | rfl <;> rfl
                have HKm : Hid (Q.length + 1 ≤ maxLen) := by unfold Hid maxLen; omega
                have HKm2 : Hid ((Q.length + 1) * 24 ≤ 140737488355328) := by unfold Hid; omega
                have HBz : Hid (w9.heap.size + 2 ≤ ((wr.alloc (.cells #[.int .i64 bf, .int .i64 bt, .int .i64 bc] 32)).alloc (.cells #[.int .i64 bf, .int .i64 bt, .int .i64 bc] 32)).heap.size) := by unfold Hid; simp; omega
                have HGr : Hid (∀ v8 w8, World.ownsRow w8 (w9.heap.size + 2) 32 3 v8 (Q.length + 1) (flat Q ++ [.int .i64 bf, .int .i64 bt, .int .i64 bc]) → ((wr.alloc (.cells #[.int .i64 bf, .int .i64 bt, .int .i64 bc] 32)).alloc (.cells #[.int .i64 bf, .int .i64 bt, .int .i64 bc] 32)).grownBy w8 (Value.slice aov Q.length capv).ownBlock →
                    ∃ ao8 cap8, v8 = .slice ao8 (Q.length + 1) cap8 ∧ Hid (w8.ownsRow (w9.heap.size + 2) 32 3 (.slice ao8 (Q.length + 1) cap8) (pickK l (ahead l (K.take (j + 1)) k)).length (flat (pickK l (ahead l (K.take (j + 1)) k)))) ∧
                      w8.heap[w9.heap.size + 1]? = some (.cells #[.int .i64 n, .slice aov Q.length capv] 24 (0, 0)) ∧ Hid (w8.heap[w9.heap.size]? = some (.cells #[.int .i64 af, .int .i64 at', .int .i64 ac] 32 (0, 0))) ∧ w9.heap.size + 2 ≤ w8.heap.size ∧ Hid (Below w9.heap.size w9 w8)) := fun v8 w8 h2 h3 => by
                  obtain ⟨ao8, cap8, rfl⟩ := owns_shape h2
                  have hob : ∀ g, (Value.slice aov Q.length capv).ownBlock = some g → w9.heap.size + 2 ≤ g := fun g hg => by
                    rcases HO.out.2 with ⟨e', _⟩ | ⟨g', _, _, e', hB0, _⟩
                    · rw [e'] at hg; cases hg
                    · rw [e'] at hg; simp only [Value.ownBlock, Option.some.injEq] at hg; omega
                  have hsz := h3.size
                  simp at hsz
                  refine ⟨ao8, cap8, rfl, by rw [Hid, HS.out.1, HS.out.2]; exact h2, ?_, ?_, by omega, ?_⟩
                  · rw [h3.block (w9.heap.size + 1) (by simp; omega) fun e => by have := hob _ e.symm; omega]
                    exact blk_old (blk_old HBk.out _) _
                  · rw [Hid, h3.block w9.heap.size (by simp; omega) fun e => by have := hob _ e.symm; omega]
                    exact blk_old (blk_old HAb.out _) _
                  · exact ((HB.out.alloc HB.out.size _).alloc (by have := HB.out.size; simp; omega) _).grown h3 (by simp; omega) fun g hg => by have := hob g hg; omega
                clear HBk HAb HOw
                have hcs : (bc < ac ∧ decide (bc < ac) = true) ∨ (bc = ac ∧ (q : Int) < (k : Int)) := by
                  rcases hor with h | ⟨h, h'⟩
                  · exact Or.inl ⟨h, decide_eq_true h⟩
                  · exact Or.inr ⟨h, by omega⟩
                clear hor
                rcases hcs with ⟨h1, h2⟩ | ⟨rfl, h1⟩
                all_goals
                  have hee : (bc == bc) = true := beq_self_eq_true bc
                  have hnl : ¬ bc < bc := Int.lt_irrefl bc
                  go_wp2_with (at_builtin; refine wpList_append_own _ rfl (.tmp 94) (.tmp 96) 22 rfl (w9.heap.size + 2) 32 i0 _ 3 24 Try.underlying22 hi hz0 hz1' hz2' rfl (by decide) _ _ _ rfl HO.out ⟨wr.heap.size + 1, 0, none⟩ 1 1 [.int .i64 bf, .int .i64 bt, .int .i64 bc] rfl rfl HC1.out HO1.out HKm.out HKm2.out HBz.out ?_; intro v8 w8 hown8 hgrow8 _; obtain ⟨ao8, cap8, rfl, HO8, hbk8, HA8, hz8, HB8⟩ := HGr.out v8 w8 hown8 hgrow8; have HBk8 : Hid (w8.heap[w9.heap.size + 1]? = some (.cells #[.int .i64 n, .slice aov Q.length capv] 24 (0, 0))) := hbk8; obtain ⟨u0, u1, u2, u3⟩ := blk2 hbk8; have u4 : w9.heap.size + 1 < w8.heap.size := (by omega); clear hown8 hgrow8 hbk8)
                  go_roundw
                  case rel =>
                    refine ⟨j + 1, by omega, by go_num, ⟨_, blk2_set1 HBk8.out _, ?_⟩, ?_, by simp; omega, HB8.out.setCell (by simp) _⟩
                    · exact owns_set HO8.out (fun _ _ g c e => by
                        rcases HO8.out.2 with ⟨e', _⟩ | ⟨g', _, _, e', hB0, _⟩
                        · rw [e'] at e; cases e
                        · rw [e'] at e; simp only [Value.slice.injEq, Option.some.injEq, Addr.mk.injEq] at e; simp; omega) _
                    · rw [Below.heap_setCell _ _ _ _ (by simp)]; exact HA8.out
                  case measure => simp [intOf]; omega
              · rw [if_neg hlA, List.append_nil] at HPm
                have hor : ¬ ((at3 l q).2.2 < ac ∨ (at3 l q).2.2 = ac ∧ q < k) := fun h => hlA (hltA.2 h)
                generalize at3 l q = b at *
                obtain ⟨bf, bt, bc⟩ := b
                simp only at b0 b1 b2 hor
                generalize hQ : pickK l (ahead l (K.take j) k) = Q at *
                have hcs : (¬ bc < ac ∧ (bc == ac) = false) ∨ (bc = ac ∧ ¬ (q : Int) < (k : Int)) := by
                  by_cases h : bc = ac
                  · exact Or.inr ⟨h, fun h' => hor (Or.inr ⟨h, by omega⟩)⟩
                  · exact Or.inl ⟨fun h' => hor (Or.inl h'), by simpa using h⟩
                clear hQ hsn hqK hltA hpl hlA hblk hAb hown hor
                rcases hcs with ⟨h1, h2⟩ | ⟨rfl, h1⟩
                all_goals
                  have hee : (bc == bc) = true := beq_self_eq_true bc
                  have hnl : ¬ bc < bc := Int.lt_irrefl bc
                  go_wp2_with fail
                  go_roundw
                  case rel => exact ⟨j + 1, by omega, by go_num, ⟨_, blk_old HBk.out _, by rw [HPm.out]; exact HOw.out.alloc _⟩, blk_old HAb.out _, by simp; omega, HB.out.alloc HB.out.size _⟩
                  case measure => simp [intOf]; omega
            · obtain rfl : j = K.length := by omega
              rw [List.take_of_length_le (Nat.le_refl _)] at hblk hown
              rw [List.take_of_length_le (Nat.le_refl _)] at s1
              have hEq := ahead_err (k := k) HK.out HE.out
              generalize pickK l (ahead l K k) = Q at *
              obtain ⟨ao5, cap5, e5, hA5, _, hc5, hm5⟩ := owns_arcs hown
              cases e5
              have hG5 : GraphIn wr aov capv Q := ⟨hA5, hc5, hm5, fun e => by
                rcases hown.2 with ⟨e', h0⟩ | ⟨g', c', cur, e', _⟩
                · simp at e'; exact ⟨h0, e'.2.2⟩
                · rw [e] at e'; simp at e'⟩
              have HBw : Hid (Below w.heap.size w wr) := below_tr HB2.out HB.out
              clear hown hA5 hc5 hm5
              go_wp2_with fail
              refine (hP n aov capv Q wr hG5).mono ?_
              rintro e w7 ⟨hb7, ao7, cap7, F, rfl, hI7, _, hy7⟩
              have hPt := hy7 hEq
              rw [hEq]
              obtain ⟨N, rfl⟩ := Int.eq_ofNat_of_zero_le (show 0 ≤ n by omega)
              rw [Int.toNat_natCast] at hPt
              obtain ⟨fn, rfl⟩ := Int.eq_ofNat_of_zero_le n1
              obtain ⟨tn, rfl⟩ := Int.eq_ofNat_of_zero_le n3
              have hfN : fn < N := by omega
              have htN : tn < N := by omega
              have hsame := (hPt.same hfN htN).2 HJ.out
              have hFl := hPt.len
              have x7 := blk_below hb7 xr hwr
              have y7 := blk_below hb7 hAb hw9r
              have hz7 := hb7.size
              have hwz7 : w.heap.size < w7.heap.size := by omega
              have hw97 : w9.heap.size < w7.heap.size := by omega
              have HB7 : Hid (Below w.heap.size w w7) := below_tr HBw.out hb7
              clear r0 r1 f0 f1 s0 s1 g0 g1 p0 p1 p2
              obtain ⟨r0, r1, f0, f1⟩ := blk2 x7
              obtain ⟨p0, p1, p2⟩ := blk3 y7
              obtain ⟨fb, fo, rfl, hfb, cf⟩ := hI7 fn (by omega)
              obtain ⟨_, _, e7, _, ct⟩ := hI7 tn (by omega)
              cases e7
              rw [hsame] at cf
              rw [hFl]
              generalize ati F tn = X at *
              have hNN : ((N : Int) == (N : Int)) = true := beq_self_eq_true _
              have hXX : (X == X) = true := beq_self_eq_true _
              have d1 : decide ((fn : Int) < 0) = false := decide_eq_false (by omega)
              have d2 : decide ((tn : Int) < 0) = false := decide_eq_false (by omega)
              have d3 : (fn : Int) < (N : Int) := by omega
              have d4 : (tn : Int) < (N : Int) := by omega
              have d5 : (0 : Int) ≤ (fn : Int) := by omega
              have d6 : (0 : Int) ≤ (tn : Int) := by omega
              clear hb7 hy7 hPt hsame hI7 hEq hG5 hblk hAb xr x7 y7 HBw HB HJ hFl
              go_wp2_with fail
              go_quiet (fail)
              go_wp2_with fail
              go_ret
              exact ⟨rfl, below_drewN HB7.out _⟩
  · obtain ⟨rfl, rfl⟩ := hz hE
    have hEn : (graphErr n (-10000) l != 0) = true := by simpa using hE
    have hEq : (graphErr n (-10000) l == 0) = false := by simpa using hE
    clear hE hy hz hI2
    go_wp2_with fail
    go_ret
    exact ⟨rfl, HB2.out⟩

end Go.Proofs.Ytgmdacobbeoobaa
