/- Contracts of slices.Grow of nothing and of slices.Concat of integers. -/
import Derived.Lib.AppendZeros
import Derived.Test.YtamckjbddnocpaaMk
import Derived.Test.YtamckjbddnocpaaRowsAt
import Derived.Test.YtamckjbddnocpaaOwns
namespace Go.Proofs.Ytamckjbddnocpaa
open Go.RowKit
set_option linter.unusedVariables false

set_option maxHeartbeats 400000 in
theorem grow_nil (n : Nat) (h0 : 0 < n) (hn : n ≤ 1000) (w : World) :
    Calls Try.prog 38 #[.slice none 0 0, .int .i64 (n : Int)] w fun e w' => Below w.heap.size w w' ∧
      ∃ g cap, e = .returned (.slice (some ⟨g, 0, none⟩) 0 cap) ∧ w'.ownsRow w.heap.size 3 1 (.slice (some ⟨g, 0, none⟩) 0 cap) 0 [] := by
  obtain ⟨i0, hi, hz0, hz1, hz2⟩ := info_parts infoInt
  have hrun := Lib.run_append_nil_zeros (P := Try.prog) w 26 3 26 3 i0 (.int .i64 0) .i64 .i64 Try.underlying26 Try.underlying3 hi hz0 n h0 (by rw [hz1]; decide) (by omega) (by rw [hz2]; omega)
  have hcl := grownCap_le_maxLen w n 0 3 (by unfold maxLen; omega)
  have hcg := grownCap_ge w n 0 3
  have HR : Hid ((Builtin.append_ #[26, 3] 26 #[.slice none 0 0, .int .i64 (n : Int)]).run Try.prog w = .ok (.slice (some ⟨w.heap.size, 0, none⟩) n (grownCap w n 0 3)) (w.drew.alloc (.cells (Builtin.zeroCells (Value.int .i64 0).cells n ++ Builtin.zeroCells (Value.int .i64 0).cells (grownCap w n 0 3 - n)) 3))) := hrun
  have hB : Below w.heap.size w (w.drew.alloc (.cells (Builtin.zeroCells (Value.int .i64 0).cells n ++ Builtin.zeroCells (Value.int .i64 0).cells (grownCap w n 0 3 - n)) 3)) := ((Below.refl w.heap.size w).drew).alloc (Nat.le_refl _) _
  have hO : (w.drew.alloc (.cells (Builtin.zeroCells (Value.int .i64 0).cells n ++ Builtin.zeroCells (Value.int .i64 0).cells (grownCap w n 0 3 - n)) 3)).ownsRow w.heap.size 3 1 (.slice (some ⟨w.heap.size, 0, none⟩) 0 (grownCap w n 0 3)) 0 [] := by
    refine ⟨rfl, Or.inr ⟨w.heap.size, grownCap w n 0 3, _, rfl, Nat.le_refl _, blk_new w.drew _, Nat.zero_le _, hcl, ?_, by simp⟩⟩
    rw [Array.size_append, size_zeroCells, size_zeroCells]
    simp [Value.cells]
    omega
  generalize (Obj.cells (Builtin.zeroCells (Value.int .i64 0).cells n ++ Builtin.zeroCells (Value.int .i64 0).cells (grownCap w n 0 3 - n)) 3) = ob at *
  have HO : Hid ((w.drew.alloc ob).ownsRow w.heap.size 3 1 (.slice (some ⟨w.heap.size, 0, none⟩) 0 (grownCap w n 0 3)) 0 []) := hO
  have HB : Hid (Below w.heap.size w (w.drew.alloc ob)) := hB
  generalize grownCap w n 0 3 = cap at *
  clear hrun hO hB
  unfold maxLen at hcl
  go_enter Try.func38, Try.ntmps38
  go_wp2_with (at_builtin; refine Lib.wpList_append_run _ rfl (.tmp 20) (.tmp 21) _ _ rfl _ _ rfl rfl _ _ HR.out ?_)
  go_ret
  exact ⟨HB.out, _, _, rfl, HO.out⟩

/-- the first k rows, one behind the other -/
def catL (l : List RowV) (k : Nat) : List Int := ((l.take k).map RowV.l).flatten
theorem catL_zero (l : List RowV) : catL l 0 = [] := rfl
theorem catL_succ {l : List RowV} {k : Nat} (h : k < l.length) : catL l (k + 1) = catL l k ++ (atr l k).l := by
  unfold catL
  rw [List.take_add_one, List.getElem?_eq_getElem h, atr_lt l k h, List.map_append, List.flatten_append]
  congr 1
  simp
theorem catL_le {l : List RowV} {k : Nat} (h : k ≤ l.length) : (catL l k).length ≤ (catL l l.length).length := by
  unfold catL
  have : l.take l.length = l.take k ++ l.drop k := by rw [List.take_append_drop]; exact List.take_of_length_le (Nat.le_refl _)
  rw [this, List.map_append, List.flatten_append, List.length_append]
  exact Nat.le_add_right _ _

set_option maxHeartbeats 1000000 in
theorem concat_any (ao : Option Addr) (cap : Nat) (l : List RowV) (w : World) (hR : RowsAt w ao l) (hs : ∀ j, j < l.length → ∃ b off, (atr l j).ao = some ⟨b, off, none⟩) (h2 : l.length ≤ 100)
    (h0 : 0 < (catL l l.length).length) (hn : (catL l l.length).length ≤ 1000) :
    Calls Try.prog 27 #[.slice ao l.length cap] w fun e w' => Below w.heap.size w w' ∧
      ∃ v, e = .returned v ∧ w'.ownsRow w.heap.size 3 1 v (catL l l.length).length (flati (catL l l.length)) := by
  obtain ⟨i0, hi, hz0, hz1, hz2⟩ := info_parts infoInt
  have HC : Hid (∀ k, k < l.length → (catL l (k + 1)).length = (catL l k).length + (atr l k).l.length) := fun k hk => by rw [catL_succ hk, List.length_append]
  have HLe : Hid (∀ k, k ≤ l.length → (catL l k).length ≤ (catL l l.length).length) := fun k hk => catL_le hk
  have HR : Hid (RowsAt w ao l) := hR
  have HS : Hid (∀ j, j < l.length → ∃ b off, (atr l j).ao = some ⟨b, off, none⟩) := hs
  clear hR hs
  go_enter Try.func27, Try.ntmps27
  go_wp2
  go_loop [3, 11] (fun s i => ∃ k : Nat, k ≤ l.length ∧ i = .int .i64 k ∧ s = .int .i64 ((catL l k).length : Int)) (fun _ i => l.length - (intOf i).toNat)
  case atStart => exact ⟨0, Nat.zero_le _, rfl, rfl⟩
  case round =>
    obtain ⟨k, hk, rfl, rfl⟩ := hrel
    by_cases hlt : k < l.length
    · obtain ⟨b, off, rfl, hb, c0, hat⟩ := HR.out k hlt
      have e1 := HC.out k hlt
      have e2 := HLe.out (k + 1) (by omega)
      unfold RowV.val at c0
      have HE : Hid ((catL l (k + 1)).length = (catL l k).length + (atr l k).l.length) := e1
      clear hat
      generalize (catL l k).length = a at *
      generalize (atr l k).l.length = c at *
      generalize (atr l k).ao = rao at *
      generalize (atr l k).cap = rcap at *
      have hac : a + c ≤ 1000 := by omega
      clear e1 e2
      go_wp2
      go_round
      case rel => exact ⟨k + 1, by omega, by go_num, by rw [HE.out]; go_num⟩
      case measure => simp [intOf]; omega
    · have hkl : k = l.length := by omega
      subst hkl
      have hg := grow_nil (catL l l.length).length h0 hn w
      have HN : Hid ((catL l l.length).length ≤ 1000) := hn
      obtain ⟨N, hN⟩ : ∃ N, N = (catL l l.length).length := ⟨_, rfl⟩
      have HNN : Hid (N = (catL l l.length).length) := hN
      rw [← hN] at h0 hn hg
      rw [← hN]
      clear hN
      go_wp2_with (go_at_call 38; refine hg.mono ?_; rintro e w1 ⟨hb1, g, cap1, rfl, hown⟩; have HB1 : Hid (Below w.heap.size w w1) := hb1; have HO1 : Hid (w1.ownsRow w.heap.size 3 1 (.slice (some ⟨g, 0, none⟩) 0 cap1) 0 []) := hown; clear hb1 hown)
      clear hg
      go_loopw [6, 27] (fun s i wr => ∃ k : Nat, k ≤ l.length ∧ i = .int .i64 k ∧ (∃ ao' cap', s = .slice ao' (catL l k).length cap' ∧ Hid (wr.ownsRow w.heap.size 3 1 (.slice ao' (catL l k).length cap') (catL l k).length (flati (catL l k)))) ∧ Hid (Below w.heap.size w wr)) (fun _ i _ => l.length - (intOf i).toNat)
      case atStart => exact ⟨0, Nat.zero_le _, rfl, ⟨_, _, rfl, HO1⟩, HB1⟩
      case round =>
        obtain ⟨k, hk, rfl, ⟨ao', cap', rfl, HO⟩, HB⟩ := hrel
        by_cases hlt : k < l.length
        · obtain ⟨b, off, rfl, hb, c0, hat⟩ := HR.out.below HB.out (Nat.le_refl _) k hlt
          obtain ⟨rb, ro, hro⟩ := HS.out k hlt
          have hzw := HB.out.size
          have e1 := HC.out k hlt
          have e2 := HLe.out (k + 1) (by omega)
          have HE : Hid ((catL l (k + 1)).length = (catL l k).length + (atr l k).l.length) := e1
          have HE2 : Hid (flati (catL l (k + 1)) = flati (catL l k) ++ flati (atr l k).l) := by rw [Hid, catL_succ hlt, flati, List.map_append]; rfl
          unfold RowV.val at c0
          have hints := hat.ints
          rw [hro] at c0 hints
          have HNw : Hid (∀ j u, (flati (atr l k).l)[j]? = some u → wr.cell? ((⟨rb, ro, none⟩ : Addr).add j) = some u) := by
            intro j u hj
            have hj' : j < (atr l k).l.length := by have := (List.getElem?_eq_some_iff.1 hj).1; simpa [flati] using this
            obtain ⟨b', off', e, hb, c⟩ := hints j hj'
            cases e
            rw [Go.WideShapes.add_plain, c]
            rw [flati, List.getElem?_map, List.getElem?_eq_getElem hj'] at hj
            rw [ati_lt _ j hj']
            exact hj
          have HLn : Hid ((flati (atr l k).l).length = (atr l k).l.length * 1) := by simp [Hid, flati]
          have H1 : Hid (∀ u ∈ flati (atr l k).l, u.oneCell' = true) := fun u hu => by
            obtain ⟨x, _, rfl⟩ := List.mem_map.1 hu; rfl
          have HM : Hid ((catL l k).length + (atr l k).l.length ≤ maxLen) := by unfold Hid maxLen; have := HN.out; omega
          have HM2 : Hid (((catL l k).length + (atr l k).l.length) * 8 ≤ 140737488355328) := by unfold Hid; have := HN.out; omega
          have HZ : Hid (w.heap.size ≤ wr.heap.size) := hzw
          clear hat hints e1 e2 hro
          generalize flati (atr l k).l = xs at *
          generalize (atr l k).l.length = c at *
          generalize (atr l k).cap = rcap at *
          generalize (catL l k).length = a at *
          generalize flati (catL l k) = ys at *
          go_wp2_with (at_builtin; refine wpList_append_own _ rfl (.tmp 31) (.tmp 32) 26 rfl w.heap.size 3 i0 _ 1 8 Try.underlying26 hi hz0 hz1 hz2 rfl (by decide) _ _ _ rfl HO.out ⟨rb, ro, none⟩ c rcap xs rfl HLn.out HNw.out H1.out HM.out HM2.out HZ.out ?_; intro v' w2 hown' hgrow _; obtain ⟨ao2, cap2, rfl⟩ := owns_form hown'; have HO2 : Hid (w2.ownsRow w.heap.size 3 1 (.slice ao2 (a + c) cap2) (a + c) (ys ++ xs)) := hown'; have HG2 : Hid (wr.grownBy w2 (Value.slice ao' a cap').ownBlock) := hgrow; clear hown' hgrow)
          go_roundw
          case rel =>
            refine ⟨k + 1, by omega, by go_num, ⟨ao2, cap2, by rw [HE.out], by rw [HE.out, HE2.out]; exact HO2⟩, ?_⟩
            refine HB.out.grown HG2.out HZ.out (fun g hg => ?_)
            rcases HO.out.2 with ⟨e', _⟩ | ⟨g', _, _, e', hB0, _⟩
            · rw [e'] at hg; cases hg
            · rw [e'] at hg; simp only [Value.ownBlock, Option.some.injEq] at hg; omega
          case measure => simp [intOf]; omega
        · have hkl : k = l.length := by omega
          subst hkl
          rw [← HNN.out] at HO
          rw [← HNN.out]
          go_wp2
          go_ret
          exact ⟨HB.out, _, rfl, by rw [← HNN.out]; exact HO.out⟩

end Go.Proofs.Ytamckjbddnocpaa
