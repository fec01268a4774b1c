/- Contract of slices.Concat of two lists of integers, however long they are. -/
import Derived.Lib.AppendZeros
import Derived.Deep.AppendSrc
import Derived.Deep.DeepAppendRoom
import Derived.Test.YtgmifepfbcgfbaaMk
import Derived.Test.YtgmifepfbcgfbaaOwns
import Derived.Test.YtgmifepfbcgfbaaFlowC
namespace Go.Proofs.Ytgmifepfbcgfbaa
open Go.RowKit
set_option linter.unusedVariables false

/-- 'append(own, nil...)': nothing happens -/
theorem wpList_append_nothing {P : Program} (w : World) {ops : Array Oper} {rest : List Oper} {o : Oper} {a : Act} {Q : Exit → Act → World → Prop} (hgd : o.guard = none) (s x : Operand) (t : TypeId)
    (ho : o.op = .call { callee := .builtin .append, args := #[s, x], argTypes := #[t, t] }) (base : Nat) (e : TypeId) (i : TypeInfo) (size : Nat) (ht : P.underlying t = some (.slice e)) (hi : P.info? e = some i) (hsize : i.size = size)
    (v : Value) (n : Nat) (xs : List Value) (hs : a.eval s = v) (hown : w.ownsRow base e size v n xs) (c : Nat) (hx : a.eval x = .slice none 0 c) (h : wpList P ops Q rest (a.put o.dst v) w) : wpList P ops Q (o :: rest) a w := by
  have hr : (Builtin.append_ #[t, t] o.type #[v, .slice none 0 c]).run P w = .ok v w := by
    have hS := Src.ofNil (P := P) w (size := i.size) ht c
    rcases hown.2 with ⟨rfl, _⟩ | ⟨g, cap, cur, rfl, hB, hg, hle, hcap, hcs, htk⟩
    · simp [Builtin.append_, run_underlying ht, sizeOf, typeInfo, hi, hS.len, hS.cells]
    · have := run_append_room_src (P := P) w t t o.type e i ht hi g 0 n cap _ 0 [] hS (by omega) (fun j hj => absurd hj (Nat.not_lt_zero _)) (fun j hj => absurd hj (Nat.not_lt_zero _))
      simpa [World.setCells] using this
  refine wpList_plain hgd fun K hK => ?_
  unfold Oper.wp execOp
  simp only [ho, resolve, invoke, builtin, Sem.run_bind, Sem.run_pure, Result.andThen_ok, List.map_toArray, List.map_cons, List.map_nil, hs, hx, hr]
  exact hK _ _ h

theorem growI_zero (w : World) : Calls Try.prog 36 #[.slice none 0 0, .int .i64 0] w fun e w' => e = .returned (.slice none 0 0) ∧ w' = w := by
  go_enter Try.func36, Try.ntmps36
  go_wp2
  go_ret
  exact ⟨rfl, rfl⟩
set_option maxHeartbeats 400000 in
theorem growI_pos (n : Nat) (h0 : 0 < n) (hn : n ≤ 35184372088832) (w : World) :
    Calls Try.prog 36 #[.slice none 0 0, .int .i64 (n : Int)] w fun e w' => Below w.heap.size w w' ∧
      ∃ g cap, e = .returned (.slice (some ⟨g, 0, none⟩) 0 cap) ∧ n ≤ cap ∧ w'.ownsRow w.heap.size 3 1 (.slice (some ⟨g, 0, none⟩) 0 cap) 0 [] := by
  obtain ⟨i0, hi, hz0, hz1, hz2⟩ := info_parts infoInt
  have hrun := Lib.run_append_nil_zeros (P := Try.prog) w 25 3 25 3 i0 (.int .i64 0) .i64 .i64 Try.underlying25 Try.underlying3 hi hz0 n h0 (by rw [hz1]; decide) (by omega) (by rw [hz2]; omega)
  have hcl := grownCap_le_maxLen w n 0 3 (by unfold maxLen; omega)
  have hcg := grownCap_ge w n 0 3
  have HR : Hid ((Builtin.append_ #[25, 3] 25 #[.slice none 0 0, .int .i64 (n : Int)]).run Try.prog w = .ok (.slice (some ⟨w.heap.size, 0, none⟩) n (grownCap w n 0 3)) (w.drew.alloc (.cells (Builtin.zeroCells (Value.int .i64 0).cells n ++ Builtin.zeroCells (Value.int .i64 0).cells (grownCap w n 0 3 - n)) 3))) := hrun
  have hB : Below w.heap.size w (w.drew.alloc (.cells (Builtin.zeroCells (Value.int .i64 0).cells n ++ Builtin.zeroCells (Value.int .i64 0).cells (grownCap w n 0 3 - n)) 3)) := ((Below.refl w.heap.size w).drew).alloc (Nat.le_refl _) _
  have hO : (w.drew.alloc (.cells (Builtin.zeroCells (Value.int .i64 0).cells n ++ Builtin.zeroCells (Value.int .i64 0).cells (grownCap w n 0 3 - n)) 3)).ownsRow w.heap.size 3 1 (.slice (some ⟨w.heap.size, 0, none⟩) 0 (grownCap w n 0 3)) 0 [] := by
    refine ⟨rfl, Or.inr ⟨w.heap.size, grownCap w n 0 3, _, rfl, Nat.le_refl _, blk_new w.drew _, Nat.zero_le _, hcl, ?_, by simp⟩⟩
    rw [Array.size_append, size_zeroCells, size_zeroCells]
    simp [Value.cells]
    omega
  generalize (Obj.cells (Builtin.zeroCells (Value.int .i64 0).cells n ++ Builtin.zeroCells (Value.int .i64 0).cells (grownCap w n 0 3 - n)) 3) = ob at *
  have HO : Hid ((w.drew.alloc ob).ownsRow w.heap.size 3 1 (.slice (some ⟨w.heap.size, 0, none⟩) 0 (grownCap w n 0 3)) 0 []) := hO
  have HB : Hid (Below w.heap.size w (w.drew.alloc ob)) := hB
  have HG : Hid (n ≤ grownCap w n 0 3) := hcg
  generalize grownCap w n 0 3 = cap at *
  clear hrun hO hB
  unfold maxLen at hcl
  go_enter Try.func36, Try.ntmps36
  go_wp2_with (at_builtin; refine Lib.wpList_append_run _ rfl (.tmp 20) (.tmp 21) _ _ rfl _ _ rfl rfl _ _ HR.out ?_)
  go_ret
  exact ⟨HB.out, _, _, rfl, HG.out, HO.out⟩

theorem growI_any (n : Nat) (hn : n ≤ 35184372088832) (w : World) :
    Calls Try.prog 36 #[.slice none 0 0, .int .i64 (n : Int)] w fun e w' => Below w.heap.size w w' ∧
      ∃ ao cap, e = .returned (.slice ao 0 cap) ∧ w'.ownsRow w.heap.size 3 1 (.slice ao 0 cap) 0 [] ∧ (n = 0 ∨ ∃ g, ao = some ⟨g, 0, none⟩ ∧ n ≤ cap) := by
  by_cases h0 : n = 0
  · subst h0
    refine (growI_zero w).mono ?_
    rintro e w' ⟨rfl, rfl⟩
    exact ⟨Below.refl _ _, none, 0, rfl, World.ownsRow_nil _ _ _ _, Or.inl rfl⟩
  · refine (growI_pos n (by omega) hn w).mono ?_
    rintro e w' ⟨hb, g, cap, rfl, hc, ho⟩
    exact ⟨hb, _, cap, rfl, ho, Or.inr ⟨g, rfl, hc⟩⟩

/-- the numbers of the first k lists -/
def szI (xs ys : List Int) : Nat → List Int
  | 0 => []
  | 1 => xs
  | _ => xs ++ ys

theorem flati_news {w : World} {b off : Nat} {l : List Int} (h : IntsAt w (some ⟨b, off, none⟩) l) : ∀ j u, (flati l)[j]? = some u → w.cell? ((⟨b, off, none⟩ : Addr).add j) = some u := by
  intro j u hj
  have hl : j < l.length := by
    have := (List.getElem?_eq_some_iff.1 hj).1
    simpa [flati] using this
  obtain ⟨b', off', e, _, c⟩ := h j hl
  cases e
  rw [Go.WideShapes.add_plain]
  have : (flati l)[j]? = some (.int .i64 (ati l j)) := by simp [flati, hl, ati_lt]
  rw [hj] at this
  cases this
  simpa using c
theorem flati_one (l : List Int) : ∀ v ∈ flati l, v.oneCell' = true := by
  intro v hv
  obtain ⟨x, _, rfl⟩ := List.mem_map.1 hv
  rfl

set_option maxHeartbeats 2000000 in
set_option maxRecDepth 100000 in
theorem concatI_any (b : Nat) (a1 a2 : Option Addr) (c1 c2 : Nat) (xs ys : List Int) (w : World) (hb : b < w.heap.size) (hc0 : w.cell? ⟨b, 0, none⟩ = some (.slice a1 xs.length c1)) (hc1 : w.cell? ⟨b, 1, none⟩ = some (.slice a2 ys.length c2))
    (hX : IntsIn w a1 c1 xs) (hY : IntsIn w a2 c2 ys) (hn : xs.length + ys.length ≤ 35184372088832) :
    Calls Try.prog 15 #[.slice (some ⟨b, 0, none⟩) 2 2] w fun e w' => Below w.heap.size w w' ∧
      ∃ ao cap, e = .returned (.slice ao (xs ++ ys).length cap) ∧ IntsIn w' ao cap (xs ++ ys) := by
  obtain ⟨i0, hi, hz0, hz1, hz2⟩ := info_parts infoInt
  have HX : Hid (IntsIn w a1 c1 xs) := hX
  have HY : Hid (IntsIn w a2 c2 ys) := hY
  clear hX hY
  obtain ⟨m1, hm1⟩ : ∃ m, xs.length = m := ⟨_, rfl⟩
  obtain ⟨m2, hm2⟩ : ∃ m, ys.length = m := ⟨_, rfl⟩
  rw [hm1] at hc0 hn
  rw [hm2] at hc1 hn
  have Hm1 : Hid (xs.length = m1) := hm1
  have Hm2 : Hid (ys.length = m2) := hm2
  have Hm3 : Hid ((xs ++ ys).length = m1 + m2) := by rw [Hid, List.length_append, hm1, hm2]
  rw [List.length_append, hm1, hm2]
  clear hm1 hm2
  go_enter Try.func15, Try.ntmps15
  go_wp2
  go_loop [3, 11] (fun s i => (i = .int .i64 0 ∧ s = .int .i64 0) ∨ (i = .int .i64 1 ∧ s = .int .i64 (m1 : Int)) ∨ (i = .int .i64 2 ∧ s = .int .i64 ((m1 + m2 : Nat) : Int))) (fun _ i => 2 - (intOf i).toNat)
  case atStart => exact Or.inl ⟨rfl, rfl⟩
  case round =>
    rcases hrel with ⟨rfl, rfl⟩ | ⟨rfl, rfl⟩ | ⟨rfl, rfl⟩
    · go_wp2
      go_round
      case rel => exact Or.inr (Or.inl ⟨rfl, by go_num⟩)
      case measure => simp [intOf]
    · go_wp2
      go_round
      case rel => exact Or.inr (Or.inr ⟨rfl, by go_num⟩)
      case measure => simp [intOf]
    · have hg := growI_any (m1 + m2) (by omega) w
      go_wp2_with fail
      refine hg.mono ?_
      clear hg
      rintro e w1 ⟨hb1, ao1, cap1, rfl, hown, hroom⟩
      have HB1 : Hid (Below w.heap.size w w1) := hb1
      have HO1 : Hid (w1.ownsRow w.heap.size 3 1 (.slice ao1 0 cap1) 0 []) := hown
      have HRm : Hid (m1 + m2 = 0 ∨ ∃ g, ao1 = some ⟨g, 0, none⟩ ∧ m1 + m2 ≤ cap1) := hroom
      clear hb1 hown hroom
      go_wp2
      go_loopw [6, 27] (fun s i wr => ∃ k : Nat, k ≤ 2 ∧ i = .int .i64 k ∧ (∃ ao' cap', s = .slice ao' (szI xs ys k).length cap' ∧ Hid (wr.ownsRow w.heap.size 3 1 (.slice ao' (szI xs ys k).length cap') (szI xs ys k).length (flati (szI xs ys k))) ∧ Hid (m1 + m2 = 0 ∨ ∃ g, ao' = some ⟨g, 0, none⟩ ∧ m1 + m2 ≤ cap')) ∧ Hid (Below w.heap.size w wr)) (fun _ i _ => 2 - (intOf i).toNat)
      case atStart => exact ⟨0, by omega, rfl, ⟨_, _, rfl, HO1, HRm⟩, HB1⟩
      case round =>
        clear HO1 HRm HB1
        obtain ⟨k, hk, rfl, ⟨ao', cap', rfl, HO, HRm⟩, HB⟩ := hrel
        have hzw := HB.out.size
        by_cases hlt : k < 2
        · obtain ⟨ax, cx, X, hcell, hX, hsz, hlen⟩ : ∃ ax cx X, wr.cell? ⟨b, k, none⟩ = some (.slice ax (X : List Int).length cx) ∧ IntsIn wr ax cx X ∧ szI xs ys (k + 1) = szI xs ys k ++ X ∧ (szI xs ys k).length + X.length ≤ m1 + m2 := by
            rcases (by omega : k = 0 ∨ k = 1) with rfl | rfl
            · exact ⟨a1, c1, xs, by rw [Hm1.out]; exact later HB.out hc0 hb, HX.out.below HB.out (Nat.le_refl _), rfl, by simp only [szI, List.length_nil]; rw [Hm1.out]; omega⟩
            · exact ⟨a2, c2, ys, by rw [Hm2.out]; exact later HB.out hc1 hb, HY.out.below HB.out (Nat.le_refl _), rfl, by simp only [szI]; rw [Hm1.out, Hm2.out]; omega⟩
          have HS1 : Hid ((szI xs ys (k + 1)).length = (szI xs ys k).length + X.length) := by rw [Hid, hsz, List.length_append]
          have HS2 : Hid (flati (szI xs ys (k + 1)) = flati (szI xs ys k) ++ flati X) := by rw [Hid, hsz]; simp [flati]
          have HX2 : Hid (IntsIn wr ax cx X) := hX
          have hbr : b < wr.heap.size := by omega
          clear hsz hX
          cases ax with
          | none =>
            have hx0 := HX2.out.nil rfl
            have e : X = [] := List.eq_nil_of_length_eq_zero hx0.1
            subst e
            simp only [List.length_nil, Nat.add_zero] at HS1 hcell hlen
            simp only [flati, List.map_nil, List.append_nil] at HS2
            have HS3 : Hid (flati (szI xs ys (k + 1)) = flati (szI xs ys k)) := HS2
            clear HS2 hx0
            generalize (szI xs ys k).length = y at *
            go_wp2_with (at_builtin; refine wpList_append_nothing _ rfl (.tmp 31) (.tmp 32) 25 rfl w.heap.size 3 i0 1 Try.underlying25 hi hz1 _ _ _ rfl HO.out cx rfl ?_)
            go_roundw
            case rel => exact ⟨k + 1, by omega, by go_num, ⟨ao', cap', by rw [HS1.out], by rw [HS1.out, HS3.out]; exact HO, HRm⟩, HB⟩
            case measure => simp [intOf]; omega
          | some ad =>
            have HNw : Hid (∀ j u, (flati X)[j]? = some u → wr.cell? (ad.add j) = some u) := by
              intro j u hj
              have hl : j < X.length := by
                have := (List.getElem?_eq_some_iff.1 hj).1
                simpa [flati] using this
              obtain ⟨xb, xo, e, _⟩ := HX2.out.ints 0 (by omega)
              cases e
              exact flati_news HX2.out.ints j u hj
            have HLn : Hid ((flati X).length = X.length * 1) := by rw [Hid]; simp [flati]
            have H1 : Hid (∀ u ∈ flati X, u.oneCell' = true) := flati_one X
            have HZ : Hid (w.heap.size ≤ wr.heap.size) := hzw
            rcases HRm.out with h0 | ⟨g, rfl, hroom⟩
            · have HAll : Hid (m1 + m2 = 0) := h0
              have HM : Hid ((szI xs ys k).length + X.length ≤ maxLen) := by unfold Hid maxLen; omega
              have HM2 : Hid (((szI xs ys k).length + X.length) * 8 ≤ 140737488355328) := by unfold Hid; omega
              clear h0
              generalize flati X = xs' at *
              generalize X.length = c at *
              generalize (szI xs ys k).length = y at *
              generalize flati (szI xs ys k) = ys' at *
              go_wp2_with (at_builtin; refine wpList_append_own _ rfl (.tmp 31) (.tmp 32) 25 rfl w.heap.size 3 i0 _ 1 8 Try.underlying25 hi hz0 hz1 hz2 rfl (by decide) _ _ _ rfl HO.out ad c cx xs' rfl HLn.out HNw.out H1.out HM.out HM2.out HZ.out ?_; intro v' w2 hown' hgrow _; obtain ⟨ao2, cap2, rfl⟩ := owns_form hown'; have HO2 : Hid (w2.ownsRow w.heap.size 3 1 (.slice ao2 (y + c) cap2) (y + c) (ys' ++ xs')) := hown'; have HG2 : Hid (wr.grownBy w2 (Value.slice ao' y cap').ownBlock) := hgrow; clear hown' hgrow)
              go_roundw
              case rel =>
                refine ⟨k + 1, by omega, by go_num, ⟨ao2, cap2, by rw [HS1.out], by rw [HS1.out, HS2.out]; exact HO2, ?_⟩, ?_⟩
                · exact Or.inl HAll.out
                · refine HB.out.grown HG2.out HZ.out (fun g hg => ?_)
                  rcases HO.out.2 with ⟨e', _⟩ | ⟨g', _, _, e', hB0, _⟩
                  · rw [e'] at hg; cases hg
                  · rw [e'] at hg; simp only [Value.ownBlock, Option.some.injEq] at hg; omega
              case measure => simp [intOf]; omega
            · have HRoom : Hid ((szI xs ys k).length + X.length ≤ cap') := by rw [Hid]; omega
              have HRm2 : Hid (m1 + m2 ≤ cap') := hroom
              clear hroom HRm
              generalize flati X = xs' at *
              generalize X.length = c at *
              generalize (szI xs ys k).length = y at *
              generalize flati (szI xs ys k) = ys' at *
              go_wp2_with (at_builtin; refine wpList_append_own_spare _ rfl (.tmp 31) (.tmp 32) 25 rfl w.heap.size 3 i0 1 Try.underlying25 hi hz1 g y cap' ys' rfl HO.out ad c cx xs' rfl HLn.out HNw.out H1.out HRoom.out ?_; intro w2 hown' hgrow; have HO2 : Hid (w2.ownsRow w.heap.size 3 1 (.slice (some ⟨g, 0, none⟩) (y + c) cap') (y + c) (ys' ++ xs')) := hown'; have HG2 : Hid (wr.grownBy w2 (some g)) := hgrow; clear hown' hgrow)
              go_roundw
              case rel =>
                refine ⟨k + 1, by omega, by go_num, ⟨some ⟨g, 0, none⟩, cap', by rw [HS1.out], by rw [HS1.out, HS2.out]; exact HO2, Or.inr ⟨g, rfl, HRm2.out⟩⟩, ?_⟩
                refine HB.out.grown HG2.out HZ.out (fun g1 hg => ?_)
                rcases HO.out.2 with ⟨e', _⟩ | ⟨g', _, _, e', hB0, _⟩
                · cases e'
                · cases e'; cases hg; exact hB0
              case measure => simp [intOf]; omega
        · have hk2 : k = 2 := by omega
          subst hk2
          have hall : szI xs ys 2 = xs ++ ys := rfl
          rw [hall] at HO ⊢
          obtain ⟨ao3, cap3, ev, hI3, _, hle3, hmx3⟩ := owns_ints HO.out
          obtain ⟨rfl, rfl⟩ : ao' = ao3 ∧ cap' = cap3 := by cases ev; exact ⟨rfl, rfl⟩
          have hnil : ao' = none → (xs ++ ys).length = 0 ∧ cap' = 0 := fun e => by
            rcases HO.out.2 with ⟨e', h0⟩ | ⟨g', _, _, e', _⟩
            · simp only [Value.slice.injEq] at e'
              exact ⟨h0, e'.2.2⟩
            · rw [e] at e'; simp only [Value.slice.injEq] at e'; cases e'.1
          have HI3 : Hid (IntsIn wr ao' cap' (xs ++ ys)) := ⟨hI3, hle3, hmx3, hnil⟩
          rw [Hm3.out]
          clear hI3 ev hall hnil
          go_wp2
          go_ret
          exact ⟨HB.out, ao', cap', rfl, HI3.out⟩

end Go.Proofs.Ytgmifepfbcgfbaa
