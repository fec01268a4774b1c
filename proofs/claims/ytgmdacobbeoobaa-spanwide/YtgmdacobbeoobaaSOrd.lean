/- Contracts of package span: rising, the function that holds two arcs against each other, inOrder, cheapFirst. -/
import Derived.Test.YtgmdacobbeoobaaSortF
import Derived.Test.YtgmdacobbeoobaaKruM
import Derived.Test.YtgmdacobbeoobaaMk
import Derived.Test.YtgmdacobbeoobaaAppJoin
import Derived.Deep.RegionHeld3
namespace Go.Proofs.Ytgmdacobbeoobaa
open Go.RowKit
set_option linter.unusedVariables false

set_option maxHeartbeats 400000 in
theorem risingN_any (N : Nat) (hN : N ≤ 60) (w : World) :
    Calls Try.prog 19 #[.int .i64 (N : Int)] w fun e w' => Below w.heap.size w w' ∧
      ∃ b, w.heap.size ≤ b ∧ e = .returned (.slice (some ⟨b, 0, none⟩) N N) ∧ w'.rowIs b 3 N (fun j => .int .i64 ((j : Nat) : Int)) := by
  have hmk := make_ints N (by omega)
  go_enter Try.func19, Try.ntmps19
  go_wp2
  go_loopw [9] (fun i wr => ∃ k : Nat, k ≤ N ∧ i = .int .i64 k ∧ wr.rowIs w.heap.size 3 N (fun j => .int .i64 (if j < k then (j : Int) else 0)) ∧ Below w.heap.size w wr) (fun i _ => N - (intOf i).toNat)
  case atStart => exact ⟨0, Nat.zero_le _, rfl, (zeri_row _ _ _).congr fun j hj => by simp, below_one _ _⟩
  case round =>
    obtain ⟨k, hk, rfl, hrow, hB⟩ := hrel
    have hzr := hrow.lt
    by_cases hlt : k < N
    · have r0 := hrow.cell (i := k) hlt
      have f0 := hrow.frozen k
      have HR : Hid (wr.rowIs w.heap.size 3 N (fun j => .int .i64 (if j < k then (j : Int) else 0))) := hrow
      clear hrow
      go_wp2
      go_roundw
      case rel =>
        refine ⟨k + 1, by omega, by go_num, (HR.out.set k _).congr fun j hj => ?_, hB.setCell (Nat.le_refl _) _⟩
        by_cases e : j = k
        · subst e; simp
        · have : (j < k + 1) = (j < k) := by simp; omega
          simp [e, this]
      case measure => simp [intOf]; omega
    · have hkl : N = k := by omega
      subst hkl
      go_wp2
      go_ret
      exact ⟨hB, _, Nat.le_refl _, rfl, hrow.congr fun j hj => by simp [hj]⟩

/-! ### Two numbers held against each other -/

def cmpI (x y : Int) : Int := if x < y then -1 else if y < x then 1 else 0
def orI (x y : Int) : Int := if x = 0 then y else x

set_option maxHeartbeats 400000 in
theorem isNaN_any (x : Int) (w : World) : Calls Try.prog 48 #[.int .i64 x] w fun e w' => e = .returned (.bool false) ∧ w' = w := by
  have hx : (x != x) = false := by simp
  go_enter Try.func48, Try.ntmps48
  go_wp2
  go_ret
  exact ⟨by simp, rfl⟩

set_option maxHeartbeats 400000 in
theorem compare_any (x y : Int) (w : World) : Calls Try.prog 31 #[.int .i64 x, .int .i64 y] w fun e w' => e = .returned (.int .i64 (cmpI x y)) ∧ w' = w := by
  go_enter Try.func31, Try.ntmps31
  go_wp2_with (go_at_call 48; refine (isNaN_any _ _).mono ?_; rintro e w' ⟨rfl, hw⟩; rw [hw])
  all_goals (go_ret; refine ⟨?_, rfl⟩; unfold cmpI; (repeat' split) <;> first | rfl | (exfalso; omega))

set_option maxHeartbeats 400000 in
theorem or_any (ao : Option Addr) (cap : Nat) (x y : Int) (w : World) (hA : IntsAt w ao [x, y]) : Calls Try.prog 30 #[.slice ao 2 cap] w fun e w' => e = .returned (.int .i64 (orI x y)) ∧ w' = w := by
  obtain ⟨b, off, rfl, hb, c0⟩ := hA 0 (by simp)
  obtain ⟨_, _, e, _, c1⟩ := hA 1 (by simp)
  cases e
  have e0 : ati [x, y] 0 = x := rfl
  have e1 : ati [x, y] 1 = y := rfl
  rw [e0, Nat.add_zero] at c0
  rw [e1] at c1
  clear e0 e1 hA
  go_enter Try.func30, Try.ntmps30
  go_wp2
  go_loop [8] (fun i => ∃ k : Nat, k ≤ 2 ∧ i = .int .i64 k ∧ (1 ≤ k → x = 0) ∧ (2 ≤ k → y = 0)) (fun i => 2 - (intOf i).toNat)
  case atStart => exact ⟨0, by omega, rfl, fun h => absurd h (by omega), fun h => absurd h (by omega)⟩
  case round =>
    obtain ⟨k, hk, rfl, h1, h2⟩ := hrel
    rcases (by omega : k = 0 ∨ k = 1 ∨ k = 2) with rfl | rfl | rfl
    · by_cases hx : x = 0
      · have hn : (x != 0) = false := by simp [hx]
        go_wp2
        go_round
        case rel => exact ⟨1, by omega, by go_num, fun _ => hx, fun h => absurd h (by omega)⟩
        case measure => simp [intOf]
      · have hn : (x != 0) = true := by simp [hx]
        have HX : Hid (x ≠ 0) := hx
        clear hx
        go_wp2
        go_ret
        exact ⟨ret_int (by rw [orI, if_neg HX.out]), rfl⟩
    · have HX : Hid (x = 0) := h1 (by omega)
      clear h1
      by_cases hy : y = 0
      · have hn : (y != 0) = false := by simp [hy]
        go_wp2
        go_round
        case rel => exact ⟨2, by omega, by go_num, fun _ => HX.out, fun _ => hy⟩
        case measure => simp [intOf]
      · have hn : (y != 0) = true := by simp [hy]
        clear hy
        go_wp2
        go_ret
        exact ⟨ret_int (by rw [orI, if_pos HX.out]), rfl⟩
    · have HX : Hid (x = 0) := h1 (by omega)
      have HY : Hid (y = 0) := h2 (by omega)
      clear h1 h2
      go_wp2
      go_ret
      exact ⟨ret_int (by rw [orI, if_pos HX.out, HY.out]), rfl⟩

/-- arc i held against arc j -/
def cfA (l : List Arc3) (i j : Nat) : Int := orI (cmpI (at3 l i).2.2 (at3 l j).2.2) (cmpI (i : Int) (j : Int))
theorem cfA_lt (l : List Arc3) (i j : Nat) : cfA l i j < 0 ↔ ltA l i j := by
  unfold cfA orI cmpI ltA
  generalize (at3 l i).2.2 = x
  generalize (at3 l j).2.2 = y
  (repeat' split) <;> omega

set_option maxHeartbeats 2000000 in
theorem closure_any (W : World) (B : Nat) (ao : Option Addr) (cap : Nat) (l : List Arc3) (i j : Nat) (hB : B < W.heap.size) (hbox : W.cell? ⟨B, 0, none⟩ = some (.slice ao l.length cap)) (hA : ArcsAt W ao l) (hm : l.length ≤ maxLen) (hi : i < l.length) (hj : j < l.length) :
    Calls Try.prog 29 #[.int .i64 (i : Int), .int .i64 (j : Int), .pointer (some ⟨B, 0, none⟩)] W fun e w' => e = .returned (.int .i64 (cfA l i j)) ∧ Grn W w' := by
  unfold maxLen at hm
  obtain ⟨b, off, rfl, hb, _, _, c2⟩ := hA i hi
  obtain ⟨_, _, e, _, _, _, d2⟩ := hA j hj
  cases e
  unfold cfA
  generalize (at3 l i).2.2 = x at *
  generalize (at3 l j).2.2 = y at *
  have HS : Hid (∀ u : World, Grn W u → Grn W u ∧ u.cell? ⟨B, 0, none⟩ = some (.slice (some ⟨b, off, none⟩) l.length cap) ∧ u.cell? ⟨b, off + i * 3 + 2, none⟩ = some (.int .i64 x) ∧ u.cell? ⟨b, off + j * 3 + 2, none⟩ = some (.int .i64 y)) :=
    fun u h => ⟨h, later h.below hbox hB, later h.below c2 hb, later h.below d2 hb⟩
  have HI : Hid (IntsAt (W.alloc (.cells #[.int .i64 (cmpI x y), .int .i64 (cmpI (i : Int) (j : Int))] 3)).drew (some ⟨W.heap.size, 0, none⟩) [cmpI x y, cmpI (i : Int) (j : Int)]) := IntsAt.drew (ints_new W [cmpI x y, cmpI (i : Int) (j : Int)] 3)
  clear hA hbox c2 d2
  go_enter Try.func29, Try.ntmps29
  go_wp2
  go_region_held3 (fun u => Grn W u ∧ u.cell? ⟨B, 0, none⟩ = some (.slice (some ⟨b, off, none⟩) l.length cap) ∧ u.cell? ⟨b, off + i * 3 + 2, none⟩ = some (.int .i64 x) ∧ u.cell? ⟨b, off + j * 3 + 2, none⟩ = some (.int .i64 y))
    (first
      | exact HS.out _ (Grn.drew (Grn.refl W))
      | exact HS.out _ (Grn.alloc (And.left (by assumption)) _)
      | assumption)
    (first
      | (go_at_call 31; refine (compare_any _ _ _).mono ?_; rintro e w' ⟨rfl, rfl⟩)
      | (go_at_call 30; refine (or_any _ _ (cmpI x y) (cmpI (i : Int) (j : Int)) _ HI.out).mono ?_; rintro e w' ⟨rfl, rfl⟩))
  all_goals
    go_wp2
    go_ret
    exact ⟨rfl, ((Grn.refl W).alloc _).drew⟩

/-! ### In order -/

section
open Go.Sort

/-- the numbers below n as values -/
def encF (n : Nat) (i : Fin n) : Value := .int .i64 ((i.val : Nat) : Int)
def cfF (l : List Arc3) (n : Nat) (i j : Fin n) : Int := cfA l i.val j.val

theorem ltF (l : List Arc3) (n : Nat) (i j : Fin n) : ltOf (cfF l n) i j = decide (ltA l i.val j.val) := by
  unfold ltOf cfF
  exact decide_eq_decide.2 (cfA_lt l i.val j.val)
theorem swoF (l : List Arc3) (n : Nat) : SWO (ltOf (cfF l n)) where
  irrefl x := by rw [ltF]; exact decide_eq_false (ltA_irrefl l _)
  trans x y z h1 h2 := by
    rw [ltF] at *
    exact decide_eq_true (ltA_trans (of_decide_eq_true h1) (of_decide_eq_true h2))
  ntrans x y z h1 h2 := by
    rw [ltF] at *
    have h1 := of_decide_eq_false h1
    have h2 := of_decide_eq_false h2
    refine decide_eq_false fun h3 => ?_
    unfold ltA at h1 h2 h3
    omega
theorem totF (l : List Arc3) (n : Nat) (x y : Fin n) (h1 : ltOf (cfF l n) x y = false) (h2 : ltOf (cfF l n) y x = false) : x = y := by
  rw [ltF] at h1 h2
  have h1 := of_decide_eq_false h1
  have h2 := of_decide_eq_false h2
  refine Fin.ext (Classical.byContradiction fun hne => ?_)
  rcases ltA_total l hne with h | h
  · exact h1 h
  · exact h2 h

def ordF (l : List Arc3) (n : Nat) : List (Fin n) := ((List.finRange n).toArray.toList.mergeSort fun x y => !ltOf (cfF l n) y x)
theorem ordF_is (l : List Arc3) : OrdIs l ((ordF l l.length).map fun i => i.val) := by
  have hp : (ordF l l.length).Perm (List.finRange l.length) := by
    unfold ordF
    exact List.mergeSort_perm _ _
  have hr : ((List.finRange l.length).map fun i => i.val) = List.range l.length := by
    apply List.ext_getElem (by simp)
    intro i h1 h2
    simp
  have hperm : ((ordF l l.length).map fun i => i.val).Perm (List.range l.length) := by
    have := hp.map fun i => i.val
    rwa [hr] at this
  refine ⟨hperm, ?_⟩
  have hs : (ordF l l.length).Pairwise (fun x y => (!ltOf (cfF l l.length) y x) = true) := by
    unfold ordF
    refine List.pairwise_mergeSort (fun a b c h1 h2 => ?_) (fun a b => ?_) _
    · have h1 : ltOf (cfF l l.length) b a = false := by simpa using h1
      have h2 : ltOf (cfF l l.length) c b = false := by simpa using h2
      have := (swoF l l.length).ntrans c b a h2 h1
      simpa using this
    · rcases Bool.eq_false_or_eq_true (ltOf (cfF l l.length) b a) with h | h
      · have : ltOf (cfF l l.length) a b = false := by
          rw [ltF] at h ⊢
          exact decide_eq_false fun h' => ltA_irrefl l _ (ltA_trans h' (of_decide_eq_true h))
        simp [this]
      · simp [h]
  have hn : ((ordF l l.length).map fun i => i.val).Pairwise (· ≠ ·) := (hperm.nodup_iff.2 List.nodup_range)
  rw [List.pairwise_map] at hn ⊢
  refine (hs.and hn).imp fun {a b} h => ?_
  obtain ⟨h1, h2⟩ := h
  have h1 : ltOf (cfF l l.length) b a = false := by simpa using h1
  rw [ltF] at h1
  rcases ltA_total l h2 with h | h
  · exact h
  · exact absurd h (of_decide_eq_false h1)

theorem sortFunc_ord (l : List Arc3) (B blk c : Nat) (ao : Option Addr) (cap : Nat) (w : World) (hm : l.length ≤ 60) (hB : B < w.heap.size) (hBb : B ≠ blk) (hbox : w.cell? ⟨B, 0, none⟩ = some (.slice ao l.length cap))
    (hA : ArcsAt w ao l) (hab : ∀ b off, ao = some ⟨b, off, none⟩ → 0 < l.length → b ≠ blk) (hrow : w.rowIs blk 3 l.length (fun j => .int .i64 ((j : Nat) : Int))) :
    Calls Try.prog 47 #[.slice (some ⟨blk, 0, none⟩) l.length c, .func (.func 29) #[] #[.pointer (some ⟨B, 0, none⟩)]] w fun e w' =>
      e = .returned (.tuple #[]) ∧ w.grownBy w' (some blk) ∧ ∃ O, OrdIs l O ∧ IntsAt w' (some ⟨blk, 0, none⟩) (numK O) := by
  by_cases hz : l.length = 0
  · have hS := AnyF.slices_SortFunc_none (P := Try.prog) (ρ := sortFL_ren) { sortFL with } (some ⟨blk, 0, none⟩) c (.func (.func 29) #[] #[.pointer (some ⟨B, 0, none⟩)]) w
    rw [hz]
    refine (show Calls Try.prog 47 _ _ _ from hS).mono ?_
    rintro e w' ⟨rfl, rfl⟩
    refine ⟨rfl, World.grownBy.refl _ _, [], ⟨by rw [hz]; exact List.Perm.refl _, List.Pairwise.nil⟩, fun i hi => absurd hi (by simp [numK])⟩
  · haveI : Inhabited (Fin l.length) := ⟨⟨0, by omega⟩⟩
    have eg : ∀ args w, (callFunc 29 args).run Try.prog w = .ok (.enter 29 args) w := enters_of Try.func29 (by kernel_rfl) rfl
    have hd : ∀ (j : Nat) (hj : j < l.length), ((List.finRange l.length).toArray)[j]! = ⟨j, hj⟩ := fun j hj => by
      rw [getElem!_pos _ j (by simpa using hj)]
      simp
    have hH : Holds (encF l.length) w blk 0 (List.finRange l.length).toArray := fun j hj => by
      have hj' : j < l.length := by simpa using hj
      rw [hd j hj', Nat.zero_add]
      exact ⟨hrow.cell hj', hrow.frozen j⟩
    have hcmp : CmpLays1 Try.prog 29 #[.pointer (some ⟨B, 0, none⟩)] (encF l.length) (cfF l l.length) blk 0 (List.finRange l.length).toArray.size w := fun m os dk hs x y => by
      have hg := grownBy_sortW (encF l.length) (w := w) (g := blk) (n := m) (os := os) dk
      have hA' : ArcsAt (sortWorld (encF l.length) w blk 0 m dk os) ao l := by
        intro i hi
        obtain ⟨b, off, e, hb, c0, c1, c2⟩ := hA i hi
        have hne : some b ≠ some blk := fun h => hab b off e (by omega) (by cases h; rfl)
        exact ⟨b, off, e, Nat.lt_of_lt_of_le hb hg.size, hg.cell c0 hne, hg.cell c1 hne, hg.cell c2 hne⟩
      refine (closure_any _ B ao cap l x.val y.val (Nat.lt_of_lt_of_le hB hg.size) (hg.cell hbox fun h => hBb (by cases h; rfl)) hA' (by unfold maxLen; omega) x.isLt y.isLt).mono ?_
      rintro e w' ⟨rfl, q, os', rfl⟩
      exact ⟨rfl, q, os', rfl⟩
    have hS := Any.slices_SortFunc_total sortFL (encF l.length) (fun _ => rfl) (cfF l l.length) (swoF l l.length) 29 #[.pointer (some ⟨B, 0, none⟩)] blk 0 c (List.finRange l.length).toArray w eg hcmp hH hrow.lt (by simp; omega) (totF l l.length)
    have hsz : (List.finRange l.length).toArray.size = l.length := by simp
    have hS' : Calls Try.prog 47 #[.slice (some ⟨blk, 0, none⟩) (List.finRange l.length).toArray.size c, .func (.func 29) #[] #[.pointer (some ⟨B, 0, none⟩)]] w _ := hS
    rw [hsz] at hS'
    refine hS'.mono ?_
    rintro e w' ⟨rfl, n, os, rfl⟩
    have hg := grownBy_sortW (encF l.length) (w := w) (g := blk) (n := n) (os := os) (ordF l l.length).toArray
    refine ⟨rfl, hg, _, ordF_is l, ?_⟩
    have hlen : (ordF l l.length).length = l.length := by
      have := (ordF_is l).len
      simpa using this
    have hh := holds_sortWorld (encF l.length) w blk 0 n (List.finRange l.length).toArray (ordF l l.length).toArray os hrow.lt hH (by simp [hlen])
    intro i hi
    have hi' : i < (ordF l l.length).length := by simpa [numK] using hi
    have hc := (hh i (by simpa using hi')).1
    refine ⟨blk, 0, rfl, Nat.lt_of_lt_of_le hrow.lt hg.size, ?_⟩
    rw [ati_lt _ _ hi]
    refine (show _ = _ from hc).trans ?_
    rw [getElem!_pos _ i (by simpa using hi')]
    simp [encF, numK]

end

set_option maxHeartbeats 400000 in
theorem inOrder_any (l : List Arc3) (B : Nat) (ao : Option Addr) (cap : Nat) (w : World) (hm : l.length ≤ 60) (hB : B < w.heap.size) (hbox : w.cell? ⟨B, 0, none⟩ = some (.slice ao l.length cap)) (hA : ArcsAt w ao l) :
    Calls Try.prog 28 #[.int .i64 (l.length : Int), .func (.func 29) #[] #[.pointer (some ⟨B, 0, none⟩)]] w fun e w' => Below w.heap.size w w' ∧
      ∃ b O, e = .returned (.slice (some ⟨b, 0, none⟩) l.length l.length) ∧ w.heap.size ≤ b ∧ OrdIs l O ∧ IntsAt w' (some ⟨b, 0, none⟩) (numK O) := by
  go_enter Try.func28, Try.ntmps28
  go_wp2_with fail
  refine (risingN_any l.length hm w).mono ?_
  rintro e w1 ⟨hb1, b, hb, rfl, hr1⟩
  have hx : ∀ b' off, ao = some ⟨b', off, none⟩ → 0 < l.length → b' ≠ b := by
    intro b' off e h0
    obtain ⟨_, _, e', hlt, _⟩ := hA 0 h0
    rw [e] at e'
    cases e'
    omega
  have hs := sortFunc_ord l B b l.length ao cap w1 hm (by have := hb1.size; omega) (by omega) (later hb1 hbox hB) (hA.below hb1 (Nat.le_refl _)) hx hr1
  go_wp2_with fail
  refine hs.mono ?_
  rintro e w2 ⟨rfl, hg, O, hO, hI⟩
  go_wp2_with fail
  go_ret
  exact ⟨hb1.grown hg hb1.size (fun k e => by cases e; exact hb), b, O, rfl, hb, hO, hI⟩

set_option maxHeartbeats 400000 in
theorem cheapFirst_any (ao : Option Addr) (cap : Nat) (l : List Arc3) (w : World) (hm : l.length ≤ 60) (hA : ArcsAt w ao l) :
    Calls Try.prog 20 #[.slice ao l.length cap] w fun e w' => Below w.heap.size w w' ∧
      ∃ b O, e = .returned (.slice (some ⟨b, 0, none⟩) l.length l.length) ∧ w.heap.size ≤ b ∧ OrdIs l O ∧ IntsAt w' (some ⟨b, 0, none⟩) (numK O) := by
  have hs := inOrder_any l w.heap.size ao cap (w.alloc (.cells #[.slice ao l.length cap] 22)) hm (by simp) (newest _ _ 0) (hA.alloc _)
  clear hA
  go_enter Try.func20, Try.ntmps20
  go_wp2_with fail
  refine hs.mono ?_
  rintro e w1 ⟨hb1, b, O, rfl, hb, hO, hI⟩
  simp only [World.size_alloc] at hb hb1
  go_wp2_with fail
  go_ret
  exact ⟨below_in hb1 (by omega), b, O, rfl, by omega, hO, hI⟩

end Go.Proofs.Ytgmdacobbeoobaa
