/- The law DetRows, walked. -/
import Derived.Test.YtamckjbddnocpabDetT
import Derived.Test.YtamckjbddnocpabRClone
import Derived.Test.YtamckjbddnocpabRest
import Derived.Test.YtamckjbddnocpabAppJoin
import Derived.Deep.RegionLaw
namespace Go.Proofs.Ytamckjbddnocpab
open Go.RowKit
set_option linter.unusedVariables false

/-- the table of the law's first question -/
def tb6 (a b : Nat) : List RowV := [⟨some ⟨a, 0, none⟩, 2, [2, 1]⟩, ⟨some ⟨b, 0, none⟩, 2, [0, 3]⟩]
theorem tb6_ok (a b : Nat) : detErr (tb6 a b) = 0 := rfl
theorem tb6_det (a b : Nat) : detV (tb6 a b) = 6 := rfl

def w6 (w : World) : World := ((w.alloc (.cells #[.int .i64 2, .int .i64 1] 3)).alloc (.cells #[.int .i64 0, .int .i64 3] 3)).alloc (.cells #[.slice (some ⟨w.heap.size, 0, none⟩) 2 2, .slice (some ⟨w.heap.size + 1, 0, none⟩) 2 2] 22)

theorem tb6_in (w : World) : RowsIn (w6 w) (some ⟨w.heap.size + 2, 0, none⟩) 2 (tb6 w.heap.size (w.heap.size + 1)) := by
  have hA : IntsAt (w6 w) (some ⟨w.heap.size, 0, none⟩) [2, 1] := ((ints_new w [2, 1] 3).alloc _).alloc _
  have hB : IntsAt (w6 w) (some ⟨w.heap.size + 1, 0, none⟩) [0, 3] := by
    have := (ints_new (w.alloc (.cells #[.int .i64 2, .int .i64 1] 3)) [0, 3] 3).alloc (.cells #[.slice (some ⟨w.heap.size, 0, none⟩) 2 2, .slice (some ⟨w.heap.size + 1, 0, none⟩) 2 2] 22)
    rw [World.size_alloc] at this
    exact this
  have hz : (w6 w).heap.size = w.heap.size + 3 := by simp [w6]
  have hc : ∀ i, (w6 w).cell? ⟨w.heap.size + 2, i, none⟩ = (#[.slice (some ⟨w.heap.size, 0, none⟩) 2 2, .slice (some ⟨w.heap.size + 1, 0, none⟩) 2 2] : Array Value)[i]? := fun i => World.cell?_alloc_at _ _ _ i (by simp)
  refine ⟨fun i hi => ⟨w.heap.size + 2, 0, rfl, by omega, ?_⟩, Nat.le_refl _, by unfold maxLen; decide, fun e => by cases e⟩
  match i, hi with
  | 0, _ => exact ⟨hc 0, hA, Nat.le_refl _, (by decide : (2 : Nat) ≤ maxLen), fun e => by cases e⟩
  | 1, _ => exact ⟨hc 1, hB, Nat.le_refl _, (by decide : (2 : Nat) ≤ maxLen), fun e => by cases e⟩

theorem det6_call (w : World) : Calls Try.prog 7 #[.slice (some ⟨w.heap.size + 2, 0, none⟩) 2 2] (w6 w) fun e w' => w' = w6 w ∧ e = .returned (.tuple #[.int .i64 6, .int .i64 0]) := by
  have h := Det_any (some ⟨w.heap.size + 2, 0, none⟩) 2 (tb6 w.heap.size (w.heap.size + 1)) (w6 w) (tb6_in w)
  rw [tb6_ok, tb6_det] at h
  exact h

theorem w6_below (w : World) : Below w.heap.size w (w6 w) := ((below_one w _).alloc (by simp) _).alloc (by simp; omega) _

set_option maxRecDepth 10000 in
set_option maxHeartbeats 1600000 in
theorem DetRows_err (i k : Int) (ao : Option Addr) (cap : Nat) (l : List RowV) (w : World) (hR : RowsIn w ao cap l) (he : detErr l ≠ 0) :
    Calls Try.prog 4 #[.slice ao l.length cap, .int .i64 i, .int .i64 k] w fun e w' => e = .returned (.bool true) ∧ Below w.heap.size w w' := by
  have hne : ((0 : Int) != 0) = false := rfl
  have hne6 : ((6 : Int) != 6) = false := rfl
  have heq0 : ((0 : Int) == 0) = true := rfl
  have hne2 : (detErr l != 0) = true := by simpa using he
  have heq2 : (detErr l == 0) = false := by simpa using he
  have h6 := det6_call w
  have hd := Det_any ao cap l (w6 w) (hR.below (w6_below w) (Nat.le_refl _))
  rw [detV_err he] at hd
  have HB : Hid (Below w.heap.size w (w6 w)) := w6_below w
  have H6 : Hid (Calls Try.prog 7 _ (w6 w) _) := h6
  have HD : Hid (Calls Try.prog 7 _ (w6 w) _) := hd
  have HZ : Hid ((w6 w).heap.size = w.heap.size + 3) := by simp [Hid, w6]
  clear he hR h6 hd
  generalize detErr l = E at *
  go_enter Try.func4, Try.ntmps4
  go_wp2_with fail
  refine H6.out.mono ?_
  rintro e w1 ⟨hw1, rfl⟩
  subst hw1
  go_wp2_with fail
  refine HD.out.mono ?_
  rintro e w1 ⟨hw1, rfl⟩
  subst hw1
  go_wp2_with fail
  go_ret
  exact ⟨rfl, HB.out⟩

set_option maxRecDepth 10000 in
set_option maxHeartbeats 1600000 in
theorem DetRows_none (i k : Int) (ao : Option Addr) (cap : Nat) (w : World) (hR : RowsIn w ao cap []) :
    Calls Try.prog 4 #[.slice ao 0 cap, .int .i64 i, .int .i64 k] w fun e w' => e = .returned (.bool true) ∧ Below w.heap.size w w' := by
  have hne : ((0 : Int) != 0) = false := rfl
  have hne6 : ((6 : Int) != 6) = false := rfl
  have heq0 : ((0 : Int) == 0) = true := rfl
  have heq1 : ((1 : Int) == 1) = true := rfl
  have h6 := det6_call w
  have hd := Det_any ao cap [] (w6 w) (hR.below (w6_below w) (Nat.le_refl _))
  rw [show detErr [] = 0 from rfl, show detV [] = 1 from rfl] at hd
  have HB : Hid (Below w.heap.size w (w6 w)) := w6_below w
  have H6 : Hid (Calls Try.prog 7 _ (w6 w) _) := h6
  have HD : Hid (Calls Try.prog 7 #[.slice ao 0 cap] (w6 w) _) := hd
  clear hR h6 hd
  go_enter Try.func4, Try.ntmps4
  go_wp2_with fail
  refine H6.out.mono ?_
  rintro e w1 ⟨hw1, rfl⟩
  subst hw1
  go_wp2_with fail
  refine HD.out.mono ?_
  rintro e w1 ⟨hw1, rfl⟩
  subst hw1
  go_wp2_with fail
  go_ret
  exact ⟨rfl, HB.out⟩

theorem drew_size (w : World) : w.drew.heap.size = w.heap.size := rfl

/-- what the loops keep: all that lay there, but for two blocks -/
structure Kept (W0 wr : World) (gt ga : Nat) : Prop where
  blk : ∀ b, b < W0.heap.size → b ≠ gt → b ≠ ga → wr.heap[b]? = W0.heap[b]?
  size : W0.heap.size ≤ wr.heap.size

theorem Kept.cell {W0 wr : World} {gt ga : Nat} (h : Kept W0 wr gt ga) {b o : Nat} {v : Value} (hc : W0.cell? ⟨b, o, none⟩ = some v) (hb : b < W0.heap.size) (h1 : b ≠ gt) (h2 : b ≠ ga) : wr.cell? ⟨b, o, none⟩ = some v :=
  (World.cell?_of_block (w := W0) (a := ⟨b, o, none⟩) (h.blk b hb h1 h2)).trans hc

theorem RowV.At.of_blocks {w w' : World} {r : RowV} (h : r.At w) (hb : ∀ b off, r.ao = some ⟨b, off, none⟩ → w'.heap[b]? = w.heap[b]? ∧ b < w'.heap.size) : r.At w' := by
  refine ⟨fun i hi => ?_, h.le, h.max, h.nil⟩
  obtain ⟨b, off, e, hlt, c⟩ := h.ints i hi
  obtain ⟨q1, q2⟩ := hb b off e
  exact ⟨b, off, e, q2, (World.cell?_of_block (w := w) (a := ⟨b, off + i, none⟩) q1).trans c⟩

/-- the rows of a table that is handed in lie below -/
theorem RowsIn.low {w : World} {ao : Option Addr} {cap : Nat} {l : List RowV} (h : RowsIn w ao cap l) {j : Nat} (hj : j < l.length) (hl : 0 < (atr l j).l.length) : ∀ b off, (atr l j).ao = some ⟨b, off, none⟩ → b < w.heap.size := by
  intro b off e
  obtain ⟨_, _, _, _, _, at'⟩ := h.rows j hj
  obtain ⟨b', off', e', hb, _⟩ := at'.ints 0 hl
  rw [e] at e'; cases e'; exact hb

/-- a number below n -/
theorem rest_nat (i : Int) {n : Nat} (hn : 0 < n) : ∃ I : Nat, I < n ∧ restV i n = (I : Int) := by
  have := restV_in i hn
  exact ⟨(restV i n).toNat, by omega, by omega⟩

set_option maxRecDepth 10000 in
set_option maxHeartbeats 4000000 in
theorem DetRows_in (i k : Int) (ao : Option Addr) (cap : Nat) (l : List RowV) (w : World) (hR : RowsIn w ao cap l) (he : detErr l = 0) (hl : 0 < l.length) :
    Calls Try.prog 4 #[.slice ao l.length cap, .int .i64 i, .int .i64 k] w fun e w' => e = .returned (.bool true) ∧ Below w.heap.size w w' := by
  obtain ⟨h7, hlen, hent⟩ := detErr_ok he
  obtain ⟨b, off, rfl, hb, _⟩ := hR.rows 0 hl
  obtain ⟨I, hI, hrI⟩ := rest_nat i hl
  obtain ⟨K, hK, hrK⟩ := rest_nat k hl
  have hne : ((0 : Int) != 0) = false := rfl
  have hne6 : ((6 : Int) != 6) = false := rfl
  have heq0 : ((0 : Int) == 0) = true := rfl
  have hl0 : ((l.length : Int) == 0) = false := beq_eq_false_iff_ne.2 (by omega)
  have h6 := det6_call w
  have hd := Det_any (some ⟨b, off, none⟩) cap l (w6 w) (hR.below (w6_below w) (Nat.le_refl _))
  rw [he] at hd
  have HRI : Hid (∀ x : World, Calls Try.prog 8 #[.int .i64 i, .int .i64 (l.length : Int)] x fun e w' => e = .returned (.int .i64 (I : Int)) ∧ w' = x) := fun x => by
    have := rest_any i l.length hl (by omega) x; rwa [hrI] at this
  have HRK : Hid (∀ x : World, Calls Try.prog 8 #[.int .i64 k, .int .i64 (l.length : Int)] x fun e w' => e = .returned (.int .i64 (K : Int)) ∧ w' = x) := fun x => by
    have := rest_any k l.length hl (by omega) x; rwa [hrK] at this
  have HB : Hid (Below w.heap.size w (w6 w)) := w6_below w
  have H6 : Hid (Calls Try.prog 7 _ (w6 w) _) := h6
  have HD : Hid (Calls Try.prog 7 #[.slice (some ⟨b, off, none⟩) l.length cap] (w6 w) _) := hd
  have HR : Hid (RowsIn w (some ⟨b, off, none⟩) cap l) := hR
  have HLen : Hid (∀ i, i < l.length → (atr l i).l.length = l.length) := hlen
  have HEnt : Hid (∀ i k, i < l.length → k < l.length → -9 ≤ mtx l i k ∧ mtx l i k ≤ 9) := hent
  have HE : Hid (detErr l = 0) := he
  clear hR h6 hd hlen hent he hrI hrK
  go_enter Try.func4, Try.ntmps4
  go_wp2_with fail
  refine H6.out.mono ?_
  rintro e w1 ⟨hw1, rfl⟩
  subst hw1
  go_wp2_with fail
  refine HD.out.mono ?_
  rintro e w1 ⟨hw1, rfl⟩
  subst hw1
  clear H6 HD
  generalize w6 w = W1 at *
  have hzW := HB.out.size
  go_wp2_with fail
  refine (HRI.out _).mono ?_
  rintro e w2 ⟨rfl, hw2⟩
  subst hw2
  go_wp2_with fail
  refine (HRK.out _).mono ?_
  rintro e w3 ⟨rfl, hw3⟩
  subst hw3
  clear HRI HRK
  have hRw := HR.out.below HB.out (Nat.le_refl _)
  have hcl := cloneRows b off cap l w3 hRw.rows hl (by omega)
  go_wp2_with fail
  refine hcl.mono ?_
  rintro e w4 ⟨hb4, g1, cap1, f1, rfl, hg1, hc1, hm1, hrow1, hf1⟩
  have hz4 := hb4.size
  have hg1z := hrow1.lt
  have q1 := hrow1.cell (i := I) (by omega)
  have q2 := hrow1.cell (i := K) (by omega)
  have z1 := hrow1.frozen I
  have z2 := hrow1.frozen K
  rw [hf1 I hI] at q1
  rw [hf1 K hK] at q2
  have HRow1 : Hid (w4.rowIs g1 22 cap1 f1) := hrow1
  have HF1 : Hid (∀ j, j < l.length → f1 j = (atr l j).val) := hf1
  have HB4 : Hid (Below w3.heap.size w3 w4) := hb4
  have hIc : I < cap1 := by omega
  have hKc : K < cap1 := by omega
  obtain ⟨vI, hvI⟩ : ∃ v, v = (atr l I).val := ⟨_, rfl⟩
  obtain ⟨vK, hvK⟩ : ∃ v, v = (atr l K).val := ⟨_, rfl⟩
  have hsI : ∃ x y z, vI = .slice x y z := ⟨_, _, _, hvI⟩
  have hsK : ∃ x y z, vK = .slice x y z := ⟨_, _, _, hvK⟩
  obtain ⟨xI, yI, zI, rfl⟩ := hsI
  obtain ⟨xK, yK, zK, rfl⟩ := hsK
  rw [← hvI] at q1
  rw [← hvK] at q2
  have HvI : Hid (Value.slice xI yI zI = (atr l I).val) := hvI
  have HvK : Hid (Value.slice xK yK zK = (atr l K).val) := hvK
  clear hcl hb4 hrow1 hf1 hRw hvI hvK
  go_wp2_with fail
  go_cut [71] from 71 to 84 (fun s wx => Hid (Below w3.heap.size w3 wx) ∧ Hid (∃ f, wx.rowIs g1 22 cap1 f ∧ ∀ j, j < l.length → f j = (atr l (if j = I then K else if j = K then I else j)).val))
  case first =>
    by_cases hIK : I = K
    · subst hIK
      have HvIK : Hid (Value.slice xK yK zK = Value.slice xI yI zI) := HvK.out.trans HvI.out.symm
      go_region
      go_wp2_with fail
      go_meet
      case rel =>
        refine ⟨((HB4.out.setCell (by simp; omega) _).setCell (by simp; omega) _).drew, _, ((HRow1.out.set I _).set I _).drew, fun j hj => ?_⟩
        by_cases e : j = I
        · subst e
          simp [HvI.out]
        · simp [e, HF1.out j hj]
    · have hIK' : K ≠ I := fun h => hIK h.symm
      go_region
      go_wp2_with fail
      go_meet
      case rel =>
        refine ⟨((HB4.out.setCell (by simp; omega) _).setCell (by simp; omega) _).drew, _, ((HRow1.out.set I _).set K _).drew, fun j hj => ?_⟩
        by_cases e : j = I
        · subst e
          simp [hIK, HvK.out]
        · by_cases e2 : j = K
          · subst e2
            simp [e, HvI.out]
          · simp [e, e2, HF1.out j hj]
  case rest =>
    obtain ⟨HB5, HS5⟩ := hcut
    obtain ⟨w5, h5⟩ : ∃ w5, w5 = wc := ⟨_, rfl⟩
    subst h5
    have hz5 := HB5.out.size
    clear HRow1 HF1 HB4 HvI HvK q1 q2 z1 z2 hg1z hz4
    have hmk := make_intss l.length (by omega)
    have HRY : Hid (∀ y, Below w3.heap.size w3 y → RowsAt y (some ⟨b, off, none⟩) l) := fun y hy => (HR.out.below HB.out (Nat.le_refl _)).rows.below hy (Nat.le_refl _)
    have HB5a : Hid (Below w3.heap.size w3 w5.drew) := HB5.out.drew
    have HB5b : Hid (Below w3.heap.size w3 (w5.alloc (.cells (nils l.length) 22)).drew) := (HB5.out.alloc hz5 _).drew
    go_wp2_with fail
    go_cut [12, 13] from 85 to 89 (fun s t wx => ∃ gt g2 cap2, s = .slice (some ⟨gt, 0, none⟩) l.length l.length ∧ t = .slice (some ⟨g2, 0, none⟩) l.length cap2 ∧ l.length ≤ cap2 ∧ cap2 ≤ maxLen ∧ w5.heap.size ≤ gt ∧ w5.heap.size ≤ g2 ∧ gt ≠ g2 ∧ Hid (Below w5.heap.size w5 wx) ∧ Hid (wx.rowIs gt 22 l.length (fun _ => .slice none 0 0)) ∧ Hid (∃ f, wx.rowIs g2 22 cap2 f ∧ ∀ j, j < l.length → f j = (atr l j).val))
    case first =>
      go_region_with (go_at_call 9; refine (cloneRows b off cap l _ (by first | exact HRY.out _ HB5a.out | exact HRY.out _ HB5b.out) hl (by omega)).mono ?_; rintro e w7 ⟨hb7, g2, cap2, f2, rfl, hg2, hc2, hm2, hrow2, hf2⟩; have HB7 : Hid (Below _ _ w7) := hb7; have hz7 := hb7.size; have hg2z := hrow2.lt; have HRow2 : Hid (w7.rowIs g2 22 cap2 f2) := hrow2; have HF2 : Hid (∀ j, j < l.length → f2 j = (atr l j).val) := hf2; clear hb7 hrow2 hf2)
      · simp only [World.size_alloc, drew_size] at hg2 hz7
        have HN : Hid (w7.rowIs w5.heap.size 22 l.length (fun _ => .slice none 0 0)) := World.rowIs.of_block (World.rowIs_made w5 (.slice none 0 0) l.length 22) (HB7.out.block _ (by simp))
        have HBw : Hid (Below w5.heap.size w5 w7) := ((below_one w5 _).drew).trans (HB7.out.mono (by simp))
        clear HB7
        go_wp2_with fail
        go_meet
        case rel => exact ⟨w5.heap.size, g2, cap2, rfl, rfl, hc2, hm2, Nat.le_refl _, by omega, by omega, HBw, HN, _, HRow2.out, HF2.out⟩
      · simp only [drew_size] at hg2 hz7
        have HBw : Hid (Below w5.heap.size w5 (w7.alloc (.cells (nils l.length) 22))) := (((Below.refl _ w5).drew).trans HB7.out).alloc hz7 _
        clear HB7
        go_wp2_with fail
        go_meet
        case rel => exact ⟨w7.heap.size, g2, cap2, rfl, rfl, hc2, hm2, hz7, hg2, by omega, HBw, World.rowIs_made w7 (.slice none 0 0) l.length 22, _, HRow2.out.alloc _, HF2.out⟩
    case rest =>
      obtain ⟨gt, g2, cap2, rfl, rfl, hc2, hm2, hgt, hg2, hgg, HB6, HN6, HF6⟩ := hcut
      have hz6 := HB6.out.size
      have hRw := HRY.out wc (HB5.out.trans (HB6.out.mono hz5))
      obtain ⟨bI, oI, eI, hbI, cI, atI⟩ := hRw I hI
      cases eI
      obtain ⟨f6, hrow6, hf6⟩ := HF6.out
      have hg2z := hrow6.lt
      have hIl : 0 < (atr l I).l.length := by rw [HLen.out I hI]; exact hl
      obtain ⟨bR, oR, eR, hbR, _⟩ := atI.ints 0 hIl
      have hcl := cloneRow bR oR (atr l I).cap (atr l I).l wc (by rw [← eR]; exact atI.ints) hIl (by rw [HLen.out I hI]; omega)
      rw [RowV.val, eR, HLen.out I hI] at cI
      rw [HLen.out I hI] at hcl
      have d1 := hrow6.cell (i := I) (by omega)
      have df := hrow6.frozen I
      have hIc2 : I < cap2 := by omega
      obtain ⟨v6, hv6⟩ : ∃ v, v = f6 I := ⟨_, rfl⟩
      rw [← hv6] at d1
      have HRow6 : Hid (wc.rowIs g2 22 cap2 f6) := hrow6
      have HFf6 : Hid (∀ j, j < l.length → f6 j = (atr l j).val) := hf6
      clear hrow6 hf6 hv6 HF6 atI hRw eR
      go_wp2_with fail
      refine hcl.mono ?_
      rintro e w7 ⟨hb7, ga, ca, fa, rfl, hga, hca, hma, hrowa, hfa⟩
      have hz7 := hb7.size
      have hgaz := hrowa.lt
      have d1 := later hb7 d1 hg2z
      have df : w7.frozen? ⟨g2, I, none⟩ = false := (HRow6.out.of_block (hb7.block g2 hg2z)).frozen I
      have hg2z7 : g2 < w7.heap.size := by omega
      have HRa : Hid (w7.rowIs ga 3 ca fa) := hrowa
      have HFa : Hid (∀ j, j < l.length → fa j = .int .i64 (ati (atr l I).l j)) := hfa
      have HB7 : Hid (Below wc.heap.size wc w7) := hb7
      have HRow7 : Hid (w7.rowIs g2 22 cap2 f6) := HRow6.out.of_block (hb7.block g2 hg2z)
      clear hrowa hfa hb7 HRow6 hcl cI
      obtain ⟨W0, hW0⟩ : ∃ W0, W0 = w7.setCell ⟨g2, I, none⟩ (.slice (some ⟨ga, 0, none⟩) l.length ca) := ⟨_, rfl⟩
      have hW0z : W0.heap.size = w7.heap.size := by rw [hW0]; simp
      have HBW : Hid (Below w.heap.size w W0) := by
        rw [hW0]
        exact (((HB.out.trans (HB5.out.mono (by omega))).trans (HB6.out.mono (by omega))).trans (HB7.out.mono (by omega))).setCell (by simp; omega) _
      have hg1l : g1 < w5.heap.size := by obtain ⟨f, h, _⟩ := HS5.out; exact h.lt
      have HG1 : Hid (∃ f, W0.rowIs g1 22 cap1 f ∧ ∀ j, j < l.length → f j = (atr l (if j = I then K else if j = K then I else j)).val) := by
        obtain ⟨f, h, hf⟩ := HS5.out
        refine ⟨f, ?_, hf⟩
        rw [hW0]
        exact ((h.of_block (HB6.out.block _ (by omega))).of_block (HB7.out.block _ (by omega))).setOther (by simp; omega) _
      have HG2 : Hid (∃ f, W0.rowIs g2 22 cap2 f ∧ ∀ j, j < l.length → f j = if j = I then .slice (some ⟨ga, 0, none⟩) l.length ca else (atr l j).val) := by
        refine ⟨_, by rw [hW0]; exact HRow7.out.set I _, fun j hj => ?_⟩
        by_cases e : j = I
        · simp [e]
        · simp [e, HFf6.out j hj]
      have hgtl : gt < wc.heap.size := HN6.out.lt
      have HT0 : Hid (W0.rowIs gt 22 l.length (fun _ => .slice none 0 0)) := by
        rw [hW0]; exact (HN6.out.of_block (HB7.out.block _ hgtl)).setOther (by simp; omega) _
      have HA0 : Hid (∃ f, W0.rowIs ga 3 ca f ∧ ∀ j, j < l.length → f j = .int .i64 (mtx l I j)) := ⟨fa, by rw [hW0]; exact HRa.out.setOther (by simp; omega) _, HFa.out⟩
      have hgag : ga ≠ gt := by omega
      have hga2 : ga ≠ g2 := by omega
      have hga1 : ga ≠ g1 := by omega
      have hgt1 : gt ≠ g1 := by omega
      have hlow : w.heap.size ≤ g1 ∧ w.heap.size ≤ g2 ∧ w.heap.size ≤ gt ∧ w.heap.size ≤ ga := by omega
      have hup : g1 < W0.heap.size ∧ g2 < W0.heap.size ∧ gt < W0.heap.size ∧ ga < W0.heap.size := by omega
      have hwW : w.heap.size ≤ W0.heap.size := HBW.out.size
      go_wp2_with fail
      rw [← hW0]
      clear hW0 HRa HFa HRow7 HFf6 HB7 HN6 HB6 HB5 HS5 d1 df hmk HB5a HB5b HRY hg2z hz5 hz6 hz7 hgaz hg2z7 hbI hbR hgt hg2 hga hIl hg1l hgtl hW0z
      go_loopw [100] (fun i wr => ∃ x : Nat, x ≤ l.length ∧ i = .int .i64 x ∧
        Hid (∃ V : Nat → RowV, wr.rowIs gt 22 l.length (fun j => if j < x then (V j).val else .slice none 0 0) ∧ ∀ j, j < x → (V j).At wr ∧ (V j).l = col l j ∧ ∀ b off, (V j).ao = some ⟨b, off, none⟩ → W0.heap.size ≤ b) ∧
        Hid (∃ f, wr.rowIs ga 3 ca f ∧ ∀ j, j < l.length → f j = .int .i64 (mtx l I j + if I ≠ K ∧ j < x then mtx l K j else 0)) ∧ Hid (Kept W0 wr gt ga) ∧ Hid (Below w.heap.size w wr)) (fun i _ => l.length - (intOf i).toNat)
      case atStart => 
        obtain ⟨f, h1, h2⟩ := HA0.out
        exact ⟨0, Nat.zero_le _, rfl, ⟨fun _ => ⟨none, 0, []⟩, HT0.out.congr fun j _ => by simp, fun j hj => absurd hj (Nat.not_lt_zero _)⟩, ⟨f, h1, fun j hj => by rw [h2 j hj]; simp⟩, ⟨fun b _ _ _ => rfl, Nat.le_refl _⟩, HBW⟩
      case round =>
        obtain ⟨x, hx, rfl, HV, HAx, HKx, HBx⟩ := hrel
        by_cases hxl : x < l.length
        · obtain ⟨V, hrt, hV⟩ := HV.out
          have HRt : Hid (wr.rowIs gt 22 l.length (fun j => if j = x then .slice none 0 0 else if j < x then (V j).val else .slice none 0 0)) := hrt.congr fun j hj => by
            by_cases e : j = x
            · simp [e]
            · simp [e]
          have HVx : Hid (∀ j, j < x → (V j).At wr ∧ (V j).l = col l j ∧ ∀ b off, (V j).ao = some ⟨b, off, none⟩ → W0.heap.size ≤ b) := hV
          clear hrt hV HV
          obtain ⟨Vx, hVx⟩ : ∃ Vx, Vx = wr := ⟨_, rfl⟩
          subst hVx
          go_wp2_with fail
          go_loopw [105] (fun i wr => ∃ y : Nat, y ≤ l.length ∧ i = .int .i64 y ∧ (∃ v, wr.rowIs gt 22 l.length (fun j => if j = x then v else if j < x then (V j).val else .slice none 0 0) ∧ wr.ownsRow Vx.heap.size 3 1 v y (flati ((col l x).take y))) ∧
            Hid (∀ b, b < Vx.heap.size → b ≠ gt → wr.heap[b]? = Vx.heap[b]?) ∧ Vx.heap.size ≤ wr.heap.size ∧ Hid (Below w.heap.size w wr)) (fun i _ => l.length - (intOf i).toNat)
          case atStart => exact ⟨0, Nat.zero_le _, rfl, ⟨_, HRt.out, World.ownsRow_nil _ _ _ _⟩, fun b _ _ => rfl, Nat.le_refl _, HBx⟩
          case round =>
            obtain ⟨y, hy, rfl, ⟨v, hrt, hown⟩, HK1, hzV, HBy⟩ := hrel
            obtain ⟨aoV, capV, rfl⟩ := owns_shape hown
            have hkz := HKx.out.size
            by_cases hyl : y < l.length
            · have c1 := hrt.cell (i := x) hxl
              rw [if_pos rfl] at c1
              have cf := hrt.frozen x
              have hgtz := hrt.lt
              obtain ⟨_, _, e1, hbw, c2, at2⟩ := (HR.out.below HBy.out (Nat.le_refl _)).rows y hyl
              cases e1
              have hxr : x < (atr l y).l.length := by rw [HLen.out y hyl]; exact hxl
              obtain ⟨bR, oR, eR, hbR, c3⟩ := at2.ints x hxr
              rw [RowV.val, eR, HLen.out y hyl] at c2
              have hM : ati (atr l y).l x = mtx l y x := rfl
              rw [hM] at c3
              have hsn := take_snoci (col l x) y (by rw [col_len]; exact hyl)
              rw [col_at l hyl] at hsn
              generalize mtx l y x = X at *
              have HS : Hid (flati ((col l x).take (y + 1)) = flati ((col l x).take y) ++ [.int .i64 X]) := by rw [Hid, hsn, flati, List.map_append]; rfl
              have HO : Hid ((wr.alloc (.cells #[.int .i64 X] 3)).drew.ownsRow Vx.heap.size 3 1 (.slice aoV y capV) y (flati ((col l x).take y))) := (hown.alloc _).drew
              have HKm : Hid (y + 1 ≤ maxLen) := by unfold Hid maxLen; omega
              have HC1 : Hid (∀ j u, [Value.int .i64 X][j]? = some u → (wr.alloc (.cells #[.int .i64 X] 3)).drew.cell? ((⟨wr.heap.size, 0, none⟩ : Addr).add j) = some u) := fun j u hj => by
                match j, hj with
                | 0, hj => 
                  simp at hj; subst hj
                  exact newest #[.int .i64 X] 3 0
              have HC2 : Hid (∀ u ∈ [Value.int .i64 X], u.oneCell' = true) := by intro u hu; simp at hu; subst hu; rfl
              obtain ⟨i0, hi, hz0, hz1, hz2⟩ := info_parts infoInt
              have HGr : Hid (∀ v8 w8, World.ownsRow w8 Vx.heap.size 3 1 v8 (y + 1) (flati ((col l x).take y) ++ [.int .i64 X]) → (wr.alloc (.cells #[.int .i64 X] 3)).drew.grownBy w8 (Value.slice aoV y capV).ownBlock →
                  ∃ ao8 cap8, v8 = .slice ao8 (y + 1) cap8 ∧ Hid (w8.ownsRow Vx.heap.size 3 1 (.slice ao8 (y + 1) cap8) (y + 1) (flati ((col l x).take (y + 1)))) ∧ Hid (Below w.heap.size w w8) ∧ wr.heap.size ≤ w8.heap.size ∧
                    Hid (∀ b, b < Vx.heap.size → w8.heap[b]? = wr.heap[b]?)) := fun v8 w8 h2 h3 => by
                obtain ⟨ao8, cap8, rfl⟩ := owns_shape h2
                have hob : ∀ g, (Value.slice aoV y capV).ownBlock = some g → Vx.heap.size ≤ g := fun g hg => by
                  rcases hown.2 with ⟨e', _⟩ | ⟨g', _, _, e', hB0, _⟩
                  · rw [e'] at hg; cases hg
                  · rw [e'] at hg; simp only [Value.ownBlock, Option.some.injEq] at hg; omega
                have hsz := h3.size
                simp at hsz
                refine ⟨ao8, cap8, rfl, by rw [Hid, HS.out]; exact h2, ?_, by omega, fun b hb => ?_⟩
                · exact ((HBy.out.alloc (by omega) _).drew).grown h3 (by simp; omega) fun g hg => by have := hob g hg; omega
                · rw [h3.block b (by simp; omega) fun e => ?_]
                  · exact Go.Deep.blk_alloc_lt _ _ _ (by omega)
                  · have := hob b e.symm; omega
              have HRt1 : Hid (wr.rowIs gt 22 l.length (fun j => if j = x then .slice aoV y capV else if j < x then (V j).val else .slice none 0 0)) := hrt
              have hgtV : gt < Vx.heap.size := by omega
              clear hrt hown hsn at2 hM
              go_wp2_with fail
              go_region_law (refine step_append_own rfl (.tmp 113) (.tmp 121) 22 rfl Vx.heap.size 3 i0 _ 1 8 Try.underlying22 hi hz0 hz1 hz2 rfl (by decide) (.slice aoV y capV) y (flati ((col l x).take y)) (by simp [Act.eval]) HO.out ⟨wr.heap.size, 0, none⟩ 1 1 [.int .i64 X] (by simp [Act.eval]) rfl HC1.out HC2.out HKm.out (by omega) (by simp; omega) ?_; intro v8 w8 hown8 hgrow8 _; obtain ⟨ao8, cap8, rfl, HO8, HB8, hz8, HK8⟩ := HGr.out v8 w8 hown8 hgrow8; have HRt8 : Hid (w8.rowIs gt 22 l.length (fun j => if j = x then .slice aoV y capV else if j < x then (V j).val else .slice none 0 0)) := HRt1.out.of_block (HK8.out gt hgtV); have u1 := HRt8.out.cell (i := x) hxl; rw [if_pos rfl] at u1; have u2 := HRt8.out.frozen x; have u3 := HRt8.out.lt; clear hown8 hgrow8)
              all_goals
                have HRn : Hid ((w8.setCell ⟨gt, x, none⟩ (.slice ao8 (y + 1) cap8)).rowIs gt 22 l.length (fun j => if j = x then .slice ao8 (y + 1) cap8 else if j < x then (V j).val else .slice none 0 0)) := (HRt8.out.set x _).congr fun j _ => by
                  by_cases e : j = x <;> simp [e]
                have HOn : Hid ((w8.setCell ⟨gt, x, none⟩ (.slice ao8 (y + 1) cap8)).ownsRow Vx.heap.size 3 1 (.slice ao8 (y + 1) cap8) (y + 1) (flati ((col l x).take (y + 1)))) := owns_set HO8.out (fun _ _ g c e => by have := (owns_lt HO8.out g c e).1; simp; omega) _
                have HKn : Hid (∀ b, b < Vx.heap.size → b ≠ gt → (w8.setCell ⟨gt, x, none⟩ (.slice ao8 (y + 1) cap8)).heap[b]? = Vx.heap[b]?) := fun b hb hne => (Below.heap_setCell w8 ⟨gt, x, none⟩ _ b hne).trans ((HK8.out b hb).trans (HK1.out b hb hne))
                have HBn : Hid (Below w.heap.size w (w8.setCell ⟨gt, x, none⟩ (.slice ao8 (y + 1) cap8))) := HB8.out.setCell (by simp; omega) _
                go_wp2_with fail
                go_roundw
                case rel => exact ⟨y + 1, by omega, by go_num, ⟨_, HRn.out, HOn.out⟩, HKn, by simp; omega, HBn⟩
                case measure => simp [intOf]; omega
            · have hyy : y = l.length := by omega
              subst hyy
              have htk : (col l x).take l.length = col l x := List.take_of_length_le (by rw [col_len]; exact Nat.le_refl _)
              rw [htk] at hown
              have hown2 : wr.ownsRow Vx.heap.size 3 1 (.slice aoV l.length capV) (col l x).length (flati (col l x)) := by rw [col_len]; exact hown
              obtain ⟨_, _, e3, hI3, hfr3, hc3, hm3⟩ := owns_ints hown2
              rw [col_len] at e3 hc3
              cases e3
              have hgtV : gt < Vx.heap.size := by omega
              have hsome : aoV ≠ none := by
                obtain ⟨_, _, e, _⟩ := hI3 0 (by rw [col_len]; exact hl)
                rw [e]; exact fun h => by cases h
              have HVn : Hid (∃ V : Nat → RowV, wr.rowIs gt 22 l.length (fun j => if j < x + 1 then (V j).val else .slice none 0 0) ∧ ∀ j, j < x + 1 → (V j).At wr ∧ (V j).l = col l j ∧ ∀ b off, (V j).ao = some ⟨b, off, none⟩ → W0.heap.size ≤ b) := by
                refine ⟨fun j => if j = x then ⟨aoV, capV, col l x⟩ else V j, hrt.congr fun j _ => ?_, fun j hj => ?_⟩
                · by_cases e : j = x
                  · simp [e, RowV.val, col_len]
                  · by_cases e2 : j < x
                    · simp [e, e2, show j < x + 1 by omega]
                    · simp [e, e2, show ¬ j < x + 1 by omega]
                · by_cases e : j = x
                  · subst e
                    simp only [if_true]
                    refine ⟨⟨hI3, by simp only; rw [col_len]; exact hc3, hm3, fun e => absurd e hsome⟩, by first | rfl | trivial, fun b off e => ?_⟩
                    have := hfr3 b off e
                    omega
                  · simp only [e, if_false]
                    obtain ⟨h1, h2, h3⟩ := HVx.out j (by omega)
                    refine ⟨h1.of_blocks fun b off eb => ?_, h2, h3⟩
                    have hb0 := h3 b off eb
                    obtain ⟨b', off', e', hb', _⟩ := h1.ints 0 (by rw [h2, col_len]; exact hl)
                    rw [eb] at e'
                    cases e'
                    exact ⟨HK1.out b hb' (by omega), by omega⟩
              have HKn : Hid (Kept W0 wr gt ga) := ⟨fun b hb h1 h2 => (HK1.out b (by omega) h1).trans (HKx.out.blk b hb h1 h2), by omega⟩
              obtain ⟨f, hra, hfa⟩ := HAx.out
              have hra' := hra.of_block (HK1.out ga (by omega) hgag)
              have HRaw : Hid (wr.rowIs ga 3 ca f) := hra'
              have HFaw : Hid (∀ j, j < l.length → f j = .int .i64 (mtx l I j + if I ≠ K ∧ j < x then mtx l K j else 0)) := hfa
              by_cases hIK : I = K
              · have HAn : Hid (∃ f, wr.rowIs ga 3 ca f ∧ ∀ j, j < l.length → f j = .int .i64 (mtx l I j + if I ≠ K ∧ j < x + 1 then mtx l K j else 0)) := ⟨f, HRaw.out, fun j hj => by rw [HFaw.out j hj]; simp [hIK]⟩
                have hIKn : ((I : Int) != (K : Int)) = false := by simp [hIK]
                clear hrt hown hown2 hI3 hfr3 hra hfa hra' hIK
                go_wp2_with fail
                go_roundw
                case rel => exact ⟨x + 1, by omega, by go_num, HVn, HAn, HKn, HBy⟩
                case measure => simp [intOf]; omega
              · have hIKn : ((I : Int) != (K : Int)) = true := by simp; omega
                have r1 := hra'.cell (i := x) (by omega)
                rw [hfa x hxl] at r1
                simp only [Nat.lt_irrefl, and_false, if_false, Int.add_zero] at r1
                have r2 := hra'.frozen x
                have r3 := hra'.lt
                obtain ⟨f2, hr2, hf2⟩ := HG2.out
                have hr2' := hr2.of_block (HKn.out.blk g2 hup.2.1 (fun e => hgg e.symm) (fun e => hga2 e.symm))
                have s1 := hr2'.cell (i := I) (by omega)
                rw [hf2 I hI, if_pos rfl] at s1
                have s3 := hr2'.lt
                obtain ⟨_, _, e1, hbw, c2, at2⟩ := (HR.out.below HBy.out (Nat.le_refl _)).rows K hK
                cases e1
                obtain ⟨bR, oR, eR, hbR, c3⟩ := at2.ints x (by rw [HLen.out K hK]; exact hxl)
                rw [RowV.val, eR, HLen.out K hK] at c2
                have hM : ati (atr l K).l x = mtx l K x := rfl
                rw [hM] at c3
                have b1 := HEnt.out I x hI hxl
                have b2 := HEnt.out K x hK hxl
                have HAn : Hid (∃ f, (wr.setCell ⟨ga, x, none⟩ (.int .i64 (mtx l I x + mtx l K x))).rowIs ga 3 ca f ∧ ∀ j, j < l.length → f j = .int .i64 (mtx l I j + if I ≠ K ∧ j < x + 1 then mtx l K j else 0)) := by
                  refine ⟨_, HRaw.out.set x _, fun j hj => ?_⟩
                  by_cases e : j = x
                  · subst e; simp [hIK]
                  · simp only [e, if_false]
                    rw [HFaw.out j hj]
                    by_cases e2 : j < x
                    · simp [hIK, e2, show j < x + 1 by omega]
                    · simp [e2, show ¬ j < x + 1 by omega]
                have HVn2 : Hid (∃ V : Nat → RowV, (wr.setCell ⟨ga, x, none⟩ (.int .i64 (mtx l I x + mtx l K x))).drew.rowIs gt 22 l.length (fun j => if j < x + 1 then (V j).val else .slice none 0 0) ∧ ∀ j, j < x + 1 → (V j).At (wr.setCell ⟨ga, x, none⟩ (.int .i64 (mtx l I x + mtx l K x))).drew ∧ (V j).l = col l j ∧ ∀ b off, (V j).ao = some ⟨b, off, none⟩ → W0.heap.size ≤ b) := by
                  obtain ⟨V', g1', g2'⟩ := HVn.out
                  refine ⟨V', (g1'.setOther (by simp; omega) _).drew, fun j hj => ?_⟩
                  obtain ⟨h1, h2, h3⟩ := g2' j hj
                  refine ⟨h1.of_blocks fun b off eb => ?_, h2, h3⟩
                  have hb0 := h3 b off eb
                  obtain ⟨b', off', e', hb', _⟩ := h1.ints 0 (by rw [h2, col_len]; exact hl)
                  rw [eb] at e'
                  cases e'
                  exact ⟨Below.heap_setCell wr ⟨ga, x, none⟩ _ b (by simp; omega), by rw [drew_size]; simp; omega⟩
                have HKn2 : Hid (Kept W0 (wr.setCell ⟨ga, x, none⟩ (.int .i64 (mtx l I x + mtx l K x))).drew gt ga) := ⟨fun b hb h1 h2 => (Below.heap_setCell wr ⟨ga, x, none⟩ _ b h2).trans (HKn.out.blk b hb h1 h2), by rw [drew_size]; simp; omega⟩
                have HBn : Hid (Below w.heap.size w (wr.setCell ⟨ga, x, none⟩ (.int .i64 (mtx l I x + mtx l K x)))) := HBy.out.setCell (by simp; omega) _
                have hxca : x < ca := by omega
                clear hrt hown hown2 hI3 hfr3 hra hfa hra' hr2 hf2 hr2' at2 hM
                generalize mtx l I x = X at *
                generalize mtx l K x = Y at *
                go_wp2_with fail
                go_region
                go_wp2_with fail
                go_roundw
                case rel => exact ⟨x + 1, by omega, by go_num, HVn2, HAn, HKn2, HBn.out.drew⟩
                case measure => simp [intOf]; omega
        · have hxx : x = l.length := by omega
          subst hxx
          obtain ⟨V, hrt, hV⟩ := HV.out
          obtain ⟨f1, hr1, hf1⟩ := HG1.out
          obtain ⟨f2, hr2, hf2⟩ := HG2.out
          obtain ⟨fa, hra, hfa⟩ := HAx.out
          have hRw := HR.out.below HBx.out (Nat.le_refl _)
          have hAt : ∀ j, j < l.length → (atr l j).At wr := fun j hj => by obtain ⟨_, _, _, _, _, h⟩ := hRw.rows j hj; exact h
          have hr1' := hr1.of_block (HKx.out.blk g1 hup.1 (fun e => hgt1 e.symm) (fun e => hga1 e.symm))
          have hr2' := hr2.of_block (HKx.out.blk g2 hup.2.1 (fun e => hgg e.symm) (fun e => hga2 e.symm))
          have T1 : RowsIn wr (some ⟨g1, 0, none⟩) cap1 (tab l.length fun j => atr l (sw I K j)) := tab_in hr1' (fun j hj => hf1 j hj) (fun j hj => hAt _ (sw_lt hI hK hj)) hc1 hm1
          have T2 : RowsIn wr (some ⟨gt, 0, none⟩) l.length (tab l.length V) := tab_in hrt (fun j hj => if_pos hj) (fun j hj => (hV j hj).1) (Nat.le_refl _) (by unfold maxLen; omega)
          have hRa : RowV.At wr ⟨some ⟨ga, 0, none⟩, ca, addL l I K⟩ := by
            refine ⟨fun i hi => ?_, by simp only; rw [addL_len]; exact hca, hma, fun e => by cases e⟩
            simp only at hi
            rw [addL_len] at hi
            refine ⟨ga, 0, rfl, hra.lt, ?_⟩
            rw [Nat.zero_add, hra.cell (by omega), hfa i hi, addL_at l I K hi]
          have T3 : RowsIn wr (some ⟨g2, 0, none⟩) cap2 (tab l.length fun j => if j = I then ⟨some ⟨ga, 0, none⟩, ca, addL l I K⟩ else atr l j) := tab_in hr2' (fun j hj => by
              rw [hf2 j hj]
              by_cases e : j = I
              · simp [e, RowV.val, addL_len]
              · simp [e]) (fun j hj => by
              by_cases e : j = I
              · simp only [e, if_true]; exact hRa
              · simp only [e, if_false]; exact hAt j hj) hc2 hm2
          have D1 := Det_any _ _ _ wr T1
          have D2 := Det_any _ _ _ wr T2
          have D3 := Det_any _ _ _ wr T3
          obtain ⟨s1, s2⟩ := swapT HE.out hI hK
          obtain ⟨t1, t2⟩ := turnT HE.out fun j hj => (hV j hj).2.1
          have u1 := addT (r := ⟨some ⟨ga, 0, none⟩, ca, addL l I K⟩) HE.out hI hK rfl
          have hbd := detV_abs HE.out
          rw [s1, s2, tab_len] at D1
          rw [t1, t2, tab_len] at D2
          rw [tab_len] at D3
          generalize detErr (tab l.length fun j => if j = I then ⟨some ⟨ga, 0, none⟩, ca, addL l I K⟩ else atr l j) = E3 at *
          generalize detV (tab l.length fun j => if j = I then ⟨some ⟨ga, 0, none⟩, ca, addL l I K⟩ else atr l j) = V3 at *
          generalize detV l = D at *
          have HD1 : Hid (Calls Try.prog 7 _ wr _) := D1
          have HD2 : Hid (Calls Try.prog 7 _ wr _) := D2
          have HD3 : Hid (Calls Try.prog 7 _ wr _) := D3
          clear D1 D2 D3 s1 s2 t1 t2 T1 T2 T3 hRa hr1 hf1 hr2 hf2 hra hfa hRw hAt hr1' hr2' hrt hV HV HAx HKx HG1 HG2 HR HLen HEnt HE
          have hDD : (D == D) = true := beq_self_eq_true D
          have hND : (-D == -D) = true := beq_self_eq_true _
          by_cases hIK : I = K
          · have hIK1 : ((I : Int) == (K : Int)) = true := by simp [hIK]
            rw [if_pos hIK] at HD1
            clear hIK
            rcases u1 with u1 | ⟨u1, u2⟩
            · have hE3 : (E3 != 0) = true := by simpa using u1
              clear u1
              go_wp2_with fail
              refine HD1.out.mono ?_
              rintro e w1 ⟨hw1, rfl⟩
              subst hw1
              go_wp2_with fail
              refine HD2.out.mono ?_
              rintro e w1 ⟨hw1, rfl⟩
              subst hw1
              go_wp2_with fail
              refine HD3.out.mono ?_
              rintro e w1 ⟨hw1, rfl⟩
              subst hw1
              clear HD1 HD2 HD3
              go_wp2_with fail
              go_ret
              exact ⟨rfl, HBx.out⟩
            · subst u1 u2
              go_wp2_with fail
              refine HD1.out.mono ?_
              rintro e w1 ⟨hw1, rfl⟩
              subst hw1
              go_wp2_with fail
              refine HD2.out.mono ?_
              rintro e w1 ⟨hw1, rfl⟩
              subst hw1
              go_wp2_with fail
              refine HD3.out.mono ?_
              rintro e w1 ⟨hw1, rfl⟩
              subst hw1
              clear HD1 HD2 HD3
              go_wp2_with fail
              go_ret
              exact ⟨rfl, HBx.out⟩
          · have hIK1 : ((I : Int) == (K : Int)) = false := by simp; omega
            have hIK2 : ((I : Int) != (K : Int)) = true := by simp; omega
            rw [if_neg hIK] at HD1
            clear hIK
            rcases u1 with u1 | ⟨u1, u2⟩
            · have hE3 : (E3 != 0) = true := by simpa using u1
              clear u1
              go_wp2_with fail
              refine HD1.out.mono ?_
              rintro e w1 ⟨hw1, rfl⟩
              subst hw1
              go_wp2_with fail
              refine HD2.out.mono ?_
              rintro e w1 ⟨hw1, rfl⟩
              subst hw1
              go_wp2_with fail
              refine HD3.out.mono ?_
              rintro e w1 ⟨hw1, rfl⟩
              subst hw1
              clear HD1 HD2 HD3
              go_wp2_with fail
              go_ret
              exact ⟨rfl, HBx.out⟩
            · subst u1 u2
              go_wp2_with fail
              refine HD1.out.mono ?_
              rintro e w1 ⟨hw1, rfl⟩
              subst hw1
              go_wp2_with fail
              refine HD2.out.mono ?_
              rintro e w1 ⟨hw1, rfl⟩
              subst hw1
              go_wp2_with fail
              refine HD3.out.mono ?_
              rintro e w1 ⟨hw1, rfl⟩
              subst hw1
              clear HD1 HD2 HD3
              go_wp2_with fail
              go_ret
              exact ⟨rfl, HBx.out⟩

theorem DetRows_any (i k : Int) (ao : Option Addr) (cap : Nat) (l : List RowV) (w : World) (hR : RowsIn w ao cap l) :
    Calls Try.prog 4 #[.slice ao l.length cap, .int .i64 i, .int .i64 k] w fun e w' => e = .returned (.bool true) ∧ Below w.heap.size w w' := by
  by_cases he : detErr l = 0
  · rcases Nat.eq_zero_or_pos l.length with h | h
    · obtain rfl := List.length_eq_zero_iff.1 h
      exact DetRows_none i k ao cap w hR
    · exact DetRows_in i k ao cap l w hR he h
  · exact DetRows_err i k ao cap l w hR he

end Go.Proofs.Ytamckjbddnocpab
