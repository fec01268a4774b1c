/- Contract of the document's own RoundOf. -/
import Derived.Test.YtkcjemhbenkglaaShelf
import Derived.Test.YtkcjemhbenkglaaEDeg
import Derived.Test.YtkcjemhbenkglaaEOne
import Derived.Test.YtkcjemhbenkglaaJoined
import Derived.BigRegion
namespace Go.Proofs.Ytkcjemhbenkglaa
open Go.RowKit
set_option linter.unusedVariables false

theorem perm_sum {a b : List Int} (h : a.Perm b) : a.sum = b.sum := by
  induction h with
  | nil => rfl
  | cons x _ ih => simp [ih]
  | swap x y l => simp only [List.sum_cons]; omega
  | trans _ _ h1 h2 => exact h1.trans h2

theorem sumN_list (f : Nat → Int) (n : Nat) : sumN f n = ((List.range n).map f).sum := by
  induction n with
  | zero => rfl
  | succ n ih => rw [List.range_succ, List.map_append, List.sum_append, ← ih]; simp [sumN]

theorem sumN_ati (l : List Int) (g : Int → Int) : sumN (fun i => g (ati l i)) l.length = (l.map g).sum := by
  rw [sumN_list]
  congr 1
  apply List.ext_getElem (by simp)
  intro i h1 h2
  simp only [List.length_map] at h2
  simp [ati_lt l i h2]

/-- the differences of twelve nodes -/
def diffs (l : List Arc3) : List Int := (List.range 12).map fun v : Nat => od l (v : Int) - idg l (v : Int)

theorem diffs_length (l : List Arc3) : (diffs l).length = 12 := by simp [diffs]
theorem diffs_ati (l : List Arc3) {v : Nat} (h : v < 12) : ati (diffs l) v = od l v - idg l v := by
  rw [ati_lt _ _ (by rw [diffs_length]; exact h)]; simp [diffs]

theorem sorted_sum (l : List Arc3) (g : Int → Int) : sumN (fun i => g (ati (sorted (diffs l)) i)) 12 = sumN (fun v => g (od l v - idg l v)) 12 := by
  have h1 := sumN_ati (sorted (diffs l)) g
  have h2 := sumN_ati (diffs l) g
  rw [sorted_length, diffs_length] at h1
  rw [diffs_length] at h2
  rw [h1, perm_sum ((sorted_perm (diffs l)).map g), ← h2]
  exact sumN_congr fun v hv => by rw [diffs_ati l hv]

theorem round_math {l : List Arc3} (hl : ∀ a ∈ l, (0 ≤ a.1 ∧ a.1 < ((12 : Nat) : Int)) ∧ (0 ≤ a.2.1 ∧ a.2.1 < ((12 : Nat) : Int))) (hc : Conn l) (S : Nat → Int) (eS : S = ati (sorted (diffs l))) :
    (S 0 = 0 ∧ S 11 = 0 → CanIs l 2) ∧ (S 0 = -1 ∧ S 11 = 1 ∧ S 1 = 0 ∧ S 10 = 0 → CanIs l 1) ∧ (¬ (S 0 = 0 ∧ S 11 = 0) → ¬ (S 0 = -1 ∧ S 11 = 1 ∧ S 1 = 0 ∧ S 10 = 0) → CanIs l 0) := by
  have hmono : ∀ i j, i ≤ j → j < 12 → S i ≤ S j := fun i j h1 h2 => by rw [eS]; exact sorted_ati h1 (by rw [diffs_length]; exact h2)
  have s0 : sumN S 12 = 0 := by
    have := sorted_sum l (fun x => x)
    rw [← deg_sum hl, ← this, eS]
  have sm : sumN (fun i => max (S i) 0) 12 = sumN (fun v => max (od l v - idg l v) 0) 12 := by
    rw [eS]; exact sorted_sum l (fun x => max x 0)
  have hd := canIs_deg hl hc
  refine ⟨fun ⟨h0, h11⟩ => ?_, fun ⟨h0, h11, h1, h10⟩ => ?_, fun hA hB => ?_⟩
  · have : sumN (fun i => max (S i) 0) 12 = 0 := sumN_zero fun i hi => by
      have := hmono 0 i (by omega) hi; have := hmono i 11 (by omega) (by omega); omega
    rw [← sm, this] at hd
    exact hd
  · have : sumN (fun i => max (S i) 0) 12 = 1 := by
      rw [sumN_single (k := 11) (by omega) fun i hi hne => ?_, h11]
      · rfl
      · have h3 := hmono i 10 (by omega) (by omega); omega
    rw [← sm, this] at hd
    exact hd
  · rw [← sm] at hd
    unfold degK at hd
    by_cases e0 : sumN (fun i => max (S i) 0) 12 = 0
    · exact absurd ⟨deg_none s0 e0 0 (by omega), deg_none s0 e0 11 (by omega)⟩ hA
    · rw [if_neg e0] at hd
      by_cases e1 : sumN (fun i => max (S i) 0) 12 = 1
      · exfalso
        obtain ⟨i, j, hi, hj, hij, d1, d2, d0⟩ := deg_two s0 e1
        have g1 := hmono i 11 (by omega) (by omega)
        have g2 := hmono 0 j (by omega) hj
        have ei : i = 11 := Decidable.byContradiction fun h => by
          by_cases h2 : j = 11
          · subst h2; omega
          · have := d0 11 (by omega) (fun h' => h h'.symm) (fun h' => h2 h'.symm); omega
        have ej : j = 0 := Decidable.byContradiction fun h => by
          by_cases h2 : i = 0
          · omega
          · have := d0 0 (by omega) (fun h' => h2 h'.symm) (fun h' => h h'.symm); omega
        subst ei ej
        exact hB ⟨d2, d1, d0 1 (by omega) (by omega) (by omega), d0 10 (by omega) (by omega) (by omega)⟩
      · rw [if_neg e1] at hd; exact hd

theorem od_take {l : List Arc3} {k : Nat} (hk : k < l.length) (v : Int) : od (l.take (k + 1)) v = od (l.take k) v + one (v = (at3 l k).1) := by
  rw [take_snoc3 l k hk, od_append, od_cons]
  have : od [] v = 0 := rfl
  omega
theorem idg_take {l : List Arc3} {k : Nat} (hk : k < l.length) (v : Int) : idg (l.take (k + 1)) v = idg (l.take k) v + one (v = (at3 l k).2.1) := by
  rw [take_snoc3 l k hk, idg_append, idg_cons]
  have : idg [] v = 0 := rfl
  omega
theorem od_le (l : List Arc3) (v : Int) : od l v ≤ l.length := by
  unfold od; have := List.countP_le_length (p := fun a : Arc3 => decide (a.1 = v)) (l := l); omega
theorem idg_le (l : List Arc3) (v : Int) : idg l v ≤ l.length := by
  unfold idg; have := List.countP_le_length (p := fun a : Arc3 => decide (a.2.1 = v)) (l := l); omega

theorem zero12 (w : World) (t : TypeId) : (w.alloc (.cells #[.int .i64 0, .int .i64 0, .int .i64 0, .int .i64 0, .int .i64 0, .int .i64 0, .int .i64 0, .int .i64 0, .int .i64 0, .int .i64 0, .int .i64 0, .int .i64 0] t)).rowIs w.heap.size t 12 (fun _ => .int .i64 0) :=
  World.rowIs_alloc w #[.int .i64 0, .int .i64 0, .int .i64 0, .int .i64 0, .int .i64 0, .int .i64 0, .int .i64 0, .int .i64 0, .int .i64 0, .int .i64 0, .int .i64 0, .int .i64 0] t (fun _ => .int .i64 0) (fun i hi => by
    have : i < 12 := hi
    rcases (by omega : i = 0 ∨ i = 1 ∨ i = 2 ∨ i = 3 ∨ i = 4 ∨ i = 5 ∨ i = 6 ∨ i = 7 ∨ i = 8 ∨ i = 9 ∨ i = 10 ∨ i = 11) with rfl | rfl | rfl | rfl | rfl | rfl | rfl | rfl | rfl | rfl | rfl | rfl <;> rfl)

theorem row_two {w : World} {b : Nat} {T : TypeId} {l m : List Arc3} {f t : Nat} {u v : Int} (h : w.rowIs b T 12 (fun j => .int .i64 (od l j - idg l j)))
    (hO : ∀ x, od m x = od l x + one (x = (f : Int))) (hI : ∀ x, idg m x = idg l x + one (x = (t : Int))) (hu : od l f - idg l f = u) (hv : od l t - idg l t = v) (hne : f ≠ t) :
    ((w.setCell ⟨b, f, none⟩ (.int .i64 (u + 1))).setCell ⟨b, t, none⟩ (.int .i64 (v - 1))).rowIs b T 12 (fun j => .int .i64 (od m j - idg m j)) := by
  refine ((h.set f _).set t _).congr fun j hj => ?_
  have e3 := hO j
  have e4 := hI j
  by_cases e1 : j = t
  · rw [if_pos e1]
    subst e1
    rw [one_no (by omega)] at e3
    rw [one_yes rfl] at e4
    congr 1; omega
  · rw [if_neg e1]
    rw [one_no (by omega)] at e4
    by_cases e2 : j = f
    · rw [if_pos e2]
      subst e2
      rw [one_yes rfl] at e3
      congr 1; omega
    · rw [if_neg e2]
      rw [one_no (by omega)] at e3
      congr 1; omega

theorem row_one {w : World} {b : Nat} {T : TypeId} {l m : List Arc3} {f : Nat} {u x : Int} (h : w.rowIs b T 12 (fun j => .int .i64 (od l j - idg l j)))
    (hO : ∀ x, od m x = od l x + one (x = (f : Int))) (hI : ∀ x, idg m x = idg l x + one (x = (f : Int))) (hu : od l f - idg l f = u) :
    ((w.setCell ⟨b, f, none⟩ (.int .i64 x)).setCell ⟨b, f, none⟩ (.int .i64 u)).rowIs b T 12 (fun j => .int .i64 (od m j - idg m j)) := by
  refine ((h.set f _).set f _).congr fun j hj => ?_
  have e3 := hO j
  have e4 := hI j
  by_cases e2 : j = f
  · rw [if_pos e2]
    subst e2
    congr 1; omega
  · rw [if_neg e2, if_neg e2]
    congr 1; omega

/-- the part in which the arcs that came lie: -1 ahead of the first -/
def firstOf (F : List Int) (l : List Arc3) (k : Nat) : Int := if k = 0 then -1 else ati F (at3 l 0).1.toNat

set_option maxHeartbeats 4000000 in
set_option maxRecDepth 100000 in
theorem RoundOf_any (N : Nat) (ao : Option Addr) (cap : Nat) (l : List Arc3) (w : World) (hA : ArcsAt w ao l) (hn : ao = none → l.length = 0 ∧ cap = 0) (hlen : l.length ≤ 60) (h1 : 1 ≤ N) (h12 : N ≤ 12)
    (hl : ∀ a ∈ l, (0 ≤ a.1 ∧ a.1 < (N : Int)) ∧ (0 ≤ a.2.1 ∧ a.2.1 < (N : Int))) :
    Calls Try.prog 10 #[.agg #[.int .i64 (N : Int), .slice ao l.length cap]] w fun e w' => Below w.heap.size w w' ∧ ∃ k, e = .returned (.int .i64 k) ∧ CanIs l k := by
  obtain ⟨F, hF⟩ := parts_there N l
  have HF : Hid (PartsIs N l F) := hF
  have HL : Hid (∀ a ∈ l, (0 ≤ a.1 ∧ a.1 < (N : Int)) ∧ (0 ≤ a.2.1 ∧ a.2.1 < (N : Int))) := hl
  have hFl := hF.len
  obtain ⟨W, hW⟩ : ∃ W : World, W = (w.alloc (.cells #[.int .i64 (N : Int), .slice ao l.length cap] 24)).alloc (.cells #[.int .i64 0, .int .i64 0, .int .i64 0, .int .i64 0, .int .i64 0, .int .i64 0, .int .i64 0, .int .i64 0, .int .i64 0, .int .i64 0, .int .i64 0, .int .i64 0] 48) := ⟨_, rfl⟩
  have hWz : W.heap.size = w.heap.size + 2 := by rw [hW]; simp
  have hA0 : ArcsAt W ao l := by rw [hW]; exact (hA.alloc _).alloc _
  have x0 : W.heap[w.heap.size]? = some (.cells #[.int .i64 (N : Int), .slice ao l.length cap] 24 (0, 0)) := by rw [hW]; exact blk_old (blk_new _ _) _
  have z0 : W.rowIs (w.heap.size + 1) 48 12 (fun _ => .int .i64 0) := by
    have := zero12 (w.alloc (.cells #[.int .i64 (N : Int), .slice ao l.length cap] 24)) 48
    rw [World.size_alloc] at this; rw [hW]; exact this
  have hb0 : Below w.heap.size w W := by rw [hW]; exact (below_one w _).alloc (by simp) _
  have HJ := Joined_any N ao cap l W F hF hA0 hn hlen h1 h12 hl
  rw [hWz] at HJ
  have hHJ : Hid (Calls Try.prog 22 #[.agg #[.int .i64 (N : Int), .slice ao l.length cap]] W fun e w' => Below (w.heap.size + 2) W w' ∧
      ∃ ao' cap', e = .returned (.slice ao' N cap') ∧ IntsAt w' ao' F ∧ (∀ b off, ao' = some ⟨b, off, none⟩ → w.heap.size + 2 ≤ b)) := HJ
  have HAw : Hid (ArcsAt w ao l) := hA
  have HLo : Hid (∀ v, v < N → 0 ≤ ati F v) := fun v hv => (hF.le hv).1
  clear hF hl hn hA HJ
  go_enter Try.func10, Try.ntmps10
  go_wp2_with fail
  rw [← hW]
  refine Calls.mono hHJ.out ?_
  rintro e w1 ⟨hb1, aF, cF, rfl, hI, hAF⟩
  have hz1 := hb1.size
  rw [hWz] at hz1
  have x1 := blk_below hb1 x0 (by omega)
  have hA1 := hA0.below hb1 (by omega)
  have HZ1 : Hid (w1.rowIs (w.heap.size + 1) 48 12 (fun _ => .int .i64 0)) := z0.of_block (hb1.block _ (by omega))
  have hbb1 : Below w.heap.size w w1 := hb0.trans (hb1.mono (by omega))
  have HX1 : Hid (w1.heap[w.heap.size]? = some (.cells #[.int .i64 (N : Int), .slice ao l.length cap] 24 (0, 0))) := x1
  have HA1 : Hid (ArcsAt w1 ao l) := hA1
  have HI1 : Hid (IntsAt w1 aF F) := hI
  have hw1 : w.heap.size + 1 < w1.heap.size := by omega
  have hw1' : w.heap.size < w1.heap.size := by omega
  have HAF : Hid (∀ b off, aF = some ⟨b, off, none⟩ → w.heap.size + 2 ≤ b) := hAF
  obtain ⟨r0, r1, f0, f1⟩ := blk2 x1
  have HBB1 : Hid (Below w.heap.size w w1) := hbb1
  clear hb1 x0 x1 hA0 hA1 z0 hb0 hI hW hWz hHJ hAF hbb1
  go_wp2
  go_loopw [5, 14] (fun fi i wr => ∃ k : Nat, k ≤ l.length ∧ i = .int .i64 k ∧ fi = .int .i64 (firstOf F l k) ∧ Hid (∀ j, j < k → ati F (at3 l j).1.toNat = ati F (at3 l 0).1.toNat) ∧
      wr.rowIs (w.heap.size + 1) 48 12 (fun j => .int .i64 (od (l.take k) j - idg (l.take k) j)) ∧ IntsAt wr aF F ∧ Below w.heap.size w wr ∧ w1.heap.size ≤ wr.heap.size) (fun _ i _ => l.length - (intOf i).toNat)
  case atStart => exact ⟨0, Nat.zero_le _, rfl, rfl, fun j hj => absurd hj (Nat.not_lt_zero _), HZ1.out.congr fun j hj => by simp [od, idg], HI1.out, HBB1.out, Nat.le_refl _⟩
  case round =>
    obtain ⟨k, hk, rfl, rfl, hyes, hrow, hI, hB, hzz⟩ := hrel
    clear HZ1 HI1 HBB1 r0 r1 f0 f1 HX1 HA1
    have hz := hB.size
    by_cases hlt : k < l.length
    · obtain ⟨ba, off, rfl, hba, c0, c1, c2⟩ := HAw.out k hlt
      have c0 := later hB c0 hba
      have c1 := later hB c1 hba
      have c2 := later hB c2 hba
      have hbz : ba < wr.heap.size := by omega
      have hdz : w.heap.size + 1 < wr.heap.size := by omega
      obtain ⟨⟨p1, p2⟩, p3, p4⟩ := HL.out _ (at3_mem l k hlt)
      have HOt : Hid (∀ v, od (l.take (k + 1)) v = od (l.take k) v + one (v = (at3 l k).1)) := od_take hlt
      have HIt : Hid (∀ v, idg (l.take (k + 1)) v = idg (l.take k) v + one (v = (at3 l k).2.1)) := idg_take hlt
      have HNext : Hid (ati F (at3 l k).1.toNat = ati F (at3 l 0).1.toNat → ∀ j, j < k + 1 → ati F (at3 l j).1.toNat = ati F (at3 l 0).1.toNat) := fun h j hj => by
        by_cases ej : j = k
        · subst ej; exact h
        · exact hyes.out j (by omega)
      have HNo : Hid (ati F (at3 l k).1.toNat ≠ ati F (at3 l 0).1.toNat → ¬ Conn l) := fun h => conn_no HF.out HL.out hlt h
      have HFst : Hid (firstOf F l (k + 1) = ati F (at3 l 0).1.toNat) := by rw [Hid, firstOf, if_neg (by omega)]
      have hcase : (k = 0 ∧ firstOf F l k = -1) ∨ (0 < k ∧ firstOf F l k = ati F (at3 l 0).1.toNat) := by
        by_cases e : k = 0
        · exact Or.inl ⟨e, by rw [firstOf, if_pos e]⟩
        · exact Or.inr ⟨by omega, by rw [firstOf, if_neg e]⟩
      have hbnd : ∀ v, -60 ≤ od (l.take k) v - idg (l.take k) v ∧ od (l.take k) v - idg (l.take k) v ≤ 60 := fun v => by
        have a1 := od_le (l.take k) v; have a2 := idg_le (l.take k) v; have a3 := od_nonneg (l.take k) v; have a4 := idg_nonneg (l.take k) v
        have a5 : (l.take k).length ≤ 60 := by rw [List.length_take]; omega
        omega
      have HK0 : Hid (k = 0 → at3 l k = at3 l 0) := fun e => by rw [e]
      obtain ⟨a, ha⟩ : ∃ a, at3 l k = a := ⟨_, rfl⟩
      rw [ha] at c0 c1 c2 p1 p2 p3 p4 HOt HIt HNext HNo HK0
      obtain ⟨f, t, c⟩ := a
      simp only at c0 c1 c2 p1 p2 p3 p4 HOt HIt HNext HNo
      obtain ⟨f, rfl⟩ := Int.eq_ofNat_of_zero_le p1
      obtain ⟨t, rfl⟩ := Int.eq_ofNat_of_zero_le p3
      rw [Int.toNat_natCast] at HNext HNo
      have hf : f < N := by omega
      have ht : t < N := by omega
      have hf12 : f < 12 := by omega
      have ht12 : t < 12 := by omega
      have q0 := hrow.cell (i := f) hf12
      have q1 := hrow.frozen f
      have q2 := hrow.cell (i := t) ht12
      have q3 := hrow.frozen t
      obtain ⟨bF, oF, rfl, hbF, q4⟩ := hI f (by rw [hFl]; exact hf)
      have hbF2 := HAF.out bF oF rfl
      have hFne : bF ≠ w.heap.size + 1 := by omega
      have hF0 := HLo.out f hf
      obtain ⟨z, ez⟩ : ∃ z, ati F (at3 l 0).1.toNat = z := ⟨_, rfl⟩
      have HEZ : Hid (ati F (at3 l 0).1.toNat = z) := ez
      rw [ez] at HNext HNo HFst hcase
      obtain ⟨y, ey⟩ : ∃ y, ati F f = y := ⟨_, rfl⟩
      rw [ey] at q4 hF0 HNext HNo
      have HYZ : Hid (k = 0 → y = z) := fun e => by
        have h0 := HK0.out e
        rw [← h0] at ez; simp only [Int.toNat_natCast] at ez; omega
      have HZ0 : Hid (0 < k → 0 ≤ z) := fun e => by
        have := (HL.out _ (at3_mem l 0 (by omega))).1
        have := HLo.out (at3 l 0).1.toNat (by omega)
        omega
      have HR : Hid (wr.rowIs (w.heap.size + 1) 48 12 (fun j => .int .i64 (od (l.take k) j - idg (l.take k) j))) := hrow
      have HI : Hid (IntsAt wr (some ⟨bF, oF, none⟩) F) := hI
      have HB : Hid (Below w.heap.size w wr) := hB
      have bf := hbnd f
      have bt := hbnd t
      obtain ⟨u, eu⟩ : ∃ u, od (l.take k) f - idg (l.take k) f = u := ⟨_, rfl⟩
      obtain ⟨v, ev⟩ : ∃ v, od (l.take k) t - idg (l.take k) t = v := ⟨_, rfl⟩
      have HU : Hid (od (l.take k) f - idg (l.take k) f = u) := eu
      have HV : Hid (od (l.take k) t - idg (l.take k) t = v) := ev
      rw [eu] at q0 bf
      rw [ev] at q2 bt
      obtain ⟨bf1, bf2⟩ := bf
      obtain ⟨bt1, bt2⟩ := bt
      have HKl : Hid (k < l.length) := hlt
      clear hrow hI hB hyes hbnd ha ez ey eu ev
      by_cases hne : f = t
      · subst hne
        have HRow2 : Hid (((wr.setCell ⟨w.heap.size + 1, f, none⟩ (.int .i64 (u + 1))).setCell ⟨w.heap.size + 1, f, none⟩ (.int .i64 u)).rowIs (w.heap.size + 1) 48 12 (fun j => .int .i64 (od (l.take (k + 1)) j - idg (l.take (k + 1)) j))) := row_one HR.out HOt.out HIt.out HU.out
        clear q2 q3
        rcases hcase with ⟨hk0, ef⟩ | ⟨hk0, ef⟩
        · rw [ef]
          have hyz := HYZ.out hk0
          subst hyz
          have HNx : Hid (∀ j, j < k + 1 → ati F (at3 l j).1.toNat = ati F (at3 l 0).1.toNat) := fun j hj => (HNext.out rfl j hj).trans HEZ.out.symm
          have hyy : (y != y) = false := by simp
          clear ef hk0
          go_wp2
          go_roundw
          case rel => exact ⟨k + 1, HKl.out, by go_num, by rw [HFst.out], HNx, HRow2.out.alloc _, ((HI.out.setOther hFne _).setOther hFne _).alloc _, ((HB.out.setCell (by simp) _).setCell (by simp) _).alloc (by simp; omega) _, by simp; omega⟩
          case measure => simp [intOf]; omega
        · rw [ef]
          have hz0 := HZ0.out hk0
          have hz0' : ¬ z < 0 := by omega
          by_cases hyz : y = z
          · subst hyz
            have HNx : Hid (∀ j, j < k + 1 → ati F (at3 l j).1.toNat = ati F (at3 l 0).1.toNat) := fun j hj => (HNext.out rfl j hj).trans HEZ.out.symm
            have hyy : (y != y) = false := by simp
            clear ef
            go_wp2
            go_roundw
            case rel => exact ⟨k + 1, HKl.out, by go_num, by rw [HFst.out], HNx, HRow2.out.alloc _, ((HI.out.setOther hFne _).setOther hFne _).alloc _, ((HB.out.setCell (by simp) _).setCell (by simp) _).alloc (by simp; omega) _, by simp; omega⟩
            case measure => simp [intOf]; omega
          · have hyy : (y != z) = true := by simpa using hyz
            have HC0 : Hid (CanIs l 0) := canIs_no (HNo.out hyz)
            clear ef hyz
            go_wp2
            go_ret
            exact ⟨((HB.out.setCell (by simp) _).setCell (by simp) _).alloc (by simp; omega) _, 0, rfl, HC0.out⟩
      · have HRow2 : Hid (((wr.setCell ⟨w.heap.size + 1, f, none⟩ (.int .i64 (u + 1))).setCell ⟨w.heap.size + 1, t, none⟩ (.int .i64 (v - 1))).rowIs (w.heap.size + 1) 48 12 (fun j => .int .i64 (od (l.take (k + 1)) j - idg (l.take (k + 1)) j))) := row_two HR.out HOt.out HIt.out HU.out HV.out hne
        have hne' : ¬ t = f := fun h => hne h.symm
        rcases hcase with ⟨hk0, ef⟩ | ⟨hk0, ef⟩
        · rw [ef]
          have hyz := HYZ.out hk0
          subst hyz
          have HNx : Hid (∀ j, j < k + 1 → ati F (at3 l j).1.toNat = ati F (at3 l 0).1.toNat) := fun j hj => (HNext.out rfl j hj).trans HEZ.out.symm
          have hyy : (y != y) = false := by simp
          clear ef hk0
          go_wp2
          go_roundw
          case rel => exact ⟨k + 1, HKl.out, by go_num, by rw [HFst.out], HNx, HRow2.out.alloc _, ((HI.out.setOther hFne _).setOther hFne _).alloc _, ((HB.out.setCell (by simp) _).setCell (by simp) _).alloc (by simp; omega) _, by simp; omega⟩
          case measure => simp [intOf]; omega
        · rw [ef]
          have hz0 := HZ0.out hk0
          have hz0' : ¬ z < 0 := by omega
          by_cases hyz : y = z
          · subst hyz
            have HNx : Hid (∀ j, j < k + 1 → ati F (at3 l j).1.toNat = ati F (at3 l 0).1.toNat) := fun j hj => (HNext.out rfl j hj).trans HEZ.out.symm
            have hyy : (y != y) = false := by simp
            clear ef
            go_wp2
            go_roundw
            case rel => exact ⟨k + 1, HKl.out, by go_num, by rw [HFst.out], HNx, HRow2.out.alloc _, ((HI.out.setOther hFne _).setOther hFne _).alloc _, ((HB.out.setCell (by simp) _).setCell (by simp) _).alloc (by simp; omega) _, by simp; omega⟩
            case measure => simp [intOf]; omega
          · have hyy : (y != z) = true := by simpa using hyz
            have HC0 : Hid (CanIs l 0) := canIs_no (HNo.out hyz)
            clear ef hyz
            go_wp2
            go_ret
            exact ⟨((HB.out.setCell (by simp) _).setCell (by simp) _).alloc (by simp; omega) _, 0, rfl, HC0.out⟩
    · have hkk : k = l.length := by omega
      subst hkk
      have HC : Hid (Conn l) := conn_of HF.out HL.out hyes.out
      rw [List.take_length] at hrow
      have hID : IntsAt wr (some ⟨w.heap.size + 1, 0, none⟩) (diffs l) := row_ints hrow
      have hcl := cloneInts (some ⟨w.heap.size + 1, 0, none⟩) 12 (diffs l) wr hID (fun h => by cases h) (by rw [diffs_length]; omega)
      rw [diffs_length] at hcl
      have hdz : w.heap.size + 1 < wr.heap.size := by omega
      have HB : Hid (Below w.heap.size w wr) := hB
      have HM := round_math (l := l) (fun a ha => by have := HL.out a ha; omega) HC.out (ati (sorted (diffs l))) rfl
      have HMM : Hid ((ati (sorted (diffs l)) 0 = 0 ∧ ati (sorted (diffs l)) 11 = 0 → CanIs l 2) ∧ (ati (sorted (diffs l)) 0 = -1 ∧ ati (sorted (diffs l)) 11 = 1 ∧ ati (sorted (diffs l)) 1 = 0 ∧ ati (sorted (diffs l)) 10 = 0 → CanIs l 1) ∧
          (¬ (ati (sorted (diffs l)) 0 = 0 ∧ ati (sorted (diffs l)) 11 = 0) → ¬ (ati (sorted (diffs l)) 0 = -1 ∧ ati (sorted (diffs l)) 11 = 1 ∧ ati (sorted (diffs l)) 1 = 0 ∧ ati (sorted (diffs l)) 10 = 0) → CanIs l 0)) := HM
      clear hyes hrow hI hB hID HM
      go_wp2_with fail
      refine hcl.mono ?_
      clear hcl
      rintro e w2 ⟨hb2, v2, rfl, hown⟩
      have hz2 := hb2.size
      have hst := sortInts wr.heap.size v2 (diffs l) w2 (by rw [diffs_length]; exact hown) hz2 (by rw [diffs_length]; omega)
      obtain ⟨ao2, cap2, rfl⟩ := owns_form hown
      clear hown
      go_wp2_with fail
      refine hst.mono ?_
      clear hst
      rintro e w3 ⟨rfl, hb3, hown⟩
      have hz3 := hb3.size
      have HB3 : Hid (Below w.heap.size w w3) := HB.out.trans ((hb2.trans hb3).mono hz)
      have hSl : (sorted (diffs l)).length = 12 := by rw [sorted_length, diffs_length]
      obtain ⟨ao3, cap3, ev, hI3, _, _, _⟩ := owns_ints (l := sorted (diffs l)) hown
      rw [hSl] at ev
      cases ev
      obtain ⟨g, off, rfl, hg, s0⟩ := hI3 0 (by omega)
      obtain ⟨_, _, e', _, s11⟩ := hI3 11 (by omega)
      cases e'
      obtain ⟨_, _, e', _, s1⟩ := hI3 1 (by omega)
      cases e'
      obtain ⟨_, _, e', _, s10⟩ := hI3 10 (by omega)
      cases e'
      rw [Nat.add_zero] at s0
      generalize ati (sorted (diffs l)) 0 = v0 at *
      generalize ati (sorted (diffs l)) 11 = v11 at *
      generalize ati (sorted (diffs l)) 1 = v1 at *
      generalize ati (sorted (diffs l)) 10 = v10 at *
      clear hI3 hown hb2 hb3 HB
      by_cases a0 : v0 = 0
      · subst a0
        by_cases a11 : v11 = 0
        · subst a11
          have HK : Hid (CanIs l 2) := HMM.out.1 ⟨rfl, rfl⟩
          go_wp2
          go_ret
          exact ⟨HB3.out, 2, rfl, HK.out⟩
        · have HK : Hid (CanIs l 0) := HMM.out.2.2 (fun h => a11 h.2) (fun h => by have := h.1; omega)
          have b1 : (v11 == 0) = false := by simpa using a11
          clear a11
          go_wp2
          go_ret
          exact ⟨HB3.out, 0, rfl, HK.out⟩
      · have b0 : (v0 == 0) = false := by simpa using a0
        by_cases c0 : v0 = -1
        · subst c0
          clear a0
          by_cases c11 : v11 = 1
          · subst c11
            by_cases c1 : v1 = 0
            · subst c1
              by_cases c10 : v10 = 0
              · subst c10
                have HK : Hid (CanIs l 1) := HMM.out.2.1 ⟨rfl, rfl, rfl, rfl⟩
                go_wp2
                go_ret
                exact ⟨HB3.out, 1, rfl, HK.out⟩
              · have HK : Hid (CanIs l 0) := HMM.out.2.2 (fun h => by have := h.1; omega) (fun h => c10 h.2.2.2)
                have b1 : (v10 == 0) = false := by simpa using c10
                clear c10
                go_wp2
                go_ret
                exact ⟨HB3.out, 0, rfl, HK.out⟩
            · have HK : Hid (CanIs l 0) := HMM.out.2.2 (fun h => by have := h.1; omega) (fun h => c1 h.2.2.1)
              have b1 : (v1 == 0) = false := by simpa using c1
              clear c1
              go_wp2
              go_ret
              exact ⟨HB3.out, 0, rfl, HK.out⟩
          · have HK : Hid (CanIs l 0) := HMM.out.2.2 (fun h => by have := h.1; omega) (fun h => c11 h.2.1)
            have b1 : (v11 == 1) = false := by simpa using c11
            clear c11
            go_wp2
            go_ret
            exact ⟨HB3.out, 0, rfl, HK.out⟩
        · have HK : Hid (CanIs l 0) := HMM.out.2.2 (fun h => a0 h.1) (fun h => c0 h.1)
          have b1 : (v0 == -1) = false := by simpa using c0
          clear c0 a0
          go_wp2
          go_ret
          exact ⟨HB3.out, 0, rfl, HK.out⟩

end Go.Proofs.Ytkcjemhbenkglaa
