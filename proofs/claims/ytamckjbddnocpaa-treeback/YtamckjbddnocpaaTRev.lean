/- Contract of slices.Reverse over arcs in a row of their own. -/
import Derived.Test.YtamckjbddnocpaaMk
import Derived.BigRegion
namespace Go.Proofs.Ytamckjbddnocpaa
open Go.RowKit
set_option linter.unusedVariables false

/-- a cell of the arcs that a function tells -/
def fcell (A : Nat → Arc3) (j : Nat) : Value := .int .i64 (if j % 3 = 0 then (A (j / 3)).1 else if j % 3 = 1 then (A (j / 3)).2.1 else (A (j / 3)).2.2)

theorem fcell0 (A : Nat → Arc3) (p : Nat) : fcell A (p * 3) = .int .i64 (A p).1 := by
  unfold fcell; rw [show p * 3 % 3 = 0 by omega, show p * 3 / 3 = p by omega]; rfl
theorem fcell1 (A : Nat → Arc3) (p : Nat) : fcell A (p * 3 + 1) = .int .i64 (A p).2.1 := by
  unfold fcell; rw [show (p * 3 + 1) % 3 = 1 by omega, show (p * 3 + 1) / 3 = p by omega]; rfl
theorem fcell2 (A : Nat → Arc3) (p : Nat) : fcell A (p * 3 + 2) = .int .i64 (A p).2.2 := by
  unfold fcell; rw [show (p * 3 + 2) % 3 = 2 by omega, show (p * 3 + 2) / 3 = p by omega]; rfl

theorem fcell_set {w : World} {b : Nat} {t : TypeId} {n : Nat} {A : Nat → Arc3} (h : w.rowIs b t (n * 3) (fcell A)) (p : Nat) (f g c : Int) :
    (((w.setCell ⟨b, p * 3, none⟩ (.int .i64 f)).setCell ⟨b, p * 3 + 1, none⟩ (.int .i64 g)).setCell ⟨b, p * 3 + 2, none⟩ (.int .i64 c)).rowIs b t (n * 3) (fcell (fun q => if q = p then (f, g, c) else A q)) := by
  refine (((h.set _ _).set _ _).set _ _).congr fun j hj => ?_
  by_cases e2 : j = p * 3 + 2
  · subst e2; rw [fcell2 (fun q => if q = p then (f, g, c) else A q)]; simp
  · by_cases e1 : j = p * 3 + 1
    · subst e1; rw [fcell1 (fun q => if q = p then (f, g, c) else A q)]; simp
    · by_cases e0 : j = p * 3
      · subst e0; rw [fcell0 (fun q => if q = p then (f, g, c) else A q)]; simp
      · simp only [e2, e1, e0, if_false]
        unfold fcell
        have : ¬ j / 3 = p := by omega
        simp only [this, if_false]

theorem fcell_arcs {w : World} {b : Nat} {t : TypeId} {L : List Arc3} {A : Nat → Arc3} (h : w.rowIs b t (L.length * 3) (fcell A)) (hA : ∀ p, p < L.length → A p = at3 L p) : ArcsAt w (some ⟨b, 0, none⟩) L := by
  intro i hi
  have e := hA i hi
  refine ⟨b, 0, rfl, h.lt, ?_, ?_, ?_⟩
  · rw [Nat.zero_add, h.cell (by omega), fcell0, e]
  · rw [Nat.zero_add, h.cell (by omega), fcell1, e]
  · rw [Nat.zero_add, h.cell (by omega), fcell2, e]

/-- turned round from both ends, k steps -/
def revA (L : List Arc3) (k p : Nat) : Arc3 := if p < k ∨ L.length - k ≤ p then at3 L (L.length - 1 - p) else at3 L p

theorem revA_zero (L : List Arc3) {p : Nat} (hp : p < L.length) : revA L 0 p = at3 L p := by unfold revA; rw [if_neg (by omega)]

theorem revA_step (L : List Arc3) {k m : Nat} (hm : k + m + 1 = L.length) (hkm : k < m) {p : Nat} (hp : p < L.length) : revA L (k + 1) p = if p = m then at3 L k else if p = k then at3 L m else revA L k p := by
  unfold revA
  by_cases e1 : p = m
  · subst e1; rw [if_pos (by omega), if_pos rfl, show L.length - 1 - p = k by omega]
  · rw [if_neg e1]
    by_cases e2 : p = k
    · subst e2; rw [if_pos (by omega), if_pos rfl, show L.length - 1 - p = m by omega]
    · rw [if_neg e2]
      by_cases e3 : p < k ∨ L.length - k ≤ p
      · rw [if_pos e3, if_pos (by omega)]
      · rw [if_neg e3, if_neg (by omega)]

theorem at3_rev (L : List Arc3) {p : Nat} (hp : p < L.length) : at3 L.reverse p = at3 L (L.length - 1 - p) := by
  rw [at3_lt _ _ (by simpa using hp), at3_lt _ _ (by omega), List.getElem_reverse]

theorem revA_end (L : List Arc3) {k p : Nat} (hk : L.length ≤ 2 * k + 1) (hp : p < L.length) : revA L k p = at3 L.reverse p := by
  rw [at3_rev L hp]
  unfold revA
  by_cases e : p < k ∨ L.length - k ≤ p
  · rw [if_pos e]
  · rw [if_neg e]
    congr 1
    omega

theorem six_heap (w : World) {b p : Nat} (hne : p ≠ b) (o1 o2 o3 o4 o5 o6 : Nat) (v1 v2 v3 v4 v5 v6 : Value) :
    ((((((w.setCell ⟨b, o1, none⟩ v1).setCell ⟨b, o2, none⟩ v2).setCell ⟨b, o3, none⟩ v3).setCell ⟨b, o4, none⟩ v4).setCell ⟨b, o5, none⟩ v5).setCell ⟨b, o6, none⟩ v6).drew.heap[p]? = w.heap[p]? := by
  have e : ∀ x : World, x.drew.heap = x.heap := fun _ => rfl
  rw [e, Below.heap_setCell _ _ _ _ hne, Below.heap_setCell _ _ _ _ hne, Below.heap_setCell _ _ _ _ hne, Below.heap_setCell _ _ _ _ hne, Below.heap_setCell _ _ _ _ hne, Below.heap_setCell _ _ _ _ hne]
theorem six_size (w : World) (a1 a2 a3 a4 a5 a6 : Addr) (v1 v2 v3 v4 v5 v6 : Value) :
    ((((((w.setCell a1 v1).setCell a2 v2).setCell a3 v3).setCell a4 v4).setCell a5 v5).setCell a6 v6).drew.heap.size = w.heap.size := by
  have e : ∀ x : World, x.drew.heap = x.heap := fun _ => rfl
  rw [e]; simp

set_option maxRecDepth 10000 in
set_option maxHeartbeats 1000000 in
theorem reverse_arcs (b : Nat) (L : List Arc3) (w : World) (h1 : 1 ≤ L.length) (h60 : L.length ≤ 60) (hr : w.rowIs b 39 (L.length * 3) (fcell (at3 L))) :
    Calls Try.prog 21 #[.slice (some ⟨b, 0, none⟩) L.length L.length] w fun e w' => (∀ p, p < w.heap.size → p ≠ b → w'.heap[p]? = w.heap[p]?) ∧ Below b w w' ∧
      e = .returned (.tuple #[]) ∧ w'.rowIs b 39 (L.length * 3) (fcell (at3 L.reverse)) := by
  have HR : Hid (w.rowIs b 39 (L.length * 3) (fcell (revA L 0))) := hr.congr fun j hj => by
    unfold fcell; rw [revA_zero L (by omega)]
  clear hr
  go_enter Try.func21, Try.ntmps21
  go_wp2
  go_loopw [2, 3] (fun i j wr => ∃ (k : Nat) (jv : Int), 2 * k ≤ L.length + 1 ∧ i = .int .i64 k ∧ j = .int .i64 jv ∧ Hid (jv = (L.length : Int) - 1 - k) ∧ Hid (wr.rowIs b 39 (L.length * 3) (fcell (revA L k))) ∧
    Hid (∀ p, p < w.heap.size → p ≠ b → wr.heap[p]? = w.heap[p]?) ∧ Hid (Below b w wr)) (fun i _ _ => L.length - (intOf i).toNat)
  case atStart => exact ⟨0, _, by omega, rfl, rfl, by simp [Hid], HR, fun p _ _ => rfl, Below.refl _ _⟩
  case round =>
    obtain ⟨k, jv, hk, rfl, rfl, HJ, HRk, HB, HBl⟩ := hrel
    by_cases hlt : (k : Int) < jv
    · obtain ⟨m, rfl⟩ := Int.eq_ofNat_of_zero_le (show 0 ≤ jv by omega)
      have hjm := HJ.out
      have hm : k + m + 1 = L.length := by omega
      have hkm : k < m := by omega
      have hmk : m ≠ k := by omega
      have HM : Hid (k + m + 1 = L.length) := hm
      have hml : m < L.length := by omega
      have hkl : k < L.length := by omega
      have ek : revA L k k = at3 L k := by unfold revA; rw [if_neg (by omega)]
      have em : revA L k m = at3 L m := by unfold revA; rw [if_neg (by omega)]
      have a0 := HRk.out.cell (i := k * 3) (by omega)
      have a1 := HRk.out.cell (i := k * 3 + 1) (by omega)
      have a2 := HRk.out.cell (i := k * 3 + 2) (by omega)
      have m0 := HRk.out.cell (i := m * 3) (by omega)
      have m1 := HRk.out.cell (i := m * 3 + 1) (by omega)
      have m2 := HRk.out.cell (i := m * 3 + 2) (by omega)
      have fa0 := HRk.out.frozen (k * 3)
      have fa1 := HRk.out.frozen (k * 3 + 1)
      have fa2 := HRk.out.frozen (k * 3 + 2)
      have fm0 := HRk.out.frozen (m * 3)
      have fm1 := HRk.out.frozen (m * 3 + 1)
      have fm2 := HRk.out.frozen (m * 3 + 2)
      have hbz := HRk.out.lt
      rw [fcell0, ek] at a0
      rw [fcell1, ek] at a1
      rw [fcell2, ek] at a2
      rw [fcell0, em] at m0
      rw [fcell1, em] at m1
      rw [fcell2, em] at m2
      have HS : Hid (∀ p, p < L.length → revA L (k + 1) p = if p = m then at3 L k else if p = k then at3 L m else revA L k p) := fun p hp => revA_step L hm hkm hp
      clear hjm hm ek em HR
      generalize at3 L k = ka at *
      generalize at3 L m = ma at *
      obtain ⟨kf, kt, kc⟩ := ka
      obtain ⟨mf, mt, mc⟩ := ma
      simp only at a0 a1 a2 m0 m1 m2
      have HN : Hid (((((((wr.setCell ⟨b, k * 3, none⟩ (.int .i64 mf)).setCell ⟨b, k * 3 + 1, none⟩ (.int .i64 mt)).setCell ⟨b, k * 3 + 2, none⟩ (.int .i64 mc)).setCell ⟨b, m * 3, none⟩ (.int .i64 kf)).setCell ⟨b, m * 3 + 1, none⟩ (.int .i64 kt)).setCell ⟨b, m * 3 + 2, none⟩ (.int .i64 kc)).drew.rowIs b 39 (L.length * 3) (fcell (revA L (k + 1)))) := by
        have h := (fcell_set (fcell_set HRk.out k mf mt mc) m kf kt kc).drew
        exact h.congr fun j hj => by unfold fcell; rw [HS.out _ (by omega)]
      go_wp2_with fail
      go_region
      go_wp2_with fail
      go_roundw
      case rel => exact ⟨k + 1, (m : Int) - 1, by have := HM.out; omega, by go_num, by go_num, by have := HM.out; unfold Hid; omega, HN, fun p hp hne => (six_heap wr hne _ _ _ _ _ _ _ _ _ _ _ _).trans (HB.out p hp hne), (((((((HBl.out.setCell (Nat.le_refl _) _).setCell (Nat.le_refl _) _).setCell (Nat.le_refl _) _).setCell (Nat.le_refl _) _).setCell (Nat.le_refl _) _).setCell (Nat.le_refl _) _).drew)⟩
      case measure => simp [intOf]; have := HM.out; omega
    · have hend : L.length ≤ 2 * k + 1 := by have := HJ.out; omega
      have HE : Hid (wr.rowIs b 39 (L.length * 3) (fcell (at3 L.reverse))) := HRk.out.congr fun j hj => by
        unfold fcell; rw [revA_end L hend (by omega)]
      clear hend
      go_wp2
      go_end0
      exact ⟨HB.out, HBl.out, rfl, HE.out⟩

end Go.Proofs.Ytamckjbddnocpaa
