/- Contract of the document's own DetOf: a determinant by its first row. -/
import Derived.Test.YtamckjbddnocpaaTExp
import Derived.Test.YtamckjbddnocpaaDCat
import Derived.Test.YtamckjbddnocpaaMat
import Derived.Test.YtamckjbddnocpaaAppJoin
namespace Go.Proofs.Ytamckjbddnocpaa
open Go.RowKit
set_option linter.unusedVariables false

/-- a row without number k -/
def skipL (r : List Int) (k : Nat) : List Int := r.take k ++ r.drop (k + 1)
theorem skipL_len {r : List Int} {k : Nat} (h : k < r.length) : (skipL r k).length = r.length - 1 := by
  unfold skipL; rw [List.length_append, List.length_take, List.length_drop]; omega
theorem skipL_at {r : List Int} {k j : Nat} (h : k < r.length) (hj : j < r.length - 1) : ati (skipL r k) j = ati r (skip k j) := by
  rw [ati_lt _ _ (by rw [skipL_len h]; exact hj)]
  unfold skip skipL
  by_cases e : j < k
  · rw [if_pos e, List.getElem_append_left (by rw [List.length_take]; omega), ati_lt _ _ (by omega)]
    simp
  · rw [if_neg e, List.getElem_append_right (by rw [List.length_take]; omega), ati_lt _ _ (by omega)]
    simp only [List.getElem_drop, List.length_take]
    congr 1
    omega

/-- what the inner loop keeps: the rows made so far -/
structure RestK (w : World) (ao : Option Addr) (j cap : Nat) (R : List RowV) (x : World) : Prop where
  bel : Below w.heap.size w x
  own : x.ownsRow w.heap.size 26 1 (.slice ao j cap) j (R.map RowV.val)
  rows : ∀ i, i < j → x.ownsRow w.heap.size 3 1 (atr R i).val (atr R i).l.length (flati (atr R i).l)

theorem RestK.step {w x y : World} {ao : Option Addr} {j cap : Nat} {R : List RowV} (h : RestK w ao j cap R x) (k : Below x.heap.size x y) : RestK w ao j cap R y :=
  ⟨below_tr h.bel k, owns_below h.own k (Nat.le_refl _), fun i hi => owns_below (h.rows i hi) k (Nat.le_refl _)⟩
theorem RestK.alloc {w x : World} {ao : Option Addr} {j cap : Nat} {R : List RowV} (h : RestK w ao j cap R x) (o : Obj) : RestK w ao j cap R (x.alloc o) := h.step (below_one x o)
theorem RestK.drew {w x : World} {ao : Option Addr} {j cap : Nat} {R : List RowV} (h : RestK w ao j cap R x) : RestK w ao j cap R x.drew := h.step (Below.refl _ x).drew

theorem owns_keeps {w w' : World} {B n s : Nat} {t : TypeId} {v : Value} {xs : List Value} (h : w.ownsRow B t s v n xs) {e : TypeId} (ht : e ≠ t)
    (k : ∀ (p : Nat) (c : Array Value) (t' : TypeId) (fr : Nat × Nat), e ≠ t' → w.heap[p]? = some (.cells c t' fr) → w'.heap[p]? = some (.cells c t' fr)) : w'.ownsRow B t s v n xs := by
  refine ⟨h.1, h.2.imp id fun ⟨g, cap, cur, hv, hg, hh, r⟩ => ⟨g, cap, cur, hv, hg, k _ _ _ _ ht hh, r⟩⟩

theorem RestK.more {w x y : World} {ao ao' : Option Addr} {j cap cap' : Nat} {R : List RowV} (h : RestK w ao j cap R x) (hR : R.length = j) {r : RowV} (hr : x.ownsRow w.heap.size 3 1 r.val r.l.length (flati r.l))
    (hy : Below w.heap.size w y) (hown : y.ownsRow w.heap.size 26 1 (.slice ao' (j + 1) cap') (j + 1) (R.map RowV.val ++ [r.val]))
    (k : ∀ (p : Nat) (c : Array Value) (t' : TypeId) (fr : Nat × Nat), 26 ≠ t' → x.heap[p]? = some (.cells c t' fr) → y.heap[p]? = some (.cells c t' fr)) : RestK w ao' (j + 1) cap' (R ++ [r]) y := by
  refine ⟨hy, by rw [List.map_append]; exact hown, fun i hi => ?_⟩
  by_cases e : i < j
  · have : atr (R ++ [r]) i = atr R i := by
      rw [atr_lt _ _ (by rw [List.length_append]; omega), atr_lt _ _ (by omega), List.getElem_append_left]
    rw [this]
    exact owns_keeps (h.rows i e) (by decide) k
  · have : atr (R ++ [r]) i = r := by
      rw [atr_lt _ _ (by rw [List.length_append]; simp; omega), List.getElem_append_right (by omega)]
      simp [show i - R.length = 0 by omega]
    rw [this]
    exact owns_keeps hr (by decide) k

theorem owns_at {w : World} {B : Nat} {r : RowV} (h : w.ownsRow B 3 1 r.val r.l.length (flati r.l)) : r.At w := by
  obtain ⟨ao, cap, e, h1, h2, h3, h4⟩ := owns_ints h
  unfold RowV.val at e
  have e1 : r.ao = ao := by simpa using congrArg (fun v => match v with | .slice a _ _ => a | _ => none) e
  have e2 : r.cap = cap := by simpa using congrArg (fun v => match v with | .slice _ _ c => c | _ => 0) e
  subst e1 e2
  refine ⟨h1, h3, h4, fun hn => ?_⟩
  rcases h.2 with ⟨e', h0⟩ | ⟨g, c, cur, e', _⟩
  · refine ⟨h0, ?_⟩
    unfold RowV.val at e'
    simp at e'
    exact e'.2.2
  · unfold RowV.val at e'
    rw [hn] at e'
    simp at e'

theorem RestK.isIn {w x : World} {ao : Option Addr} {j cap : Nat} {R : List RowV} (h : RestK w ao j cap R x) (hR : R.length = j) : RowsIn x ao cap R := by
  have hx : ∀ i, i < j → (R.map RowV.val)[i]? = some (atr R i).val := fun i hi => by
    rw [List.getElem?_map, List.getElem?_eq_getElem (by omega), atr_lt _ _ (by omega)]; rfl
  rcases h.own.2 with ⟨e, h0⟩ | ⟨g, c, cur, e, hB, hg, hle, hcap, hcs, htk⟩
  · simp at e
    obtain ⟨rfl, _, rfl⟩ := e
    exact ⟨fun i hi => absurd hi (by omega), by omega, Nat.zero_le _, fun _ => ⟨by omega, rfl⟩⟩
  · simp at e
    obtain ⟨rfl, rfl⟩ := e
    refine ⟨fun i hi => ⟨g, 0, rfl, (Array.getElem?_eq_some_iff.1 hg).1, ?_, owns_at (h.rows i (by omega))⟩, by omega, hcap, fun e => by cases e⟩
    rw [Nat.zero_add, h.own.cellAt _ (by omega)]
    exact hx i (by omega)

/-- two slices in a block of their own -/
theorem two_rows {x : World} {r0 r1 : RowV} (h0 : r0.At x) (h1 : r1.At x) : RowsAt (x.alloc (.cells #[r0.val, r1.val] 26)) (some ⟨x.heap.size, 0, none⟩) [r0, r1] := by
  intro i hi
  refine ⟨x.heap.size, 0, rfl, by simp, ?_⟩
  have hc : ∀ i, (x.alloc (.cells #[r0.val, r1.val] 26)).cell? ⟨x.heap.size, i, none⟩ = (#[r0.val, r1.val] : Array Value)[i]? := fun i => World.cell?_alloc_at _ _ _ i rfl
  match i, hi with
  | 0, _ => exact ⟨hc 0, h0.below (below_one x _) (Nat.le_refl _)⟩
  | 1, _ => exact ⟨hc 1, h1.below (below_one x _) (Nat.le_refl _)⟩

/-- how great the sum can be on its way -/
theorem part_abs {M : Mtx} {n : Nat} (hn : n + 1 ≤ 7) (hM : ∀ i k, i < n + 1 → k < n + 1 → (M i k).natAbs ≤ 60) {p : Nat} (hp : p ≤ n + 1) :
    (sumN (fun j => sgn j * M 0 j * det n (minor M j)) p).natAbs ≤ 14108774400000000 := by
  have each : ∀ j, j < p → (sgn j * M 0 j * det n (minor M j)).natAbs ≤ 60 * big n := fun j hj => by
    rw [Int.natAbs_mul, Int.natAbs_mul, sgn_abs, Nat.one_mul]
    exact Nat.mul_le_mul (hM 0 j (by omega) (by omega)) (det_abs 60 n _ fun i k hi hk => hM _ _ (by omega) (skip_lt hk))
  refine Nat.le_trans (sumN_abs each) ?_
  refine Nat.le_trans (Nat.mul_le_mul_right _ hp) ?_
  have h3 : ∀ m, m + 1 ≤ 7 → (m + 1) * (60 * big m) ≤ 14108774400000000 := by
    intro m hm
    rcases (by omega : m = 0 ∨ m = 1 ∨ m = 2 ∨ m = 3 ∨ m = 4 ∨ m = 5 ∨ m = 6) with rfl | rfl | rfl | rfl | rfl | rfl | rfl <;> decide
  exact h3 n hn

theorem minor_abs {M : Mtx} {n : Nat} (hn : n + 1 ≤ 7) (hM : ∀ i k, i < n + 1 → k < n + 1 → (M i k).natAbs ≤ 60) (j : Nat) : (det n (minor M j)).natAbs ≤ 14108774400000000 :=
  Nat.le_trans (det_abs 60 n _ fun i k hi hk => hM _ _ (by omega) (skip_lt hk)) (big_le (by omega))

theorem cat_two {w x : World} {ao : Option Addr} {j cap : Nat} {R : List RowV} (hK : RestK w ao j cap R x) {row : List Int} {rb ro rcap q qc n k : Nat} (hin : IntsAt x (some ⟨rb, ro, none⟩) row) (hlen : row.length = n + 1) (hk : k < n + 1)
    (hle : n + 1 ≤ rcap) (hm : rcap ≤ maxLen) (hn : 0 < n) (hn7 : n ≤ 100) (hq : q = ro + (k + 1) ∨ k = n) (hqc : n - k ≤ qc ∧ qc ≤ maxLen) :
    Calls Try.prog 27 #[.slice (some ⟨x.heap.size, 0, none⟩) 2 2] (x.alloc (.cells #[.slice (some ⟨rb, ro, none⟩) k rcap, .slice (some ⟨rb, q, none⟩) (n - k) qc] 26)).drew
      fun e w7 => ∃ ra rc, e = .returned (.slice ra n rc) ∧ RestK w ao j cap R w7 ∧ w7.ownsRow w.heap.size 3 1 (.slice ra n rc) n (flati (skipL row k)) := by
  obtain ⟨r0, hr0⟩ : ∃ r0 : RowV, r0 = ⟨some ⟨rb, ro, none⟩, rcap, row.take k⟩ := ⟨_, rfl⟩
  obtain ⟨r1, hr1⟩ : ∃ r1 : RowV, r1 = ⟨some ⟨rb, q, none⟩, qc, row.drop (k + 1)⟩ := ⟨_, rfl⟩
  have l0 : (row.take k).length = k := by rw [List.length_take]; omega
  have l1 : (row.drop (k + 1)).length = n - k := by rw [List.length_drop]; omega
  have v0 : r0.val = .slice (some ⟨rb, ro, none⟩) k rcap := by rw [hr0, RowV.val, l0]
  have v1 : r1.val = .slice (some ⟨rb, q, none⟩) (n - k) qc := by rw [hr1, RowV.val, l1]
  have a0 : r0.At x := by
    rw [hr0]
    refine ⟨fun i hi => ?_, by simp only; omega, hm, fun e => by cases e⟩
    simp only at hi
    obtain ⟨b', o', e, hb, c⟩ := hin i (by omega)
    cases e
    refine ⟨rb, ro, rfl, hb, ?_⟩
    rw [c, ati_lt _ _ (by omega), ati_lt _ _ hi]
    simp
  have a1 : r1.At x := by
    rw [hr1]
    refine ⟨fun i hi => ?_, by simp only; omega, hqc.2, fun e => by cases e⟩
    simp only at hi
    have hq' : q = ro + (k + 1) := by
      rcases hq with h | h
      · exact h
      · omega
    obtain ⟨b', o', e, hb, c⟩ := hin (k + 1 + i) (by omega)
    cases e
    refine ⟨rb, q, rfl, hb, ?_⟩
    rw [hq', Nat.add_assoc, c, ati_lt _ _ (by omega), ati_lt _ _ hi]
    simp
  have hT := two_rows a0 a1
  rw [v0, v1] at hT
  have hT2 := hT.below ((Below.refl _ _).drew) (Nat.le_refl _)
  have hc : catL [r0, r1] 2 = skipL row k := by rw [hr0, hr1]; simp [catL, skipL]
  have hsl : (skipL row k).length = n := by rw [skipL_len (by omega)]; omega
  have hcall := concat_any (some ⟨x.heap.size, 0, none⟩) 2 [r0, r1] _ hT2 (fun i hi => by
    match i, hi with
    | 0, _ => exact ⟨rb, ro, by rw [hr0]; rfl⟩
    | 1, _ => exact ⟨rb, q, by rw [hr1]; rfl⟩) (by simp) (by simp only [List.length_cons, List.length_nil]; rw [hc, hsl]; exact hn) (by simp only [List.length_cons, List.length_nil]; rw [hc, hsl]; omega)
  simp only [List.length_cons, List.length_nil, Nat.zero_add] at hcall
  rw [hc, hsl] at hcall
  refine hcall.mono ?_
  rintro e w7 ⟨hb7, v, rfl, hown⟩
  obtain ⟨ra, rc, rfl⟩ := owns_form hown
  have hK2 : RestK w ao j cap R (x.alloc (.cells #[.slice (some ⟨rb, ro, none⟩) k rcap, .slice (some ⟨rb, q, none⟩) (n - k) qc] 26)).drew := (hK.alloc _).drew
  exact ⟨ra, rc, rfl, hK2.step hb7, owns_weaken hown hK2.bel.size⟩

theorem one_slice (a : Option Addr) (n c : Nat) : ∀ u ∈ [Value.slice a n c], u.oneCell' = true := by intro u hu; simp at hu; subst hu; rfl

theorem news1 {w : World} {v : Value} {t : TypeId} : ∀ j u, [v][j]? = some u → (w.alloc (.cells #[v] t)).cell? ((⟨w.heap.size, 0, none⟩ : Addr).add j) = some u := by
  intro j u hj
  match j, hj with
  | 0, hj => simp at hj; subst hj; rw [Go.WideShapes.add_plain]; exact World.cell?_alloc_at _ _ _ 0 rfl

theorem rest_more {w w7 w8 : World} {ao ao8 : Option Addr} {j cap cap8 n : Nat} {R : List RowV} (hK : RestK w ao j cap R w7) (hR : R.length = j) {ra : Option Addr} {rc : Nat} {rl : List Int} (hl : rl.length = n)
    (ho : w7.ownsRow w.heap.size 3 1 (.slice ra n rc) n (flati rl)) (o : Obj) (hb8 : Below w.heap.size w w8) (hown : w8.ownsRow w.heap.size 26 1 (.slice ao8 (j + 1) cap8) (j + 1) (R.map RowV.val ++ [.slice ra n rc]))
    (k : ∀ (p : Nat) (c : Array Value) (t' : TypeId) (fr : Nat × Nat), 26 ≠ t' → (w7.alloc o).heap[p]? = some (.cells c t' fr) → w8.heap[p]? = some (.cells c t' fr)) : RestK w ao8 (j + 1) cap8 (R ++ [⟨ra, rc, rl⟩]) w8 := by
  subst hl
  exact (hK.alloc o).more hR (r := ⟨ra, rc, rl⟩) (ho.alloc o) hb8 hown k

theorem rest_skip {l R : List RowV} {j k : Nat} {r : RowV} (hR : R.length = j) (hr : r.l = skipL (atr l (j + 1)).l k) (h : ∀ i, i < j → (atr R i).l = skipL (atr l (i + 1)).l k) : ∀ i, i < j + 1 → (atr (R ++ [r]) i).l = skipL (atr l (i + 1)).l k := by
  intro i hi
  by_cases e : i < j
  · rw [show atr (R ++ [r]) i = atr R i by rw [atr_lt _ _ (by rw [List.length_append]; omega), atr_lt _ _ (by omega), List.getElem_append_left]]
    exact h i e
  · obtain rfl : i = j := by omega
    rw [show atr (R ++ [r]) i = r by rw [atr_lt _ _ (by rw [List.length_append]; simp; omega), List.getElem_append_right (by omega)]; simp [show i - R.length = 0 by omega]]
    exact hr

set_option maxRecDepth 10000 in
set_option maxHeartbeats 1000000 in
theorem DetOf_any : ∀ (n : Nat), n ≤ 7 → ∀ (ao : Option Addr) (cap : Nat) (l : List RowV) (w : World), RowsIn w ao cap l → l.length = n → (∀ i, i < n → (atr l i).l.length = n) → (∀ i k, i < n → k < n → (mtx l i k).natAbs ≤ 60) →
    Calls Try.prog 10 #[.slice ao n cap] w fun e w' => Below w.heap.size w w' ∧ e = .returned (.int .i64 (det n (mtx l))) := by
  intro n
  induction n with
  | zero =>
    intro _ ao cap l w hR hl _ _
    rw [show det 0 (mtx l) = 1 from rfl]
    clear hR hl
    go_enter Try.func10, Try.ntmps10
    go_wp2
    go_ret
    exact ⟨Below.refl _ _, rfl⟩
  | succ n ih =>
    intro hn ao cap l w hR hl hrow hM
    have HIH : Hid (∀ (ao : Option Addr) (cap : Nat) (R : List RowV) (x : World), RowsIn x ao cap R → R.length = n → (∀ i, i < n → (atr R i).l.length = n) → (∀ i k, i < n → k < n → (mtx R i k).natAbs ≤ 60) →
      Calls Try.prog 10 #[.slice ao n cap] x fun e w' => Below x.heap.size x w' ∧ e = .returned (.int .i64 (det n (mtx R)))) := ih (by omega)
    obtain ⟨b, off, rfl, hb, c0, at0⟩ := hR.rows 0 (by omega)
    have hcap := hR.le
    have hcmax := hR.max
    unfold maxLen at hcmax
    rw [hl] at hcap
    have hl0 := hrow 0 (by omega)
    obtain ⟨rb, ro, er, hrb, _⟩ := at0.ints 0 (by omega)
    have hin0 := at0.ints
    rw [er] at hin0
    rw [RowV.val, er, hl0, Nat.add_zero] at c0
    have HIn0 : Hid (∀ k, k < n + 1 → ∀ x : World, Below w.heap.size w x → x.cell? ⟨rb, ro + k, none⟩ = some (.int .i64 (mtx l 0 k))) := fun k hk x hx => by
      obtain ⟨_, _, e, _, c⟩ := hin0 k (by omega)
      cases e
      exact (hx.cell (p := ⟨rb, ro + k, none⟩) hrb).trans c
    have HRs : Hid (∀ x : World, Below w.heap.size w x → RowsAt x (some ⟨b, off, none⟩) l) := fun x hx => hR.rows.below hx (Nat.le_refl _)
    have HRow : Hid (∀ i, i < n + 1 → (atr l i).l.length = n + 1) := hrow
    have HM : Hid (∀ i k, i < n + 1 → k < n + 1 → (mtx l i k).natAbs ≤ 60) := hM
    have HL : Hid (l.length = n + 1) := hl
    have hne : ((n : Int) + 1 == 0) = false := beq_eq_false_iff_ne.2 (by omega)
    generalize (atr l 0).cap = rcap at *
    clear ih hR hrow hM hl at0 hin0 er hl0
    go_enter Try.func10, Try.ntmps10
    go_wp2
    go_loopw [3, 4, 17] (fun s g i wr => ∃ k : Nat, k ≤ n + 1 ∧ i = .int .i64 k ∧ s = .int .i64 (sumN (fun j => sgn j * mtx l 0 j * det n (minor (mtx l) j)) k) ∧ g = .int .i64 (sgn k) ∧ Hid (Below w.heap.size w wr)) (fun _ _ i _ => n + 1 - (intOf i).toNat)
    case atStart => exact ⟨0, Nat.zero_le _, rfl, rfl, rfl, Below.refl _ _⟩
    case round =>
      obtain ⟨k, hk, rfl, rfl, rfl, HB⟩ := hrel
      have hs0 := part_abs (M := mtx l) hn HM.out hk
      by_cases hlt : k < n + 1
      · have q0 := HIn0.out k hlt wr HB.out
        have hx := HM.out 0 k (by omega) hlt
        have hzw := HB.out.size
        have hltI : (k : Int) < (n : Int) + 1 := by omega
        have hltD : decide ((k : Int) < (n : Int) + 1) = true := decide_eq_true hltI
        have hs1 := part_abs (M := mtx l) hn HM.out (show k + 1 ≤ n + 1 by omega)
        have hd := minor_abs hn HM.out k
        rw [sumN] at hs1
        have HS : Hid (sumN (fun j => sgn j * mtx l 0 j * det n (minor (mtx l) j)) (k + 1) = sumN (fun j => sgn j * mtx l 0 j * det n (minor (mtx l) j)) k + sgn k * mtx l 0 k * det n (minor (mtx l) k)) := rfl
        have HG : Hid (sgn (k + 1) = - sgn k) := sgn_succ k
        have hsa := sgn_abs k
        obtain ⟨D, hD⟩ : ∃ D, D = det n (minor (mtx l) k) := ⟨_, rfl⟩
        have HD : Hid (D = det n (minor (mtx l) k)) := hD
        rw [← hD] at hs1 hd HS
        clear hD
        have hm1 := mul_abs (p := 1) (Nat.le_of_eq hsa) hx
        have hm2 := mul_abs hm1 hd
        generalize sumN (fun j => sgn j * mtx l 0 j * det n (minor (mtx l) j)) k = S at *
        generalize mtx l 0 k = x at *
        generalize sgn k = g at *
        have r1 : -60 ≤ g * x ∧ g * x ≤ 60 := by omega
        have r2 : -846526464000000000 ≤ g * x * D ∧ g * x * D ≤ 846526464000000000 := by omega
        have r3 : -14108774400000000 ≤ S + g * x * D ∧ S + g * x * D ≤ 14108774400000000 := by omega
        have r4 : -1 ≤ g ∧ g ≤ 1 := by omega
        have r5 : -14108774400000000 ≤ S ∧ S ≤ 14108774400000000 := by omega
        have r6 : -14108774400000000 ≤ D ∧ D ≤ 14108774400000000 := by omega
        clear hs0 hs1 hm1 hm2 hd hsa hx
        by_cases hx0 : x = 0
        · have HS2 : Hid (S + g * x * D = S) := by rw [Hid, hx0]; simp
          have hxn : (x != 0) = false := by simp [hx0]
          clear hx0 r1 r2 r3
          go_wp2_with fail
          go_roundw
          case rel => exact ⟨k + 1, by omega, by go_num, by rw [HS.out, HS2.out], by rw [HG.out], HB⟩
          case measure => simp [intOf]; omega
        · have hxn : (x != 0) = true := by simpa using hx0
          clear hx0
          obtain ⟨Vx, hVx⟩ : ∃ Vx, Vx = wr := ⟨_, rfl⟩
          subst hVx
          by_cases hc1 : cap = 1
          · have hn0 : n = 0 := by omega
            go_wp2_with fail
            go_loopw [7, 27] (fun s i wx => ∃ j : Nat, j ≤ n ∧ i = .int .i64 j ∧ ∃ ao' cap' R, s = .slice ao' j cap' ∧ (R : List RowV).length = j ∧ Hid (RestK w ao' j cap' R wx) ∧ Hid (∀ i, i < j → (atr R i).l = skipL (atr l (i + 1)).l k)) (fun _ i _ => n - (intOf i).toNat)
            case atStart => exact ⟨0, Nat.zero_le _, rfl, none, 0, [], rfl, rfl, ⟨HB.out, World.ownsRow_nil _ _ _ _, fun i hi => absurd hi (Nat.not_lt_zero _)⟩, fun i hi => absurd hi (Nat.not_lt_zero _)⟩
            case round =>
              obtain ⟨j, hj, rfl, ao', cap', R, rfl, hRl, HK, HSk⟩ := hrel
              obtain rfl : j = n := by omega
              have hRI := HK.out.isIn hRl
              have hlenR : ∀ i, i < j → (atr R i).l.length = j := fun i hi => by rw [HSk.out i hi, skipL_len (by rw [HRow.out (i + 1) (by omega)]; exact hlt), HRow.out (i + 1) (by omega)]; rfl
              have hmR : ∀ i c, i < j → c < j → mtx R i c = minor (mtx l) k i c := fun i c hi hc => by
                show ati (atr R i).l c = ati (atr l (i + 1)).l (skip k c)
                rw [HSk.out i hi, skipL_at (by rw [HRow.out (i + 1) (by omega)]; exact hlt) (by rw [HRow.out (i + 1) (by omega)]; exact hc)]
              have hcall := HIH.out ao' cap' R wr hRI hRl hlenR (fun i c hi hc => by rw [hmR i c hi hc]; exact HM.out _ _ (by omega) (skip_lt hc))
              rw [det_congr hmR, ← HD.out] at hcall
              have HB2 : Hid (Below w.heap.size w wr) := HK.out.bel
              clear hRI hlenR hmR HK HSk hRl hn0 hc1 hcap
              go_wp2_with (go_at_call 10; refine hcall.mono ?_; rintro e w9 ⟨hb9, rfl⟩; have HB9 : Hid (Below w.heap.size w w9) := below_tr HB2.out hb9; clear hb9)
              go_roundw
              case rel => exact ⟨k + 1, by omega, by go_num, by rw [HS.out], by rw [HG.out], HB9⟩
              case measure => simp [intOf]; omega
          · go_wp2_with fail
            go_loopw [7, 27] (fun s i wx => ∃ j : Nat, j ≤ n ∧ i = .int .i64 j ∧ ∃ ao' cap' R, s = .slice ao' j cap' ∧ (R : List RowV).length = j ∧ Hid (RestK w ao' j cap' R wx) ∧ Hid (∀ i, i < j → (atr R i).l = skipL (atr l (i + 1)).l k)) (fun _ i _ => n - (intOf i).toNat)
            case atStart => exact ⟨0, Nat.zero_le _, rfl, none, 0, [], rfl, rfl, ⟨HB.out, World.ownsRow_nil _ _ _ _, fun i hi => absurd hi (Nat.not_lt_zero _)⟩, fun i hi => absurd hi (Nat.not_lt_zero _)⟩
            case round =>
              obtain ⟨j, hj, rfl, ao', cap', R, rfl, hRl, HK, HSk⟩ := hrel
              by_cases hjl : j < n
              · obtain ⟨_, _, e1, hbw, c2, at2⟩ := HRs.out wr HK.out.bel (j + 1) (by rw [HL.out]; omega)
                cases e1
                have hlj := HRow.out (j + 1) (by omega)
                obtain ⟨rb2, ro2, er2, hrb2, _⟩ := at2.ints 0 (by omega)
                have hin2 := at2.ints
                have hle2 := at2.le
                have hmx2 := at2.max
                rw [er2] at hin2
                rw [RowV.val, er2, hlj, show off + (j + 1) = off + 1 + j by omega] at c2
                rw [hlj] at hle2
                generalize (atr l (j + 1)).cap = rcap2 at *
                have HIn2 : Hid (IntsAt wr (some ⟨rb2, ro2, none⟩) (atr l (j + 1)).l) := hin2
                have HLj : Hid ((atr l (j + 1)).l.length = n + 1) := hlj
                have HRl : Hid (R.length = j) := hRl
                clear hin2 at2 hlj er2 hRl
                go_wp2_with fail
                obtain ⟨i0, hi, hz0, hz1, hz2⟩ := info_parts infoInts
                have HSl : Hid ((skipL (atr l (j + 1)).l k).length = n) := by rw [Hid, skipL_len (by rw [HLj.out]; exact hlt), HLj.out]; rfl
                have HK1 : Hid (j + 1 ≤ maxLen) := by unfold Hid maxLen; omega
                have HK2 : Hid ((j + 1) * 24 ≤ 140737488355328) := by unfold Hid; omega
                have hkr : k ≤ rcap2 := by omega
                have hkc : (k : Int) ≤ (rcap2 : Int) := by omega
                have hkn : k ≤ n := by omega
                have hk10 : (0 : Int) ≤ (k : Int) + 1 := by omega
                have hkI1 : (k : Int) + 1 ≤ (n : Int) + 1 := by omega
                have hkI2 : (k : Int) + 1 ≤ ((n + 1 : Nat) : Int) := by omega
                have htn : ((k : Int) + 1).toNat = k + 1 := by omega
                have hwr : IntKind.i64.wrap ((k : Int) + 1) = (k : Int) + 1 := by rw [IntKind.wrap_i64]; omega
                by_cases hrc : rcap2 = k + 1
                · obtain rfl : k = n := by omega
                  subst hrc
                  have hkk : (k : Int) ≤ (k : Int) + 1 := by omega
                  have hkk2 : (k : Int) ≤ ((k + 1 : Nat) : Int) := by omega
                  have HC : Hid (Calls Try.prog 27 #[.slice (some ⟨wr.heap.size, 0, none⟩) 2 2] (wr.alloc (.cells #[.slice (some ⟨rb2, ro2, none⟩) k (k + 1), .slice (some ⟨rb2, ro2, none⟩) 0 0] 26)).drew fun e w7 => ∃ ra rc, e = .returned (.slice ra k rc) ∧ RestK w ao' j cap' R w7 ∧ w7.ownsRow w.heap.size 3 1 (.slice ra k rc) k (flati (skipL (atr l (j + 1)).l k))) := by
                    have h := cat_two (q := ro2) (qc := 0) HK.out HIn2.out HLj.out hlt hle2 hmx2 (by omega) (by omega) (by omega) ⟨by omega, Nat.zero_le _⟩
                    rw [show k - k = 0 by omega] at h
                    exact h
                  go_region_held3 (fun x => Below w.heap.size w x) (first | exact HK.out.bel.drew | exact below_al (by assumption) _ | assumption)
                    (first
                      | (refine step_append_join (w0 := w) rfl (.tmp 31) (.tmp 41) 22 rfl 26 i0 _ 1 24 Try.underlying22 hi hz0 hz1 hz2 rfl (by decide) (.slice ao' j cap') j (R.map RowV.val) rfl (by with_reducible exact (HK7.out.alloc _).own) (by with_reducible exact (HK7.out.alloc _).bel) ⟨w7.heap.size, 0, none⟩ 1 1 [.slice ra k rc] rfl rfl news1 HO1.out HK1.out HK2.out ?_; intro ao8 cap8 w8 hown8 hb8 hk8; have HK8 : Hid (RestK w ao8 (j + 1) cap8 (R ++ [⟨ra, rc, skipL (atr l (j + 1)).l k⟩]) w8) := rest_more HK7.out HRl.out HSl.out HO7.out _ hb8 hown8 hk8; clear hown8 hk8)
                      | (go_at_call 27; refine HC.out.mono ?_; rintro e w7 ⟨ra, rc, rfl, hK7, hO7⟩; have hs7 := hK7.bel; have HK7 : Hid (RestK w ao' j cap' R w7) := hK7; have HO7 : Hid (w7.ownsRow w.heap.size 3 1 (.slice ra k rc) k (flati (skipL (atr l (j + 1)).l k))) := hO7; have HO1 : Hid (∀ u ∈ [Value.slice ra k rc], u.oneCell' = true) := one_slice ra k rc; clear hK7 hO7))
                  all_goals
                    go_wp2_with fail
                    go_roundw
                    case rel => exact ⟨j + 1, by omega, by go_num, ao8, cap8, R ++ [⟨ra, rc, skipL (atr l (j + 1)).l k⟩], rfl, by rw [List.length_append, HRl.out]; rfl, HK8, rest_skip HRl.out rfl HSk.out⟩
                    case measure => simp [intOf]; omega
                · have hrt : ¬ rcap2 = ((k : Int) + 1).toNat := by omega
                  have HC : Hid (Calls Try.prog 27 #[.slice (some ⟨wr.heap.size, 0, none⟩) 2 2] (wr.alloc (.cells #[.slice (some ⟨rb2, ro2, none⟩) k rcap2, .slice (some ⟨rb2, ro2 + (k + 1), none⟩) (n - k) (rcap2 - (k + 1))] 26)).drew fun e w7 => ∃ ra rc, e = .returned (.slice ra n rc) ∧ RestK w ao' j cap' R w7 ∧ w7.ownsRow w.heap.size 3 1 (.slice ra n rc) n (flati (skipL (atr l (j + 1)).l k))) :=
                    cat_two HK.out HIn2.out HLj.out hlt hle2 hmx2 (by omega) (by omega) (by omega) (by omega)
                  go_region_held3 (fun x => Below w.heap.size w x) (first | exact HK.out.bel.drew | exact below_al (by assumption) _ | assumption)
                    (first
                      | (refine step_append_join (w0 := w) rfl (.tmp 31) (.tmp 41) 22 rfl 26 i0 _ 1 24 Try.underlying22 hi hz0 hz1 hz2 rfl (by decide) (.slice ao' j cap') j (R.map RowV.val) rfl (by with_reducible exact (HK7.out.alloc _).own) (by with_reducible exact (HK7.out.alloc _).bel) ⟨w7.heap.size, 0, none⟩ 1 1 [.slice ra n rc] rfl rfl news1 HO1.out HK1.out HK2.out ?_; intro ao8 cap8 w8 hown8 hb8 hk8; have HK8 : Hid (RestK w ao8 (j + 1) cap8 (R ++ [⟨ra, rc, skipL (atr l (j + 1)).l k⟩]) w8) := rest_more HK7.out HRl.out HSl.out HO7.out _ hb8 hown8 hk8; clear hown8 hk8)
                      | (go_at_call 27; refine HC.out.mono ?_; rintro e w7 ⟨ra, rc, rfl, hK7, hO7⟩; have hs7 := hK7.bel; have HK7 : Hid (RestK w ao' j cap' R w7) := hK7; have HO7 : Hid (w7.ownsRow w.heap.size 3 1 (.slice ra n rc) n (flati (skipL (atr l (j + 1)).l k))) := hO7; have HO1 : Hid (∀ u ∈ [Value.slice ra n rc], u.oneCell' = true) := one_slice ra n rc; clear hK7 hO7))
                  all_goals
                    go_wp2_with fail
                    go_roundw
                    case rel => exact ⟨j + 1, by omega, by go_num, ao8, cap8, R ++ [⟨ra, rc, skipL (atr l (j + 1)).l k⟩], rfl, by rw [List.length_append, HRl.out]; rfl, HK8, rest_skip HRl.out rfl HSk.out⟩
                    case measure => simp [intOf]; omega
              · obtain rfl : j = n := by omega
                have hRI := HK.out.isIn hRl
                have hlenR : ∀ i, i < j → (atr R i).l.length = j := fun i hi => by rw [HSk.out i hi, skipL_len (by rw [HRow.out (i + 1) (by omega)]; exact hlt), HRow.out (i + 1) (by omega)]; rfl
                have hmR : ∀ i c, i < j → c < j → mtx R i c = minor (mtx l) k i c := fun i c hi hc => by
                  show ati (atr R i).l c = ati (atr l (i + 1)).l (skip k c)
                  rw [HSk.out i hi, skipL_at (by rw [HRow.out (i + 1) (by omega)]; exact hlt) (by rw [HRow.out (i + 1) (by omega)]; exact hc)]
                have hcall := HIH.out ao' cap' R wr hRI hRl hlenR (fun i c hi hc => by rw [hmR i c hi hc]; exact HM.out _ _ (by omega) (skip_lt hc))
                rw [det_congr hmR, ← HD.out] at hcall
                have HB2 : Hid (Below w.heap.size w wr) := HK.out.bel
                clear hRI hlenR hmR HK HSk hRl hc1 hcap
                go_wp2_with (go_at_call 10; refine hcall.mono ?_; rintro e w9 ⟨hb9, rfl⟩; have HB9 : Hid (Below w.heap.size w w9) := below_tr HB2.out hb9; clear hb9)
                go_roundw
                case rel => exact ⟨k + 1, by omega, by go_num, by rw [HS.out], by rw [HG.out], HB9⟩
                case measure => simp [intOf]; omega
      · obtain rfl : k = n + 1 := by omega
        go_wp2_with fail
        go_ret
        exact ⟨HB.out, rfl⟩

end Go.Proofs.Ytamckjbddnocpaa
