/- Contracts of slices.Clone over integers and over rows. -/
import Derived.Test.YtamckjbddnocpabMk
import Derived.Test.YtamckjbddnocpabMat
import Derived.Test.YtamckjbddnocpabRowsAt
import Derived.Test.YtamckjbddnocpabFlat
import Derived.Test.YtamckjbddnocpabOwns
namespace Go.Proofs.Ytamckjbddnocpab
open Go.RowKit
set_option linter.unusedVariables false

/-- a row that append has made, cell by cell -/
theorem owns_row {w : World} {B : Nat} {t : TypeId} {v : Value} {n : Nat} {xs : List Value} (h : w.ownsRow B t 1 v n xs) (hn : 0 < n) :
    ∃ g cap f, v = .slice (some ⟨g, 0, none⟩) n cap ∧ B ≤ g ∧ n ≤ cap ∧ cap ≤ maxLen ∧ w.rowIs g t cap f ∧ ∀ j x, xs[j]? = some x → f j = x := by
  rcases h.2 with ⟨_, hn0⟩ | ⟨g, cap, cur, rfl, hB, hg, hle, hcap, hcs, htk⟩
  · omega
  · refine ⟨g, cap, fun j => cur[j]?.getD (.bool false), rfl, hB, hle, hcap, ⟨cur, hg, by omega, fun i hi => ?_⟩, fun j x hx => ?_⟩
    · have : i < cur.size := by omega
      simp [this]
    · have hj := (List.getElem?_eq_some_iff.1 hx).1
      rw [h.1] at hj
      have hxx := hx
      rw [← htk, List.getElem?_take_of_lt (by omega)] at hxx
      have hc : cur[j]? = some x := by rw [← hxx]; simp
      show cur[j]?.getD (.bool false) = x
      rw [hc]; rfl

set_option maxHeartbeats 400000 in
theorem cloneRow (b off cap : Nat) (l : List Int) (w : World) (hA : IntsAt w (some ⟨b, off, none⟩) l) (hl : 0 < l.length) (h7 : l.length ≤ 60) :
    Calls Try.prog 10 #[.slice (some ⟨b, off, none⟩) l.length cap] w fun e w' => Below w.heap.size w w' ∧
      ∃ g cap' f, e = .returned (.slice (some ⟨g, 0, none⟩) l.length cap') ∧ w.heap.size ≤ g ∧ l.length ≤ cap' ∧ cap' ≤ maxLen ∧ w'.rowIs g 3 cap' f ∧ ∀ j, j < l.length → f j = .int .i64 (ati l j) := by
  have hq := @Lib.run_eql_slice_nil Try.prog
  obtain ⟨i0, hi, hz0, hz1, hz2⟩ := info_parts infoInt
  go_enter Try.func10, Try.ntmps10
  have hown : (w.alloc (.cells #[] 3)).ownsRow w.heap.size 3 1 (.slice (some ⟨w.heap.size, 0, none⟩) 0 0) 0 [] :=
    ⟨rfl, Or.inr ⟨w.heap.size, 0, #[], rfl, Nat.le_refl _, blk_new _ _, Nat.le_refl _, Nat.zero_le _, rfl, rfl⟩⟩
  have hnews : ∀ j u, (flati l)[j]? = some u → (w.alloc (.cells #[] 3)).cell? ((⟨b, off, none⟩ : Addr).add j) = some u := by
    intro j u hj
    have hj' : j < l.length := by have := (List.getElem?_eq_some_iff.1 hj).1; simpa [flati] using this
    obtain ⟨b', off', e, hb, c⟩ := hA j hj'
    cases e
    rw [Go.WideShapes.add_plain, World.cell?_alloc_past _ _ _ hb, c]
    rw [flati, List.getElem?_map, List.getElem?_eq_getElem hj'] at hj
    rw [ati_lt l j hj']
    exact hj
  have HO : Hid ((w.alloc (.cells #[] 3)).ownsRow w.heap.size 3 1 (.slice (some ⟨w.heap.size, 0, none⟩) 0 0) 0 []) := hown
  have HN : Hid (∀ j u, (flati l)[j]? = some u → (w.alloc (.cells #[] 3)).cell? ((⟨b, off, none⟩ : Addr).add j) = some u) := hnews
  have HM : Hid (0 + l.length ≤ maxLen) := by unfold Hid maxLen; omega
  have HL : Hid ((flati l).length = l.length * 1) := by simp [Hid, flati]
  have H1 : Hid (∀ u ∈ flati l, u.oneCell' = true) := fun u hu => by
    obtain ⟨x, _, rfl⟩ := List.mem_map.1 hu; rfl
  clear hown hnews
  go_wp2_with (at_builtin; refine wpList_append_own _ rfl (.tmp 5) (.tmp 6) 22 rfl w.heap.size 3 i0 _ 1 8 Try.underlying22 hi hz0 hz1 hz2 rfl (by decide) _ _ _ rfl HO.out ⟨b, off, none⟩ l.length cap (flati l) rfl HL.out HN.out H1.out HM.out (by omega) (by simp) ?_; intro v' w1 hown' hgrow _)
  have hB' : Below w.heap.size w w1 := (below_one w _).grown hgrow (by simp) (by
    intro g hg
    simp only [Value.ownBlock] at hg
    cases hg
    exact Nat.le_refl _)
  simp only [Nat.zero_add, List.nil_append] at hown'
  obtain ⟨g, cap', f, rfl, hg, hc1, hc2, hrow, hf⟩ := owns_row hown' hl
  have HF : Hid (∀ j, j < l.length → f j = .int .i64 (ati l j)) := fun j hj => hf j _ (by rw [flati, List.getElem?_map, List.getElem?_eq_getElem hj, ati_lt l j hj]; rfl)
  have HR : Hid (w1.rowIs g 3 cap' f) := hrow
  clear hgrow hown' hf hrow
  go_wp2
  go_ret
  exact ⟨hB', g, cap', f, rfl, hg, hc1, hc2, HR.out, HF.out⟩

set_option maxHeartbeats 400000 in
theorem cloneRows (b off cap : Nat) (l : List RowV) (w : World) (hA : RowsAt w (some ⟨b, off, none⟩) l) (hl : 0 < l.length) (h7 : l.length ≤ 60) :
    Calls Try.prog 9 #[.slice (some ⟨b, off, none⟩) l.length cap] w fun e w' => Below w.heap.size w w' ∧
      ∃ g cap' f, e = .returned (.slice (some ⟨g, 0, none⟩) l.length cap') ∧ w.heap.size ≤ g ∧ l.length ≤ cap' ∧ cap' ≤ maxLen ∧ w'.rowIs g 22 cap' f ∧ ∀ j, j < l.length → f j = (atr l j).val := by
  have hq := @Lib.run_eql_slice_nil Try.prog
  obtain ⟨i0, hi, hz0, hz1, hz2⟩ := info_parts infoInts
  go_enter Try.func9, Try.ntmps9
  have hown : (w.alloc (.cells #[] 22)).ownsRow w.heap.size 22 1 (.slice (some ⟨w.heap.size, 0, none⟩) 0 0) 0 [] :=
    ⟨rfl, Or.inr ⟨w.heap.size, 0, #[], rfl, Nat.le_refl _, blk_new _ _, Nat.le_refl _, Nat.zero_le _, rfl, rfl⟩⟩
  have hnews : ∀ j u, (l.map RowV.val)[j]? = some u → (w.alloc (.cells #[] 22)).cell? ((⟨b, off, none⟩ : Addr).add j) = some u := by
    intro j u hj
    have hj' : j < l.length := by have := (List.getElem?_eq_some_iff.1 hj).1; simpa using this
    obtain ⟨b', off', e, hb, c, _⟩ := hA j hj'
    cases e
    rw [Go.WideShapes.add_plain, World.cell?_alloc_past _ _ _ hb, c]
    rw [List.getElem?_map, List.getElem?_eq_getElem hj'] at hj
    rw [atr_lt l j hj']
    exact hj
  have HO : Hid ((w.alloc (.cells #[] 22)).ownsRow w.heap.size 22 1 (.slice (some ⟨w.heap.size, 0, none⟩) 0 0) 0 []) := hown
  have HN : Hid (∀ j u, (l.map RowV.val)[j]? = some u → (w.alloc (.cells #[] 22)).cell? ((⟨b, off, none⟩ : Addr).add j) = some u) := hnews
  have HM : Hid (0 + l.length ≤ maxLen) := by unfold Hid maxLen; omega
  have HL : Hid ((l.map RowV.val).length = l.length * 1) := by simp [Hid]
  have H1 : Hid (∀ u ∈ l.map RowV.val, u.oneCell' = true) := fun u hu => by
    obtain ⟨x, _, rfl⟩ := List.mem_map.1 hu; rfl
  clear hown hnews
  go_wp2_with (at_builtin; refine wpList_append_own _ rfl (.tmp 5) (.tmp 6) 32 rfl w.heap.size 22 i0 _ 1 24 Try.underlying32 hi hz0 hz1 hz2 rfl (by decide) _ _ _ rfl HO.out ⟨b, off, none⟩ l.length cap (l.map RowV.val) rfl HL.out HN.out H1.out HM.out (by omega) (by simp) ?_; intro v' w1 hown' hgrow _)
  have hB' : Below w.heap.size w w1 := (below_one w _).grown hgrow (by simp) (by
    intro g hg
    simp only [Value.ownBlock] at hg
    cases hg
    exact Nat.le_refl _)
  simp only [Nat.zero_add, List.nil_append] at hown'
  obtain ⟨g, cap', f, rfl, hg, hc1, hc2, hrow, hf⟩ := owns_row hown' hl
  have HF : Hid (∀ j, j < l.length → f j = (atr l j).val) := fun j hj => hf j _ (by rw [List.getElem?_map, List.getElem?_eq_getElem hj, atr_lt l j hj]; rfl)
  have HR : Hid (w1.rowIs g 22 cap' f) := hrow
  clear hgrow hown' hf hrow
  go_wp2
  go_ret
  exact ⟨hB', g, cap', f, rfl, hg, hc1, hc2, HR.out, HF.out⟩

end Go.Proofs.Ytamckjbddnocpab
