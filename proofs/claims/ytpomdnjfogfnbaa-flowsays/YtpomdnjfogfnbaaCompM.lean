/- Plain facts: as many unlike numbers, when they are in order and each run is one, as parts. -/
import Derived.Test.YtpomdnjfogfnbaaSpanM
import Derived.Lib.SlicesCompact
namespace Go.Proofs.Ytpomdnjfogfnbaa
set_option linter.unusedVariables false

theorem arr_at (zs : List Int) {j : Nat} (h : j < zs.length) : zs.toArray[j]! = ati zs j := by
  rw [ati_lt _ _ h]; simp [getElem!_pos, h]

theorem pigI : ∀ {A m : List Int}, A.Nodup → (∀ x ∈ A, x ∈ m) → A.length ≤ m.length
  | [], _, _, _ => Nat.zero_le _
  | a :: r, m, hn, h => by
    have ha := h a (List.mem_cons_self ..)
    obtain ⟨h1, h2⟩ := List.nodup_cons.1 hn
    have := pigI (A := r) (m := m.erase a) h2 fun x hx => (List.mem_erase_of_ne (show x ≠ a from fun e => h1 (e ▸ hx))).2 (h x (List.mem_cons_of_mem _ hx))
    rw [List.length_erase_of_mem ha] at this
    have : 0 < m.length := List.length_pos_of_mem ha
    simp only [List.length_cons]; omega

theorem keeps_iff (zs : List Int) {j : Nat} (h : j < zs.length) : Lib.keeps zs.toArray j = true ↔ j = 0 ∨ ati zs j ≠ ati zs (j - 1) := by
  unfold Lib.keeps
  rw [decide_eq_true_iff, arr_at zs h, arr_at zs (show j - 1 < zs.length by omega)]

theorem mem_compact (zs : List Int) (x : Int) : x ∈ Lib.compact zs ↔ x ∈ zs := by
  unfold Lib.compact Lib.compactUpTo
  simp only [List.mem_map, List.mem_filter, List.mem_range]
  constructor
  · rintro ⟨j, ⟨hj, _⟩, rfl⟩
    rw [arr_at zs hj]; exact ati_mem zs j hj
  · intro hx
    obtain ⟨i, hi, hix⟩ := List.mem_iff_getElem.1 hx
    have key : ∀ n i, i ≤ n → i < zs.length → ati zs i = x → ∃ j, (j < zs.length ∧ Lib.keeps zs.toArray j = true) ∧ zs.toArray[j]! = x := by
      intro n
      induction n with
      | zero =>
        intro i hin hi he
        have : i = 0 := by omega
        subst this
        exact ⟨0, ⟨hi, (keeps_iff zs hi).2 (Or.inl rfl)⟩, by rw [arr_at zs hi]; exact he⟩
      | succ n ih =>
        intro i hin hi he
        by_cases h0 : i = 0
        · subst h0
          exact ⟨0, ⟨hi, (keeps_iff zs hi).2 (Or.inl rfl)⟩, by rw [arr_at zs hi]; exact he⟩
        · by_cases hp : ati zs i = ati zs (i - 1)
          · exact ih (i - 1) (by omega) (by omega) (by rw [← hp]; exact he)
          · exact ⟨i, ⟨hi, (keeps_iff zs hi).2 (Or.inr hp)⟩, by rw [arr_at zs hi]; exact he⟩
    exact key i i (Nat.le_refl _) hi (by rw [ati_lt zs i hi]; exact hix)

theorem compact_nodup {zs : List Int} (hs : ∀ i j, i ≤ j → j < zs.length → ati zs i ≤ ati zs j) : (Lib.compact zs).Nodup := by
  unfold Lib.compact Lib.compactUpTo
  rw [List.Nodup, List.pairwise_map]
  have hp : ((List.range zs.length).filter (Lib.keeps zs.toArray)).Pairwise (· < ·) := List.Pairwise.filter _ List.pairwise_lt_range
  refine List.Pairwise.imp_of_mem (R := (· < ·)) (fun {i j} hi hj hij => ?_) hp
  obtain ⟨hi1, _⟩ := List.mem_filter.1 hi
  obtain ⟨hj1, hj2⟩ := List.mem_filter.1 hj
  have hi1 := List.mem_range.1 hi1
  have hj1 := List.mem_range.1 hj1
  rw [arr_at zs hi1, arr_at zs hj1]
  rcases (keeps_iff zs hj1).1 hj2 with h | h
  · omega
  · have a1 := hs i (j - 1) (by omega) (by omega)
    have a2 := hs (j - 1) j (by omega) hj1
    omega

/-- SpanJoins: the unlike numbers of what Parts tells -/
theorem compact_roots {N : Nat} {l : List Arc3} {F S : List Int} (hF : PartsIs N l F) (hS : ∀ x, x ∈ S ↔ x ∈ F) (hs : ∀ i j, i ≤ j → j < S.length → ati S i ≤ ati S j) : (Lib.compact S).length = roots N F := by
  have hroots : roots N F = (((List.range N).filter (fun v => decide (ati F v = (v : Int)))).map (fun v : Nat => (v : Int))).length := by
    unfold roots; rw [List.length_map, List.countP_eq_length_filter]
  rw [hroots]
  have hnd : (((List.range N).filter (fun v => decide (ati F v = (v : Int)))).map (fun v : Nat => (v : Int))).Nodup := by
    rw [List.Nodup, List.pairwise_map]
    exact (List.nodup_range.filter _).imp fun h e => h (by omega)
  have hmem : ∀ x : Int, x ∈ F ↔ x ∈ ((List.range N).filter (fun v => decide (ati F v = (v : Int)))).map (fun v : Nat => (v : Int)) := fun x => by
    simp only [List.mem_map, List.mem_filter, List.mem_range]
    constructor
    · intro hx
      obtain ⟨v, hv, rfl⟩ := List.mem_iff_getElem.1 hx
      have hvN : v < N := by rw [← hF.len]; exact hv
      obtain ⟨p, e, j, m⟩ := hF.all v hvN
      have hpv := m v (Jn.refl _ _)
      obtain ⟨p', e', j', m'⟩ := hF.all p (by omega)
      have h1 := m' p (Jn.refl _ _)
      have h2 := m p' (j'.trans j)
      refine ⟨p, ⟨by omega, decide_eq_true (by rw [e']; omega)⟩, ?_⟩
      rw [← ati_lt F v hv, e]
    · rintro ⟨v, ⟨hv, hd⟩, rfl⟩
      have hd := of_decide_eq_true hd
      rw [← hd]
      exact ati_mem F v (by rw [hF.len]; exact hv)
  apply Nat.le_antisymm
  · exact pigI (compact_nodup hs) fun x hx => (hmem x).1 ((hS x).1 ((mem_compact S x).1 hx))
  · exact pigI hnd fun x hx => (mem_compact S x).2 ((hS x).2 ((hmem x).2 hx))

end Go.Proofs.Ytpomdnjfogfnbaa
