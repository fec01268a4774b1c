/- Contracts: the document's own Loops; slices.Contains at truths. -/
import Derived.Test.YtakemienlmlgkaaLMat
import Derived.Test.YtakemienlmlgkaaMkB
import Derived.Test.YtakemienlmlgkaaBools
namespace Go.Proofs.Ytakemienlmlgkaa
open Go.RowKit
set_option linter.unusedVariables false

def flatb (l : List Bool) : List Value := l.map Value.bool
theorem owns_bools {w : World} {B : Nat} {t : TypeId} {v : Value} {l : List Bool} (h : w.ownsRow B t 1 v l.length (flatb l)) :
    ∃ ao cap, v = .slice ao l.length cap ∧ BoolsAt w ao l := by
  rcases h.2 with ⟨rfl, hn⟩ | ⟨g, cap, cur, rfl, hB, hg, hle, hcap, hcs, htk⟩
  · exact ⟨none, 0, by rw [hn], fun i hi => absurd hi (by omega)⟩
  · refine ⟨some ⟨g, 0, none⟩, cap, rfl, fun i hi => ?_⟩
    refine ⟨g, 0, rfl, (Array.getElem?_eq_some_iff.1 hg).1, ?_⟩
    rw [Nat.zero_add, h.cellAt _ (by omega)]
    simp [flatb, hi, atb_lt]

/-- of which nodes a way below 0 of at most 24 arcs leads to itself -/
def loopsL (M : Nat → Nat → Int) (n : Nat) : List Bool := (List.range n).map fun i => decide (M i i < 0)
theorem loopsL_len (M : Nat → Nat → Int) (n : Nat) : (loopsL M n).length = n := by simp [loopsL]
theorem loopsL_at (M : Nat → Nat → Int) (n : Nat) {i : Nat} (h : i < n) : atb (loopsL M n) i = decide (M i i < 0) := by simp [loopsL, atb, h]
theorem loopsL_snoc (M : Nat → Nat → Int) (n : Nat) : loopsL M (n + 1) = loopsL M n ++ [decide (M n n < 0)] := by simp [loopsL, List.range_succ]
theorem loopsL_mem (M : Nat → Nat → Int) (n : Nat) : true ∈ loopsL M n ↔ ∃ k, k < n ∧ M k k < 0 := by simp [loopsL]

set_option maxHeartbeats 1000000 in
theorem Loops_any (N B D : Nat) (R C : Nat → Nat) (M : Nat → Nat → Int) (w : World) (hP : LMat B w D R C N N M) (h12 : N ≤ 12) :
    Calls Try.prog 14 #[.slice (some ⟨D, 0, none⟩) N N] w fun e w' => Below w.heap.size w w' ∧
      ∃ ao cap, e = .returned (.slice ao N cap) ∧ BoolsAt w' ao (loopsL M N) := by
  obtain ⟨i0, hi, hz0, hz1, hz2⟩ := info_parts infoBool
  have HP : Hid (LMat B w D R C N N M) := hP
  clear hP
  go_enter Try.func14, Try.ntmps14
  go_wp2
  go_loopw [3, 7] (fun v i wr => ∃ k : Nat, k ≤ N ∧ i = .int .i64 k ∧ wr.ownsRow w.heap.size 4 1 v k (flatb (loopsL M k)) ∧ Below w.heap.size w wr) (fun _ i _ => N - (intOf i).toNat)
  case atStart => exact ⟨0, Nat.zero_le _, rfl, World.ownsRow_nil _ _ _ _, Below.refl _ _⟩
  case round =>
    obtain ⟨k, hk, rfl, hown, hB⟩ := hrel
    have hz := hB.size
    by_cases hlt : k < N
    · have hPr := HP.out.below hB (Nat.le_refl _)
      have d1 := hPr.at hlt
      have n1 := hPr.num hlt hlt
      have hDl := hPr.outer.lt
      have hRl := hPr.lt k hlt
      have HS : Hid (flatb (loopsL M (k + 1)) = flatb (loopsL M k) ++ [.bool (decide (M k k < 0))]) := by rw [Hid, loopsL_snoc, flatb, List.map_append]; rfl
      generalize M k k = x at *
      clear hPr
      go_wp2_with (at_builtin; refine wpList_append_own _ rfl (.tmp 10) (.tmp 19) 26 rfl w.heap.size 4 i0 _ 1 1 Try.underlying26 hi hz0 hz1 hz2 rfl (by decide) _ _ _ rfl (hown.alloc _) ⟨wr.heap.size, 0, none⟩ 1 1 [.bool (decide (x < 0))] rfl rfl ?c1 ?c2 ?c3 ?c4 ?c5 ?_)
      case c1 => exact cell_one_new _ _ _
      case c2 => intro u hu; simp at hu; subst hu; rfl
      case c3 => unfold maxLen; omega
      case c4 => omega
      case c5 => simp; omega
      · intro v' w6 hown' hgrow _
        rw [← HS.out] at hown'
        have hB' : Below w.heap.size w w6 := (hB.alloc hz _).grown hgrow (by simp; omega) (by
          intro g hg
          rcases hown.2 with ⟨rfl, _⟩ | ⟨g', _, _, rfl, hB0, _⟩
          · cases hg
          · simp only [Value.ownBlock, Option.some.injEq] at hg; omega)
        clear hgrow hown
        go_wp2
        go_roundw
        case rel => exact ⟨k + 1, by omega, by go_num, hown', hB'⟩
        case measure => simp [intOf]; omega
    · have hkN : N = k := by omega
      subst hkN
      obtain ⟨ao', cap', ev, hI'⟩ := owns_bools (l := loopsL M N) (by rw [loopsL_len]; exact hown)
      rw [loopsL_len] at ev
      subst ev
      have HI : Hid (BoolsAt wr ao' (loopsL M N)) := hI'
      clear hI' hown
      go_wp2
      go_ret
      exact ⟨hB, ao', cap', rfl, HI.out⟩

set_option maxHeartbeats 400000 in
theorem indexBools (ao : Option Addr) (cap : Nat) (l : List Bool) (x : Bool) (w : World) (hm : l.length ≤ maxLen) (hA : BoolsAt w ao l) :
    Calls Try.prog 31 #[.slice ao l.length cap, .bool x] w fun e w' => (∃ k : Int, e = .returned (.int .i64 k) ∧ (0 ≤ k ↔ x ∈ l)) ∧ w' = w := by
  unfold maxLen at hm
  go_enter Try.func31, Try.ntmps31
  go_wp2
  go_loop [8] (fun i => ∃ k : Nat, k ≤ l.length ∧ i = .int .i64 k ∧ Hid (x ∉ l.take k)) (fun i => l.length - (intOf i).toNat)
  case atStart => exact ⟨0, Nat.zero_le _, rfl, by simp [Hid]⟩
  case round =>
    obtain ⟨k, hk, rfl, hno⟩ := hrel
    by_cases hlt : k < l.length
    · have hmem : atb l k ∈ l := by rw [atb_lt l k hlt]; exact List.getElem_mem hlt
      have hsn := take_snocb l k hlt
      obtain ⟨b, off, rfl, hb, c0⟩ := hA k hlt
      generalize atb l k = y at *
      by_cases he : x = y
      · subst he
        have HM : Hid (x ∈ l) := hmem
        have hxx : (x == x) = true := by simp
        clear hmem hsn hno
        go_wp2
        go_ret
        exact ⟨⟨k, rfl, fun _ => HM.out, fun _ => by omega⟩, rfl⟩
      · have he' : (x == y) = false := by simpa using he
        have HN : Hid (x ∉ l.take (k + 1)) := by
          rw [Hid, hsn]
          intro h
          rcases List.mem_append.1 h with h | h
          · exact hno.out h
          · exact he (List.mem_singleton.1 h)
        clear hmem hsn hno he
        go_wp2
        go_round
        case rel => exact ⟨k + 1, by omega, by go_num, HN⟩
        case measure => simp [intOf]; omega
    · rw [List.take_of_length_le (by omega)] at hno
      go_wp2
      go_ret
      exact ⟨⟨-1, rfl, fun h => absurd h (by omega), fun h => absurd h hno.out⟩, rfl⟩

set_option maxHeartbeats 400000 in
theorem containsBools (ao : Option Addr) (cap : Nat) (l : List Bool) (x : Bool) (w : World) (hm : l.length ≤ maxLen) (hA : BoolsAt w ao l) :
    Calls Try.prog 17 #[.slice ao l.length cap, .bool x] w fun e w' => e = .returned (.bool (decide (x ∈ l))) ∧ w' = w := by
  go_enter Try.func17, Try.ntmps17
  go_wp2_with fail
  refine (indexBools ao cap l x w hm hA).mono ?_
  rintro e w' ⟨⟨k, rfl, hk⟩, hw⟩
  subst hw
  have HK : Hid (0 ≤ k ↔ x ∈ l) := hk
  clear hk
  go_wp2
  go_ret
  refine ⟨ret_bool ?_, rfl⟩
  by_cases c : 0 ≤ k
  · rw [decide_eq_true (HK.out.1 c)]; simpa using c
  · rw [decide_eq_false (fun h => c (HK.out.2 h))]; simpa using c

end Go.Proofs.Ytakemienlmlgkaa
