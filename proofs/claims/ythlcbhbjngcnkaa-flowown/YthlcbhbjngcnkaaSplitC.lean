/- What the laws ask of package flow, said as a contract: Split. -/
import Derived.Test.YthlcbhbjngcnkaaFlowC
import Derived.Test.YthlcbhbjngcnkaaPieces
namespace Go.Proofs.Ythlcbhbjngcnkaa
open Go.RowKit
set_option linter.unusedVariables false

/-- what Split tells -/
structure SplitSays (n s t : Int) (l : List Arc3) (f : List Int) (W R : List Pc) (err : Int) : Prop where
  bad : flowErr n s t l f ≠ 0 → err = flowErr n s t l f
  low : flowErr n s t l f = 0 → gone l (ati f) s < 0 → err = 9
  none : err ≠ 0 → W = [] ∧ R = []
  ok : flowErr n s t l f = 0 → 0 ≤ gone l (ati f) s → err = 0 ∧ SplitIs s t l f W R
theorem SplitSays.right {n s t : Int} {l : List Arc3} {f : List Int} {W R : List Pc} (h : SplitSays n s t l f W R 0) : flowErr n s t l f = 0 ∧ 0 ≤ gone l (ati f) s ∧ SplitIs s t l f W R := by
  have h1 : flowErr n s t l f = 0 := Classical.byContradiction fun hc => hc (h.bad hc).symm
  have h2 : 0 ≤ gone l (ati f) s := Classical.byContradiction fun hc => absurd (h.low h1 (by omega)) (by decide)
  exact ⟨h1, h2, (h.ok h1 h2).2⟩

def FSplitC : Prop := ∀ (n s t : Int) (ao af : Option Addr) (cap capf : Nat) (l : List Arc3) (f : List Int) (w : World), GraphIn w ao cap l → IntsIn w af capf f →
  Calls Try.prog 19 #[.agg #[.int .i64 n, .int .i64 s, .int .i64 t, .slice ao l.length cap], .slice af f.length capf] w fun e w' => Below w.heap.size w w' ∧
    ∃ a1 c1 W a2 c2 R err, e = .returned (.tuple #[.slice a1 (W : List PcV).length c1, .slice a2 (R : List PcV).length c2, .int .i64 err]) ∧ PiecesAt w' a1 W ∧ PiecesAt w' a2 R ∧ SplitSays n s t l f (W.map PcV.pc) (R.map PcV.pc) err

/-- the first i pieces: along an arc; in all -/
def amtV (P : List PcV) (i k : Nat) : Int := amtAt ((P.take i).map PcV.pc) k
def totV (P : List PcV) (i : Nat) : Int := total ((P.take i).map PcV.pc)
theorem take_snocp (P : List PcV) (i : Nat) (h : i < P.length) : P.take (i + 1) = P.take i ++ [atp P i] := by
  rw [List.take_succ_eq_append_getElem h, atp_lt P i h]
theorem amtV_succ (P : List PcV) {i : Nat} (h : i < P.length) (k : Nat) : amtV P (i + 1) k = amtV P i k + along (atp P i).a (atp P i).k k := by
  unfold amtV
  rw [take_snocp P i h, List.map_append, amt_append]
  simp [amtAt, PcV.pc]
theorem totV_succ (P : List PcV) {i : Nat} (h : i < P.length) : totV P (i + 1) = totV P i + (atp P i).a := by
  unfold totV
  rw [take_snocp P i h, List.map_append, total_append]
  simp [total, PcV.pc]
theorem along_snoc {a : Int} {K : List Nat} (hn : K.Nodup) {j : Nat} (hj : j < K.length) (k : Nat) : along a (K.take (j + 1)) k = along a (K.take j) k + (if k = K.getD j 0 then a else 0) := by
  have e : K.getD j 0 = K[j] := by simp [hj]
  rw [e, List.take_succ_eq_append_getElem hj]
  unfold along
  by_cases c : k = K[j]
  · subst c
    have : K[j] ∉ K.take j := by
      intro hm
      obtain ⟨i, hi, he⟩ := List.mem_iff_getElem.1 hm
      rw [List.length_take] at hi
      rw [List.getElem_take] at he
      exact absurd he (List.pairwise_iff_getElem.1 hn i j (by omega) hj (by omega))
    rw [if_pos (List.mem_append_right _ (List.mem_singleton.2 rfl)), if_neg this, if_pos rfl]; omega
  · rw [if_neg c, Int.add_zero]
    by_cases d : k ∈ K.take j
    · rw [if_pos (List.mem_append_left _ d), if_pos d]
    · rw [if_neg d, if_neg]
      intro hm
      rcases List.mem_append.1 hm with hm | hm
      · exact d hm
      · exact c (List.mem_singleton.1 hm)
theorem along_le {a : Int} (ha : 0 ≤ a) (K : List Nat) (j k : Nat) : 0 ≤ along a (K.take j) k ∧ along a (K.take j) k ≤ along a K k := by
  unfold along
  by_cases c : k ∈ K.take j
  · rw [if_pos c, if_pos (List.mem_of_mem_take c)]; omega
  · rw [if_neg c]
    split <;> omega

end Go.Proofs.Ythlcbhbjngcnkaa
