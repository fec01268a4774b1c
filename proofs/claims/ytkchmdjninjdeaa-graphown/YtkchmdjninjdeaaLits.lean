/- Contracts of the laws' own helpers: arcs written out, a line of three nodes. -/
import Derived.Test.YtkchmdjninjdeaaDegrees
namespace Go.Proofs.Ytkchmdjninjdeaa
open Go.RowKit
set_option linter.unusedVariables false

/-- arcs as the cells of a row -/
def flat (l : List Arc3) : List Value := l.flatMap fun a => [.int .i64 a.1, .int .i64 a.2.1, .int .i64 a.2.2]

theorem flat_append (l m : List Arc3) : flat (l ++ m) = flat l ++ flat m := by simp [flat]

theorem flat_length (l : List Arc3) : (flat l).length = l.length * 3 := by
  induction l with
  | nil => rfl
  | cons a r ih =>
    have : flat (a :: r) = [.int .i64 a.1, .int .i64 a.2.1, .int .i64 a.2.2] ++ flat r := by simp [flat]
    rw [this, List.length_append, ih]; simp; omega

theorem flat_at (l : List Arc3) (i : Nat) (h : i < l.length) : (flat l)[i * 3]? = some (.int .i64 (at3 l i).1) ∧ (flat l)[i * 3 + 1]? = some (.int .i64 (at3 l i).2.1) ∧ (flat l)[i * 3 + 2]? = some (.int .i64 (at3 l i).2.2) := by
  induction l generalizing i with
  | nil => simp at h
  | cons a r ih =>
    have e : flat (a :: r) = .int .i64 a.1 :: .int .i64 a.2.1 :: .int .i64 a.2.2 :: flat r := by simp [flat]
    rw [e]
    cases i with
    | zero => simp [at3]
    | succ i =>
      have h' : i < r.length := by simpa using h
      have := ih i h'
      rw [show (i + 1) * 3 = i * 3 + 3 by omega]
      have e2 : at3 (a :: r) (i + 1) = at3 r i := by simp [at3]
      rw [e2]
      simpa using this

theorem owns_arcs {w : World} {B : Nat} {t : TypeId} {v : Value} {l : List Arc3} (h : w.ownsRow B t 3 v l.length (flat l)) :
    ∃ ao cap, v = .slice ao l.length cap ∧ ArcsAt w ao l ∧ (∀ b off, ao = some ⟨b, off, none⟩ → B ≤ b) ∧ l.length ≤ cap ∧ cap ≤ maxLen := by
  rcases h.2 with ⟨rfl, hn⟩ | ⟨g, cap, cur, rfl, hB, hg, hle, hcap, hcs, htk⟩
  · exact ⟨none, 0, by rw [hn], fun i hi => absurd hi (by omega), (fun b off e => by cases e), by omega, Nat.zero_le _⟩
  · refine ⟨some ⟨g, 0, none⟩, cap, rfl, fun i hi => ?_, fun b off e => by cases e; exact hB, hle, hcap⟩
    have hlt : g < w.heap.size := by
      obtain ⟨h1, _⟩ := Array.getElem?_eq_some_iff.1 hg
      exact h1
    have q := flat_at l i hi
    refine ⟨g, 0, rfl, hlt, ?_, ?_, ?_⟩
    · rw [Nat.zero_add, h.cellAt _ (by omega)]; exact q.1
    · rw [Nat.zero_add, h.cellAt _ (by omega)]; exact q.2.1
    · rw [Nat.zero_add, h.cellAt _ (by omega)]; exact q.2.2

set_option maxHeartbeats 800000 in
theorem arcs_any (ao : Option Addr) (cap : Nat) (l : List Arc3) (w : World) (hA : ArcsAt w ao l) (hlen : l.length ≤ 60) :
    Calls Try.prog 14 #[.slice ao l.length cap] w fun e w' => Below w.heap.size w w' ∧
      ∃ ao' cap', e = .returned (.slice ao' l.length cap') ∧ ArcsAt w' ao' l ∧ (∀ b off, ao' = some ⟨b, off, none⟩ → w.heap.size ≤ b) ∧ l.length ≤ cap' ∧ cap' ≤ maxLen := by
  obtain ⟨i0, hi, hz0, hz1, hz2⟩ := info_parts infoArc
  go_enter Try.func14, Try.ntmps14
  go_wp2
  go_loopw [3, 8] (fun v i wr => ∃ k : Nat, k ≤ l.length ∧ i = .int .i64 k ∧ wr.ownsRow w.heap.size 37 3 v k (flat (l.take k)) ∧ Below w.heap.size w wr) (fun _ i _ => l.length - (intOf i).toNat)
  case atStart => exact ⟨0, Nat.zero_le _, rfl, World.ownsRow_nil _ _ _ _, Below.refl _ _⟩
  case round =>
    obtain ⟨k, hk, rfl, hown, hB⟩ := hrel
    by_cases hlt : k < l.length
    · obtain ⟨b, off, rfl, hb, c0, c1, c2⟩ := hA k hlt
      have c0 := later hB c0 hb
      have c1 := later hB c1 hb
      have c2 := later hB c2 hb
      have hsz := hB.size
      have hbz : b < wr.heap.size := by omega
      have hsn := take_snoc3 l k hlt
      generalize ha : at3 l k = a at *
      obtain ⟨f, t, c⟩ := a
      simp only at c0 c1 c2
      have HS : Hid (flat (l.take (k + 1)) = flat (l.take k) ++ [.int .i64 f, .int .i64 t, .int .i64 c]) := by rw [Hid, hsn, flat_append]; rfl
      clear ha hsn
      go_wp2_with (at_builtin; refine wpList_append_own _ rfl (.tmp 12) (.tmp 20) 25 rfl w.heap.size 37 i0 _ 3 24 Try.underlying25 hi hz0 hz1 hz2 rfl (by decide) _ _ _ rfl ((hown.alloc _).alloc _) ⟨wr.heap.size + 1, 0, none⟩ 1 1 [.int .i64 f, .int .i64 t, .int .i64 c] rfl rfl ?c1 ?c2 ?c3 ?c4 ?c5 ?_)
      case c2 => exact ⟨rfl, rfl, rfl⟩
      case c3 => unfold maxLen; omega
      case c4 => omega
      case c5 => omega
      · intro v' w1 hown' hgrow _
        rw [← HS.out] at hown'
        have hB' : Below w.heap.size w w1 := ((hB.alloc hsz _).alloc (by simp; omega) _).grown hgrow (by simp; omega) (by
          intro g hg
          rcases hown.2 with ⟨rfl, _⟩ | ⟨g', _, _, rfl, hB0, _⟩
          · cases hg
          · simp only [Value.ownBlock, Option.some.injEq] at hg; omega)
        clear hgrow hown
        go_wp2
        go_roundw
        case rel => exact ⟨k + 1, by omega, by go_num, hown', hB'⟩
        case measure => simp [intOf]; omega
    · have hkl : k = l.length := by omega
      subst hkl
      rw [List.take_length] at hown
      obtain ⟨ao', cap', rfl, hA', hfr, hcl, hcm⟩ := owns_arcs hown
      have HF : Hid (∀ b off, ao' = some ⟨b, off, none⟩ → w.heap.size ≤ b) := hfr
      clear hfr
      go_wp2
      go_ret
      exact ⟨hB, ao', cap', rfl, hA', HF.out, hcl, hcm⟩

def lineL : List Arc3 := [(0, 1, 4), (1, 2, 3)]

theorem arcs_new (w : World) (l : List Arc3) (t : TypeId) : ArcsAt (w.alloc (.cells (flat l).toArray t)) (some ⟨w.heap.size, 0, none⟩) l := by
  intro i hi
  have q := flat_at l i hi
  refine ⟨_, _, rfl, by simp, ?_, ?_, ?_⟩
  · rw [newest, Nat.zero_add]; simpa using q.1
  · rw [newest, Nat.zero_add]; simpa using q.2.1
  · rw [newest, Nat.zero_add]; simpa using q.2.2

set_option maxHeartbeats 800000 in
theorem line_any (w : World) :
    Calls Try.prog 9 #[] w fun e w' => Below w.heap.size w w' ∧
      ∃ ao cap, e = .returned (.agg #[.int .i64 3, .slice ao 2 cap]) ∧ ArcsAt w' ao lineL ∧ 2 ≤ cap ∧ cap ≤ maxLen := by
  go_enter Try.func9, Try.ntmps9
  go_wp2_with fail
  have hL := arcs_new (w.alloc (.cells #[.int .i64 0, .slice none 0 0] 27)) lineL 41
  rw [World.size_alloc] at hL
  refine (arcs_any _ 2 lineL _ hL (by decide)).mono ?_
  rintro e w1 ⟨hb1, ao', cap', rfl, hA', hfr, hcl, hcm⟩
  have hz := hb1.size
  simp only [World.size_alloc] at hz hb1 hfr
  have hz0 : w.heap.size < w1.heap.size := by omega
  obtain ⟨r0, r1, f0, f1⟩ := blk2 (blk_below hb1 (blk_old (blk_new w (.cells #[.int .i64 0, .slice none 0 0] 27)) _) (by omega))
  have HA : Hid (ArcsAt w1 ao' lineL) := hA'
  have HF : Hid (∀ b off, ao' = some ⟨b, off, none⟩ → w.heap.size + 1 + 1 ≤ b) := hfr
  have hll : lineL.length = 2 := rfl
  clear hA' hL hfr
  go_wp2
  refine bodyPost_ret (v := .agg #[.int .i64 3, .slice ao' 2 cap']) (by simp [results, Try.results9, go_sem, r0, r1]) rfl ⟨?_, ao', cap', rfl, ?_, hcl, hcm⟩
  · exact ((((below_one w _).alloc (by simp) _).trans (hb1.mono (by omega))).setCell (by simp) _).setCell (by simp) _
  · exact (HA.out.setElse (fun b off e => by have := HF.out b off e; simp; omega) _).setElse (fun b off e => by have := HF.out b off e; simp; omega) _

end Go.Proofs.Ytkchmdjninjdeaa
