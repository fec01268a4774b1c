/- The law WalkSides, walked, out of the contract of Sides. -/
import Derived.Test.YtbnagipapgonpaaWalkC
import Derived.Test.YtbnagipapgonpaaSidesOf
import Derived.Test.YtbnagipapgonpaaRefErr
import Derived.Test.YtbnagipapgonpaaSl
namespace Go.Proofs.Ytbnagipapgonpaa
open Go.RowKit
set_option linter.unusedVariables false

theorem any_bad {N : Nat} {l : List Arc3} {S : List Int} (hS : ByFar N l S) (hl : ∀ a ∈ l, (0 ≤ a.1 ∧ a.1 < (N : Int)) ∧ (0 ≤ a.2.1 ∧ a.2.1 < (N : Int))) : l.any (badAt S) = false ↔ SidesIs N l S := by
  constructor
  · intro h
    refine hS.sides fun f t c ha e => ?_
    have := List.any_eq_false.1 h _ ha
    simp [badAt, e] at this
  · intro h
    rw [List.any_eq_false]
    intro a ha
    obtain ⟨⟨p1, p2⟩, p3, p4⟩ := hl a ha
    obtain ⟨f, t, c⟩ := a
    simp only at p1 p2 p3 p4
    obtain ⟨f, rfl⟩ := Int.eq_ofNat_of_zero_le p1
    obtain ⟨t, rfl⟩ := Int.eq_ofNat_of_zero_le p3
    have := h.arc f t c ha
    simpa [badAt] using this

set_option maxHeartbeats 1000000 in
set_option maxRecDepth 100000 in
theorem WalkSides_any (hC : SidesC) (n : Int) (ao : Option Addr) (cap : Nat) (l : List Arc3) (w : World) (hG : GraphIn w ao cap l) :
    Calls Try.prog 4 #[.agg #[.int .i64 n, .slice ao l.length cap]] w fun e w' => e = .returned (.bool true) ∧ Below w.heap.size w w' := by
  have hm := hG.len
  have hG0 := hG.alloc (.cells #[.int .i64 n, .slice ao l.length cap] 24)
  have x0 := blk_new w (.cells #[.int .i64 n, .slice ao l.length cap] 24)
  go_enter Try.func4, Try.ntmps4
  go_wp2_with fail
  refine (hC n ao cap l _ hG0).mono ?_
  rintro e w1 ⟨hb1, ao1, cap1, S, err, rfl, hI1, he1, he2, he3⟩
  simp only [World.size_alloc] at hb1
  have hz1 := hb1.size
  simp only [World.size_alloc] at hz1
  have x1 := blk_below hb1 x0 (by omega)
  have hG1 := hG0.below hb1 (by simp)
  have hbb1 := below_in hb1 (by omega)
  have H1 : Hid (err ≠ 0 → S = []) := he1
  have H2 : Hid (graphErr n (-10000) l ≠ 0 → err = graphErr n (-10000) l) := he2
  have H3 : Hid (graphErr n (-10000) l = 0 → (err = 0 ∧ SidesIs n.toNat l S) ∨ (err = 6 ∧ ∀ T, ¬ SidesIs n.toNat l T)) := he3
  clear he1 he2 he3 hb1 x0 hG0
  obtain ⟨r0, r1, f0, f1⟩ := blk2 x1
  go_wp2_with fail
  refine (refLongErr_any n ao cap l w1 hm hG1.arcs).mono ?_
  rintro e w2 ⟨rfl, hb2⟩
  have hz2 := hb2.size
  have x2 := blk_below hb2 x1 (by omega)
  have hG2 := hG1.below hb2 (by omega)
  have hI2 := hI1.below hb2 (by omega)
  have hbb2 := hbb1.trans (hb2.mono (by omega))
  clear hb2 x1 hG1 hI1 hbb1 r0 r1 f0 f1
  obtain ⟨r0, r1, f0, f1⟩ := blk2 x2
  by_cases hE : graphErr n (-10000) l = 0
  · rw [hE]
    obtain ⟨⟨hn1, hn2⟩, hlen, hnodes⟩ := err_ok hE
    obtain ⟨N, rfl⟩ := Int.eq_ofNat_of_zero_le (show 0 ≤ n by omega)
    have hl : ∀ a ∈ l, (0 ≤ a.1 ∧ a.1 < (N : Int)) ∧ (0 ≤ a.2.1 ∧ a.2.1 < (N : Int)) := fun a ha => ⟨(hnodes a ha).1, (hnodes a ha).2.1⟩
    obtain ⟨T, hT⟩ := byfar_there N l hl
    have HT : Hid (ByFar N l T) := hT
    have HL : Hid (∀ a ∈ l, (0 ≤ a.1 ∧ a.1 < (N : Int)) ∧ (0 ≤ a.2.1 ∧ a.2.1 < (N : Int))) := hl
    have HE : Hid (graphErr N (-10000) l = 0) := hE
    have h00 : ((0 : Int) != 0) = false := rfl
    clear hT hl hnodes hE
    go_wp2_with fail
    refine (SidesOf_any N ao cap l w2 T HT.out hG2.arcs hG2.nil hlen (by omega) (by omega) HL.out).mono ?_
    rintro e w3 ⟨hb3, ao3, cap3, rfl, hI3⟩
    have hz3 := hb3.size
    have hI2' := hI2.below hb3 (by omega)
    have hbb3 := hbb2.trans (hb3.mono (by omega))
    have hTl := HT.out.len
    have h3 := H3.out HE.out
    rw [Int.toNat_natCast] at h3
    clear hb3 hI2 hbb2 hG2 x2
    rcases h3 with ⟨rfl, hS⟩ | ⟨rfl, hno⟩
    · have hST : S = T := hS.eq HT.out HL.out
      subst hST
      rw [(any_bad HT.out HL.out).2 hS]
      have hEq := equalIntsB ao1 ao3 cap1 cap3 S S w3 (by rw [hTl]; unfold maxLen; omega) (by rw [hTl]; unfold maxLen; omega) hI2' hI3
      rw [decide_eq_true rfl] at hEq
      rw [hTl] at hEq ⊢
      have HEq : Hid (Calls Try.prog 13 #[.slice ao1 N cap1, .slice ao3 N cap3] w3 fun e w' => e = .returned (.bool true) ∧ Below w3.heap.size w3 w') := hEq
      have h0 : ((0 : Int) == 0) = true := rfl
      clear hEq hS hTl hI2' hI3
      go_wp2_with fail
      refine Calls.mono HEq.out ?_
      rintro e w4 ⟨rfl, hb4⟩
      have hbb4 := hbb3.trans (hb4.mono (by omega))
      clear hb4
      go_wp2
      go_ret
      exact ⟨rfl, hbb4⟩
    · have hSe := H1.out (by decide)
      subst hSe
      have hbad : l.any (badAt T) = true := by
        cases e : l.any (badAt T)
        · exact absurd ((any_bad HT.out HL.out).1 e) (hno T)
        · rfl
      rw [hbad]
      have h6 : ((6 : Int) == 6) = true := rfl
      clear hbad hno hTl hI2' hI3
      go_wp2
      go_ret
      exact ⟨rfl, hbb3⟩
  · have hE' : (graphErr n (-10000) l != 0) = true := by simpa using hE
    have e1 := H2.out hE
    subst e1
    have e2 := H1.out hE
    subst e2
    have hEE : (graphErr n (-10000) l == graphErr n (-10000) l) = true := by simp
    clear hE
    go_wp2
    go_ret
    exact ⟨rfl, hbb2⟩

end Go.Proofs.Ytbnagipapgonpaa
