/- What the laws ask of package span, said as contracts: Least, Wide; and the laws' own helper spans. -/
import Derived.Test.YtgmdacobbeoobaaSpanM
import Derived.Test.YtgmdacobbeoobaaWalkC
import Derived.Test.YtgmdacobbeoobaaLits
import Derived.Test.YtgmdacobbeoobaaSl
namespace Go.Proofs.Ytgmdacobbeoobaa
open Go.RowKit
set_option linter.unusedVariables false

/-- numbers of arcs, as integers -/
def numK (K : List Nat) : List Int := K.map (fun k : Nat => (k : Int))
theorem numK_len (K : List Nat) : (numK K).length = K.length := by simp [numK]
theorem numK_at {K : List Nat} {i : Nat} (h : i < K.length) : ati (numK K) i = ((K.getD i 0 : Nat) : Int) := by
  rw [ati_lt _ _ (by rw [numK_len]; exact h)]; simp [numK, h]
theorem numK_mem {K : List Nat} {k : Nat} : (k : Int) ∈ numK K ↔ k ∈ K := by
  unfold numK
  rw [List.mem_map]
  exact ⟨fun ⟨x, hx, e⟩ => by have : x = k := by omega
                              rw [← this]; exact hx, fun h => ⟨k, h, rfl⟩⟩

def sumK (l : List Arc3) (K : List Nat) : Int := (K.map fun k => (at3 l k).2.2).sum

def LeastC : Prop := ∀ (n : Int) (ao : Option Addr) (cap : Nat) (l : List Arc3) (w : World), GraphIn w ao cap l →
  Calls Try.prog 8 #[.agg #[.int .i64 n, .slice ao l.length cap]] w fun e w' => Below w.heap.size w w' ∧
    ∃ ao' cap' K s, e = .returned (.tuple #[.slice ao' (K : List Nat).length cap', .int .i64 s, .int .i64 (graphErr n (-10000) l)]) ∧ IntsAt w' ao' (numK K) ∧ (graphErr n (-10000) l ≠ 0 → K = [] ∧ s = 0) ∧
      (graphErr n (-10000) l = 0 → LeastIs l K ∧ s = sumK l K)

/-- what Wide tells -/
structure WideIs (n : Int) (l : List Arc3) (s t c err : Int) : Prop where
  zero : err ≠ 0 → c = 0
  bad : graphErr n (-10000) l ≠ 0 → err = graphErr n (-10000) l
  node : graphErr n (-10000) l = 0 → ¬ ((0 ≤ s ∧ s < n) ∧ (0 ≤ t ∧ t < n)) → err = 4
  same : graphErr n (-10000) l = 0 → (0 ≤ s ∧ s < n) ∧ (0 ≤ t ∧ t < n) → s = t → err = 3
  none : graphErr n (-10000) l = 0 → (0 ≤ s ∧ s < n) ∧ (0 ≤ t ∧ t < n) → s ≠ t → ¬ Jn l s t → err = 5
  some : graphErr n (-10000) l = 0 → (0 ≤ s ∧ s < n) ∧ (0 ≤ t ∧ t < n) → s ≠ t → Jn l s t → err = 0 ∧ Jn (sel l (fun j => decide ((at3 l j).2.2 ≤ c))) s t ∧ ∀ d : Int, Jn (sel l (fun j => decide ((at3 l j).2.2 ≤ d))) s t → c ≤ d

def WideC : Prop := ∀ (n s t : Int) (ao : Option Addr) (cap : Nat) (l : List Arc3) (w : World), GraphIn w ao cap l →
  Calls Try.prog 15 #[.agg #[.int .i64 n, .slice ao l.length cap], .int .i64 s, .int .i64 t] w fun e w' => Below w.heap.size w w' ∧
    ∃ c err, e = .returned (.tuple #[.int .i64 c, .int .i64 err]) ∧ WideIs n l s t c err

/-- the arcs of K, one by one -/
def pickK (l : List Arc3) (K : List Nat) : List Arc3 := K.map (at3 l)
theorem pickK_mem {l : List Arc3} {K : List Nat} (h : ∀ k ∈ K, k < l.length) {a : Arc3} : a ∈ pickK l K ↔ a ∈ sel l (fun j => decide (j ∈ K)) := by
  unfold pickK
  rw [List.mem_map, mem_sel]
  exact ⟨fun ⟨k, hk, e⟩ => ⟨k, h k hk, decide_eq_true hk, e⟩, fun ⟨k, _, hk, e⟩ => ⟨k, of_decide_eq_true hk, e⟩⟩
theorem pickK_err {n least : Int} {l : List Arc3} {K : List Nat} (h : LeastIs l K) (he : graphErr n least l = 0) : graphErr n least (pickK l K) = 0 := by
  obtain ⟨h1, h2, h3⟩ := err_ok he
  have hle : K.length ≤ l.length := by
    have := pigS (A := K) (m := List.range l.length) (h.up.imp fun hlt => Nat.ne_of_lt hlt) fun x hx => List.mem_range.2 (h.lt x hx)
    simpa using this
  refine err_mk ⟨h1, by rw [pickK, List.length_map]; omega, fun a ha => ?_⟩
  obtain ⟨k, hk, rfl⟩ := List.mem_map.1 ha
  exact h3 _ (at3_mem l k (h.lt k hk))
theorem pickK_wide {l : List Arc3} {K : List Nat} (h : LeastIs l K) (c : Int) {u v : Int} : Jn (sel l (fun j => decide ((at3 l j).2.2 ≤ c))) u v ↔ Jn (sel (pickK l K) (fun j => decide ((at3 (pickK l K) j).2.2 ≤ c))) u v := by
  rw [h.wide c]
  refine Jn.same fun a => ?_
  rw [mem_sel, mem_sel]
  constructor
  · rintro ⟨i, hi, hq, rfl⟩
    obtain ⟨h1, h2⟩ := Bool.and_eq_true_iff.1 hq
    have hm : at3 l i ∈ pickK l K := List.mem_map.2 ⟨i, of_decide_eq_true h2, rfl⟩
    obtain ⟨j, hj, e⟩ := List.mem_iff_getElem.1 hm
    exact ⟨j, hj, by rw [at3_lt _ _ hj, e]; exact h1, by rw [at3_lt _ _ hj, e]⟩
  · rintro ⟨j, hj, hq, rfl⟩
    have hm := at3_mem (pickK l K) j hj
    obtain ⟨i, hi, e⟩ := List.mem_map.1 hm
    exact ⟨i, h.lt i hi, by rw [← e] at hq; rw [hq, decide_eq_true hi]; rfl, e⟩

theorem wide_same {n s t c f d i : Int} {l : List Arc3} {K : List Nat} (hK : LeastIs l K) (he : graphErr n (-10000) l = 0) (h1 : WideIs n l s t c f) (h2 : WideIs n (pickK l K) s t d i) : c = d ∧ f = i := by
  have he' := pickK_err hK he
  by_cases hn : (0 ≤ s ∧ s < n) ∧ (0 ≤ t ∧ t < n)
  · by_cases hst : s = t
    · have e1 := h1.same he hn hst
      have e2 := h2.same he' hn hst
      exact ⟨by rw [h1.zero (by omega), h2.zero (by omega)], by omega⟩
    · have hall : Jn l s t ↔ Jn (pickK l K) s t := by rw [hK.all]; exact Jn.same fun a => (pickK_mem hK.lt).symm
      by_cases hj : Jn l s t
      · obtain ⟨e1, j1, m1⟩ := h1.some he hn hst hj
        obtain ⟨e2, j2, m2⟩ := h2.some he' hn hst (hall.1 hj)
        have a1 := m1 d ((pickK_wide hK d).2 j2)
        have a2 := m2 c ((pickK_wide hK c).1 j1)
        omega
      · have e1 := h1.none he hn hst hj
        have e2 := h2.none he' hn hst fun h => hj (hall.2 h)
        exact ⟨by rw [h1.zero (by omega), h2.zero (by omega)], by omega⟩
  · have e1 := h1.node he hn
    have e2 := h2.node he' hn
    exact ⟨by rw [h1.zero (by omega), h2.zero (by omega)], by omega⟩

/-! ### spans -/

def spanL : List Arc3 := [(0, 1, 5), (1, 2, 3), (2, 0, 4)]

theorem span_least : LeastIs spanL [1, 2] := by
  have b0 : bef spanL 0 = [(1, 2, 3), (2, 0, 4)] := by decide
  have b1 : bef spanL 1 = [] := by decide
  have b2 : bef spanL 2 = [(1, 2, 3)] := by decide
  refine ⟨by decide, by decide, fun k hk => ?_⟩
  have hk : k < 3 := hk
  rcases (by omega : k = 0 ∨ k = 1 ∨ k = 2) with rfl | rfl | rfl
  · rw [b0]
    refine ⟨fun h => absurd h (by decide), fun h => absurd ?_ h⟩
    have j1 : Jn [((1 : Int), (2 : Int), (3 : Int)), (2, 0, 4)] 1 2 := Jn.arc (a := (1, 2, 3)) (by simp)
    have j2 : Jn [((1 : Int), (2 : Int), (3 : Int)), (2, 0, 4)] 2 0 := Jn.arc (a := (2, 0, 4)) (by simp)
    exact (j1.trans j2).symm
  · rw [b1]
    refine ⟨fun _ hj => ?_, fun _ => by decide⟩
    have : (1 : Int) = 2 := Jn.keeps (fun u v => u = v) (fun _ => rfl) (fun _ _ h => h.symm) (fun _ _ _ h1 h2 => h1.trans h2) (fun a ha => absurd ha (by simp)) hj
    omega
  · rw [b2]
    refine ⟨fun _ hj => ?_, fun _ => by decide⟩
    have : ((2 : Int) = 0) ↔ ((0 : Int) = 0) := Jn.keeps (fun u v => (u = 0 ↔ v = 0)) (fun _ => Iff.rfl) (fun _ _ h => h.symm) (fun _ _ _ h1 h2 => h1.trans h2) (fun a ha => by simp at ha; subst ha; decide) hj
    omega

theorem span_in {w : World} {ao : Option Addr} {cap : Nat} (hA : ArcsAt w ao spanL) (h1 : 3 ≤ cap) (h2 : cap ≤ maxLen) : GraphIn w ao cap spanL := by
  refine ⟨hA, h1, h2, fun e => ?_⟩
  obtain ⟨b, off, e', _⟩ := hA 0 (by decide)
  rw [e] at e'; cases e'

set_option maxHeartbeats 1000000 in
theorem spans_any (hC : LeastC) (w : World) : Calls Try.prog 7 #[] w fun e w' => e = .returned (.bool true) ∧ Below w.heap.size w w' := by
  have hE : graphErr 3 (-10000) spanL = 0 := by decide
  go_enter Try.func7, Try.ntmps7
  go_wp2_with fail
  have hL := arcs_new w spanL 47
  refine (arcs_any _ 3 spanL _ hL (by decide)).mono ?_
  rintro e w1 ⟨hb1, ao', cap', rfl, hA', hfr, hcl, hcm⟩
  have hz := hb1.size
  simp only [World.size_alloc] at hz hb1 hfr
  have hll : spanL.length = 3 := rfl
  rw [hll] at hcl ⊢
  have hbb1 := below_in hb1 (by omega)
  clear hL hb1 hfr
  have hG1 := span_in hA' hcl hcm
  go_wp2_with fail
  refine (hC 3 ao' cap' spanL _ hG1).mono ?_
  rintro e w2 ⟨hb2, ao2, cap2, K, s, rfl, hI2, _, hy⟩
  obtain ⟨hK, hs⟩ := hy hE
  obtain rfl := hK.unique span_least
  obtain rfl : s = 7 := hs
  rw [hE]
  have hz2 := hb2.size
  have hbb2 := hbb1.trans (hb2.mono (by omega))
  have HI : Hid (IntsAt w2 ao2 [1, 2]) := hI2
  have HB : Hid (Below w.heap.size w w2) := hbb2
  have hq := equalIntsB ao2 (some ⟨w2.heap.size, 0, none⟩) cap2 2 [1, 2] [1, 2] (w2.alloc (.cells #[.int .i64 1, .int .i64 2] 3)) (by decide) (by decide) (HI.out.alloc _) (ints_new w2 [1, 2] 3)
  rw [decide_eq_true (rfl : ([1, 2] : List Int) = [1, 2])] at hq
  simp only [List.length_cons, List.length_nil, Nat.zero_add] at hq
  have h00 : ((0 : Int) == 0) = true := rfl
  have h77 : ((7 : Int) == 7) = true := rfl
  clear hy hb2 hI2 hbb2 hbb1 hK hG1 hA'
  go_wp2_with fail
  refine hq.mono ?_
  rintro e w3 ⟨rfl, hb3⟩
  have HB3 : Hid (Below w.heap.size w w3) := (HB.out.alloc HB.out.size _).trans (hb3.mono (by have := HB.out.size; simp; omega))
  clear hq hb3
  go_wp2_with fail
  go_ret
  exact ⟨rfl, HB3.out⟩

end Go.Proofs.Ytgmdacobbeoobaa
