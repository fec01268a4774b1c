/- The law SpanCut, walked out of the contract of Least. -/
import Derived.Test.YtgmdacobbeoobaaSpanC
import Derived.Test.YtgmdacobbeoobaaContains
namespace Go.Proofs.Ytgmdacobbeoobaa
open Go.RowKit
set_option linter.unusedVariables false

/-- the bit of a node in the set -/
def bitOf (s : Int) (v : Int) : Int := bits .and .u16 (s / 2 ^ v.toNat) 1
theorem bitOf_nat (s : Int) (v : Nat) : bitOf s (v : Int) = bits .and .u16 (s / 2 ^ v) 1 := by unfold bitOf; rw [Int.toNat_natCast]

def crossA (s : Int) (l : List Arc3) (i : Nat) : Prop := bitOf s (at3 l i).1 ≠ bitOf s (at3 l i).2.1

instance (s : Int) (l : List Arc3) (i : Nat) : Decidable (crossA s l i) := by unfold crossA; exact inferInstance

/-- the best so far -/
def BestI (s : Int) (l : List Arc3) (k : Nat) (b : Int) : Prop :=
  (b = -1 ∧ ∀ i, i < k → ¬ crossA s l i) ∨ (∃ j : Nat, b = (j : Int) ∧ j < k ∧ crossA s l j ∧ ∀ i, i < k → crossA s l i → ¬ ltA l i j)

theorem best_start (s : Int) (l : List Arc3) : BestI s l 0 (-1) := Or.inl ⟨rfl, fun i hi => absurd hi (Nat.not_lt_zero _)⟩
theorem best_skip {s : Int} {l : List Arc3} {k : Nat} {b : Int} (h : BestI s l k b) (hc : ¬ crossA s l k) : BestI s l (k + 1) b := by
  have hs : ∀ i, i < k + 1 → crossA s l i → i < k := fun i hi hci => by
    by_cases e : i = k
    · rw [e] at hci; exact absurd hci hc
    · omega
  rcases h with ⟨h1, h2⟩ | ⟨j, h1, h2, h3, h4⟩
  · exact Or.inl ⟨h1, fun i hi hci => h2 i (hs i hi hci) hci⟩
  · exact Or.inr ⟨j, h1, by omega, h3, fun i hi hci => h4 i (hs i hi hci) hci⟩
theorem best_first {s : Int} {l : List Arc3} {k : Nat} (h : BestI s l k (-1)) (hc : crossA s l k) : BestI s l (k + 1) (k : Int) := by
  rcases h with ⟨_, h2⟩ | ⟨j, h1, _⟩
  · refine Or.inr ⟨k, rfl, by omega, hc, fun i hi hci hlt => ?_⟩
    by_cases e : i = k
    · rw [e] at hlt; exact ltA_irrefl l k hlt
    · exact h2 i (by omega) hci
  · omega
theorem best_new {s : Int} {l : List Arc3} {k j : Nat} (h : BestI s l k (j : Int)) (hc : crossA s l k) (hlt : (at3 l k).2.2 < (at3 l j).2.2) : BestI s l (k + 1) (k : Int) := by
  rcases h with ⟨h1, _⟩ | ⟨j', h1, h2, h3, h4⟩
  · omega
  · obtain rfl : j = j' := by omega
    refine Or.inr ⟨k, rfl, by omega, hc, fun i hi hci hl2 => ?_⟩
    by_cases e : i = k
    · rw [e] at hl2; exact ltA_irrefl l k hl2
    · have := h4 i (by omega) hci
      unfold ltA at this hl2
      omega
theorem best_old {s : Int} {l : List Arc3} {k j : Nat} (h : BestI s l k (j : Int)) (hlt : ¬ (at3 l k).2.2 < (at3 l j).2.2) : BestI s l (k + 1) (j : Int) := by
  rcases h with ⟨h1, _⟩ | ⟨j', h1, h2, h3, h4⟩
  · omega
  · obtain rfl : j = j' := by omega
    refine Or.inr ⟨j, rfl, by omega, h3, fun i hi hci hl2 => ?_⟩
    by_cases e : i = k
    · subst e; unfold ltA at hl2; omega
    · exact h4 i (by omega) hci hl2

set_option maxRecDepth 10000 in
set_option maxHeartbeats 2000000 in
theorem SpanCut_any (hC : LeastC) (n s : Int) (hs : 0 ≤ s ∧ s < 65536) (ao : Option Addr) (cap : Nat) (l : List Arc3) (w : World) (hG : GraphIn w ao cap l) :
    Calls Try.prog 3 #[.agg #[.int .i64 n, .slice ao l.length cap], .int .u16 s] w fun e w' => e = .returned (.bool true) ∧ Below w.heap.size w w' := by
  have hne0 : ((0 : Int) != 0) = false := rfl
  have x0 := blk_new w (.cells #[.int .i64 n, .slice ao l.length cap] 24)
  have hm := hG.len
  have HG : Hid (GraphIn w ao cap l) := hG
  clear hG
  go_enter Try.func3, Try.ntmps3
  go_wp2_with fail
  refine (spans_any hC _).mono ?_
  rintro e w1 ⟨rfl, hb1⟩
  simp only [World.size_alloc] at hb1
  have hz1 := hb1.size
  simp only [World.size_alloc] at hz1
  have x1 := blk_below hb1 x0 (by omega)
  have HB1 : Hid (Below w.heap.size w w1) := below_in hb1 (by omega)
  have hG1 := HG.out.below HB1.out (Nat.le_refl _)
  clear hb1 x0
  obtain ⟨r0, r1, f0, f1⟩ := blk2 x1
  have hw1 : w.heap.size < w1.heap.size := by omega
  go_wp2_with fail
  refine (hC n ao cap l w1 hG1).mono ?_
  rintro e w2 ⟨hb2, ao2, cap2, K, sm, rfl, hI2, hz, hy⟩
  have hz2 := hb2.size
  have x2 := blk_below hb2 x1 hw1
  have HB2 : Hid (Below w.heap.size w w2) := HB1.out.trans (hb2.mono (by omega))
  clear hG1 hb2 x1 r0 r1 f0 f1
  obtain ⟨r0, r1, f0, f1⟩ := blk2 x2
  have hw2 : w.heap.size < w2.heap.size := by omega
  by_cases hE : graphErr n (-10000) l = 0
  · obtain ⟨hK, _⟩ := hy hE
    obtain ⟨⟨hn1, hn2⟩, hlen, hnod⟩ := err_ok hE
    have HNod : Hid (∀ a ∈ l, (0 ≤ a.1 ∧ a.1 < n) ∧ (0 ≤ a.2.1 ∧ a.2.1 < n)) := fun a ha => ⟨(hnod a ha).1, (hnod a ha).2.1⟩
    have HCap : Hid (∀ a ∈ l, -10000 ≤ a.2.2 ∧ a.2.2 ≤ 10000) := fun a ha => ⟨(hnod a ha).2.2.1, (hnod a ha).2.2.2⟩
    have HK : Hid (LeastIs l K) := hK
    have HI : Hid (IntsAt w2 ao2 (numK K)) := hI2
    have HX : Hid (w2.heap[w.heap.size]? = some (.cells #[.int .i64 n, .slice ao l.length cap] 24 (0, 0))) := x2
    have hKl : K.length ≤ 60 := by
      have := pigS (A := K) (m := List.range l.length) (hK.up.imp fun hlt => Nat.ne_of_lt hlt) fun x hx => List.mem_range.2 (hK.lt x hx)
      rw [List.length_range] at this; omega
    rw [hE]
    clear hy hz hE hK hnod hI2 x2
    go_wp2_with fail
    go_loopw [8, 27] (fun bs i wr => ∃ k : Nat, k ≤ l.length ∧ i = .int .i64 k ∧ (∃ b, bs = .int .i64 b ∧ Hid (BestI s l k b)) ∧ Hid (Below w2.heap.size w2 wr)) (fun _ i _ => l.length - (intOf i).toNat)
    case atStart => exact ⟨0, Nat.zero_le _, rfl, ⟨_, rfl, best_start s l⟩, Below.refl _ _⟩
    case round =>
      obtain ⟨k, hk, rfl, ⟨b, rfl, HBst⟩, HB⟩ := hrel
      have hzr := HB.out.size
      have xr := blk_below HB.out HX.out hw2
      obtain ⟨r0, r1, f0, f1⟩ := blk2 xr
      by_cases hlt : k < l.length
      · have hAr := (HG.out.below HB2.out (Nat.le_refl _)).below HB.out (Nat.le_refl _)
        obtain ⟨ab, aof, rfl, hab, c0, c1, c2⟩ := hAr.arcs k hlt
        have hmem := at3_mem l k hlt
        obtain ⟨⟨n1, n2⟩, n3, n4⟩ := HNod.out _ hmem
        obtain ⟨m1, m2⟩ := HCap.out _ hmem
        obtain ⟨f, hf⟩ := Int.eq_ofNat_of_zero_le n1
        obtain ⟨t, ht⟩ := Int.eq_ofNat_of_zero_le n3
        rw [hf] at c0
        rw [ht] at c1
        have HCr : Hid (crossA s l k ↔ bits .and .u16 (s / 2 ^ f) 1 ≠ bits .and .u16 (s / 2 ^ t) 1) := by
          unfold Hid crossA; rw [hf, ht, bitOf_nat, bitOf_nat]
        have hf12 : f < 12 := by omega
        have ht12 : t < 12 := by omega
        have hwr : w.heap.size < wr.heap.size := by omega
        have habz : ab < wr.heap.size := hab
        have hX0 : (bits .and .u16 (s / 2 ^ f) 1 != bits .and .u16 (s / 2 ^ t) 1) = decide (crossA s l k) := by
          by_cases e : crossA s l k
          · rw [decide_eq_true e]; simpa using HCr.out.1 e
          · rw [decide_eq_false e]
            have : bits .and .u16 (s / 2 ^ f) 1 = bits .and .u16 (s / 2 ^ t) 1 := Classical.byContradiction fun h => e (HCr.out.2 h)
            rw [this]; simp
        have hcK : (at3 l k).2.2 = (at3 l k).2.2 := rfl
        obtain ⟨c, hc⟩ : ∃ c, c = (at3 l k).2.2 := ⟨_, rfl⟩
        rw [← hc] at c2 m1 m2
        have HCc : Hid (c = (at3 l k).2.2) := hc
        by_cases hcr : crossA s l k
        · rw [decide_eq_true hcr] at hX0
          rcases HBst.out with ⟨rfl, hno⟩ | ⟨j, rfl, hjk, hcj, hmin⟩
          · have HN : Hid (BestI s l (k + 1) (k : Int)) := best_first HBst.out hcr
            have hb0 : decide ((-1 : Int) < 0) = true := rfl
            clear hcr hno HBst HCr hcK hc hmem hf ht n1 n2 n3 n4 hAr
            go_wp2_with fail
            go_quiet (fail)
            go_wp2_with fail
            go_roundw
            case rel => exact ⟨k + 1, by omega, by go_num, ⟨(k : Int), rfl, HN⟩, below_drewN (HB.out.alloc hzr _) _⟩
            case measure => simp [intOf]; omega
          · have hjl : j < l.length := by omega
            obtain ⟨_, _, ej, _, _, _, d2⟩ := hAr.arcs j hjl
            cases ej
            obtain ⟨q1, q2⟩ := HCap.out _ (at3_mem l j hjl)
            have hb0 : decide ((j : Int) < 0) = false := decide_eq_false (by omega)
            have hjI : (j : Int) < (l.length : Int) := by omega
            have hj0 : (0 : Int) ≤ (j : Int) := by omega
            by_cases hlc : (at3 l k).2.2 < (at3 l j).2.2
            · have HN : Hid (BestI s l (k + 1) (k : Int)) := best_new HBst.out hcr hlc
              rw [← hc] at hlc
              generalize (at3 l j).2.2 = cj at *
              have hdc : decide (c < cj) = true := decide_eq_true hlc
              clear hcr hcj hmin HBst HCr hcK hc hmem hf ht n1 n2 n3 n4 hAr
              go_wp2_with fail
              go_quiet (fail)
              go_wp2_with fail
              go_roundw
              case rel => exact ⟨k + 1, by omega, by go_num, ⟨(k : Int), rfl, HN⟩, below_drewN (HB.out.alloc hzr _) _⟩
              case measure => simp [intOf]; omega
            · have HN : Hid (BestI s l (k + 1) (j : Int)) := best_old HBst.out hlc
              rw [← hc] at hlc
              generalize (at3 l j).2.2 = cj at *
              have hdc : decide (c < cj) = false := decide_eq_false hlc
              clear hcr hcj hmin HBst HCr hcK hc hmem hf ht n1 n2 n3 n4 hAr
              go_wp2_with fail
              go_quiet (fail)
              go_wp2_with fail
              go_roundw
              case rel => exact ⟨k + 1, by omega, by go_num, ⟨(j : Int), rfl, HN⟩, below_drewN (HB.out.alloc hzr _) _⟩
              case measure => simp [intOf]; omega
        · rw [decide_eq_false hcr] at hX0
          have HN : Hid (BestI s l (k + 1) b) := best_skip HBst.out hcr
          clear hcr HBst HCr hcK hc hmem hf ht n1 n2 n3 n4 hAr
          go_wp2_with fail
          go_quiet (fail)
          go_wp2_with fail
          go_roundw
          case rel => exact ⟨k + 1, by omega, by go_num, ⟨b, rfl, HN⟩, below_drewN (HB.out.alloc hzr _) _⟩
          case measure => simp [intOf]; omega
      · obtain rfl : k = l.length := by omega
        have hIr := HI.out.below HB.out (Nat.le_refl _)
        have HBw : Hid (Below w.heap.size w wr) := HB2.out.trans (HB.out.mono (by omega))
        rcases HBst.out with ⟨rfl, hno⟩ | ⟨j, rfl, hjk, hcj, hmin⟩
        · clear hno HBst hIr
          go_wp2_with fail
          go_ret
          exact ⟨rfl, HBw.out⟩
        · have hin : j ∈ K := HK.out.cut (S := bitOf s) hjk hcj fun i hi hci => hmin i hi hci
          have hcall := containsInts ao2 cap2 (numK K) (j : Int) wr (by rw [numK_len]; unfold maxLen; omega) hIr
          rw [decide_eq_true (numK_mem.2 hin), numK_len] at hcall
          have hj0 : ¬ (j : Int) < 0 := by omega
          clear hin hcj hmin HBst hIr
          go_wp2_with (go_at_call 9; refine hcall.mono ?_; rintro e w9 ⟨rfl, hw9⟩; subst hw9)
          go_ret
          exact ⟨rfl, HBw.out⟩
  · obtain ⟨rfl, rfl⟩ := hz hE
    have hEn : (graphErr n (-10000) l != 0) = true := by simpa using hE
    have heq : ((0 : Int) == 0) = true := rfl
    clear hE hy hz hI2
    go_wp2_with fail
    go_ret
    exact ⟨rfl, HB2.out⟩

end Go.Proofs.Ytgmdacobbeoobaa
