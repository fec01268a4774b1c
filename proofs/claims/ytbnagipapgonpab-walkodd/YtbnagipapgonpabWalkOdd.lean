/- The law WalkOdd, walked, out of the contract of Sides. -/
import Derived.Test.YtbnagipapgonpabWalks
import Derived.Test.YtbnagipapgonpabSMath
import Derived.Deep.RegionHeld3
namespace Go.Proofs.Ytbnagipapgonpab
open Go.RowKit
set_option linter.unusedVariables false

set_option maxHeartbeats 400000 in
theorem Rest_any (q : Int) (m : Nat) (w : World) (h1 : 1 ≤ m) (h2 : m ≤ 60) :
    Calls Try.prog 7 #[.int .i64 q, .int .i64 (m : Int)] w fun e w' => e = .returned (.int .i64 (q % (m : Int))) ∧ w' = w := by
  have hm0 : ((m : Int) == 0) = false := by simp; omega
  have ht := Int.tmod_lt_of_pos q (b := (m : Int)) (by omega)
  have ht2 : -(m : Int) < Int.tmod q m := by
    have := Int.lt_tmod_of_pos q (b := (m : Int)) (by omega)
    omega
  have hem : q % (m : Int) = if Int.tmod q m < 0 then Int.tmod q m + m else Int.tmod q m := by
    rw [Int.tmod_eq_emod]
    have h3 := Int.emod_nonneg q (b := (m : Int)) (by omega)
    have h4 := Int.emod_lt_of_pos q (b := (m : Int)) (by omega)
    have h5 : ((m : Int)).natAbs = m := by omega
    split
    · split <;> omega
    · split <;> omega
  rw [hem]
  clear hem
  by_cases hneg : Int.tmod q m < 0
  · rw [if_pos hneg]
    go_enter Try.func7, Try.ntmps7
    go_wp2
    go_ret
    exact ⟨rfl, rfl⟩
  · rw [if_neg hneg]
    go_enter Try.func7, Try.ntmps7
    go_wp2
    go_ret
    exact ⟨rfl, rfl⟩

theorem graphErr_ne6 (n least : Int) (l : List Arc3) : graphErr n least l ≠ 6 := by
  unfold graphErr
  split
  · decide
  · split
    · decide
    · induction l with
      | nil => simp [arcsErr]
      | cons a r ih =>
        rw [arcsErr]
        split
        · exact ih (by simp_all; omega)
        · unfold arcErr
          split
          · split <;> decide
          · decide

theorem sides_line {S : List Int} (h : SidesIs 3 lineL S) : S = [0, 1, 0] := by
  have h0 := h.root 0 (by omega) (fun u _ => Nat.zero_le _)
  have h1 := h.arc 0 1 4 (by simp [lineL])
  have h2 := h.arc 1 2 3 (by simp [lineL])
  have t1 := h.two 1 (by omega)
  have t2 := h.two 2 (by omega)
  refine ext_ati (by rw [h.len]; rfl) fun v hv => ?_
  rw [h.len] at hv
  rcases (by omega : v = 0 ∨ v = 1 ∨ v = 2) with rfl | rfl | rfl
  · exact h0
  · show ati S 1 = 1; omega
  · show ati S 2 = 0; omega

theorem sides_line_there : ∃ T, SidesIs 3 lineL T := by
  refine ⟨[0, 1, 0], rfl, fun v hv => ?_, fun f t c hm => ?_, fun v hv hr => ?_⟩
  · rcases (by omega : v = 0 ∨ v = 1 ∨ v = 2) with rfl | rfl | rfl <;> simp [ati]
  · simp [lineL] at hm
    rcases hm with ⟨h1, h2, _⟩ | ⟨h1, h2, _⟩
    · obtain rfl : f = 0 := by omega
      obtain rfl : t = 1 := by omega
      simp [ati]
    · obtain rfl : f = 1 := by omega
      obtain rfl : t = 2 := by omega
      simp [ati]
  · have j1 : Jn lineL 0 1 := Jn.arc (a := (0, 1, 4)) (by simp [lineL])
    rcases (by omega : v = 0 ∨ v = 1 ∨ v = 2) with rfl | rfl | rfl
    · rfl
    · have := hr 0 j1; omega
    · rfl

theorem no_odd {N : Nat} {l : List Arc3} {S : List Int} (h : SidesIs N l S) (hl : ∀ a ∈ l, (0 ≤ a.1 ∧ a.1 < (N : Int)) ∧ (0 ≤ a.2.1 ∧ a.2.1 < (N : Int))) {z n : Nat} (hz : z < N) (hw : Wk (both l) z n z) : n % 2 = 0 := by
  have h1 := (h.walk hl hz hw).2
  rcases h.two z hz with e | e <;> rw [e] at h1 <;> omega

theorem blk3' {w : World} {b : Nat} {x y z : Value} {t : TypeId} (h : w.heap[b]? = some (.cells #[x, y, z] t (0, 0))) :
    w.cell? ⟨b, 0, none⟩ = some x ∧ w.cell? ⟨b, 1, none⟩ = some y ∧ w.cell? ⟨b, 2, none⟩ = some z := by
  have r : w.rowIs b t 3 (fun j => if j = 0 then x else if j = 1 then y else z) := ⟨_, h, rfl, fun i hi => by
    match i, hi with
    | 0, _ => rfl
    | 1, _ => rfl
    | 2, _ => rfl⟩
  exact ⟨r.cell (i := 0) (by omega), r.cell (i := 1) (by omega), r.cell (i := 2) (by omega)⟩

set_option maxHeartbeats 4000000 in
set_option maxRecDepth 100000 in
theorem WalkOdd_any (hC : SidesC) (n : Int) (ao : Option Addr) (cap : Nat) (l : List Arc3) (ao0 : Option Addr) (cap0 : Nat) (st : List Int) (w : World) (hG : GraphIn w ao cap l) (hSt : IntsAt w ao0 st) (hsm : st.length ≤ maxLen) :
    Calls Try.prog 3 #[.agg #[.int .i64 n, .slice ao l.length cap], .slice ao0 st.length cap0] w fun e w' => e = .returned (.bool true) ∧ Below w.heap.size w w' := by
  have hm := hG.len
  have hG0 := hG.alloc (.cells #[.int .i64 n, .slice ao l.length cap] 24)
  have hSt0 := hSt.alloc (.cells #[.int .i64 n, .slice ao l.length cap] 24)
  have x0 := blk_new w (.cells #[.int .i64 n, .slice ao l.length cap] 24)
  have h00 : ((0 : Int) != 0) = false := rfl
  have h00' : ((0 : Int) == 0) = true := rfl
  unfold maxLen at hsm
  go_enter Try.func3, Try.ntmps3
  go_wp2_with fail
  refine (line_any _).mono ?_
  rintro e w1 ⟨hb1, ao1, cap1, rfl, hA1, hc1, hm1⟩
  have hz1 := hb1.size
  simp only [World.size_alloc] at hb1 hz1
  go_wp2_with fail
  refine (hC 3 ao1 cap1 lineL w1 (line_in hA1 hc1 hm1)).mono ?_
  rintro e w2 ⟨hb2, ao2, cap2, Q, err, rfl, hI2, _, _, hy2⟩
  have hQ : err = 0 ∧ Q = [0, 1, 0] := by
    rcases hy2 (by decide) with ⟨h, hs⟩ | ⟨_, hn⟩
    · exact ⟨h, sides_line hs⟩
    · obtain ⟨T, hT⟩ := sides_line_there; exact absurd hT (hn T)
  obtain ⟨rfl, rfl⟩ := hQ
  have hz2 := hb2.size
  have x2 := blk_below hb2 (blk_below hb1 x0 (by omega)) (by omega)
  have hG2 := (hG0.below hb1 (by simp)).below hb2 (by omega)
  have hSt2 := (hSt0.below hb1 (by simp)).below hb2 (by omega)
  have hbb2 := below_in (hb1.trans (hb2.mono (by omega))) (by omega)
  clear hb1 hb2 x0 hG0 hSt0 hA1 hy2
  go_wp2_with fail
  refine (equalIntsB ao2 _ cap2 3 [0, 1, 0] [0, 1, 0] _ (by decide) (by decide) (hI2.alloc _) (ints_new w2 [0, 1, 0] 3)).mono ?_
  rintro e w3 ⟨rfl, hb3⟩
  rw [decide_eq_true (rfl : ([0, 1, 0] : List Int) = [0, 1, 0])]
  have hz3 := hb3.size
  simp only [World.size_alloc] at hb3 hz3
  have x3 := blk_below hb3 (blk_old x2 _) (by omega)
  have hG3 := (hG2.alloc _).below hb3 (by simp)
  have hSt3 := (hSt2.alloc _).below hb3 (by simp)
  have hbb3 := hbb2.trans (((below_one w2 _).trans (hb3.mono (by omega))).mono (by omega))
  clear hb3 x2 hG2 hSt2 hbb2 hI2
  obtain ⟨r0, r1, f0, f1⟩ := blk2 x3
  go_wp2_with fail
  refine (hC n ao cap l w3 hG3).mono ?_
  rintro e w4 ⟨hb4, ao4, cap4, S, err, rfl, hI4, hn4, he4, hy4⟩
  have hz4 := hb4.size
  have x4 := blk_below hb4 x3 (by omega)
  have hG4 := hG3.below hb4 (by omega)
  have hSt4 := hSt3.below hb4 (by omega)
  have hbb4 := hbb3.trans (hb4.mono (by omega))
  have hw4 : w.heap.size < w4.heap.size := by omega
  have HN4 : Hid (err ≠ 0 → S = []) := hn4
  have HE4 : Hid (graphErr n (-10000) l ≠ 0 → err = graphErr n (-10000) l) := he4
  have HY4 : Hid (graphErr n (-10000) l = 0 → (err = 0 ∧ SidesIs n.toNat l S) ∨ (err = 6 ∧ ∀ T, ¬ SidesIs n.toNat l T)) := hy4
  clear hb4 x3 hG3 hSt3 hbb3 hn4 he4 hy4 r0 r1 f0 f1
  obtain ⟨r0, r1, f0, f1⟩ := blk2 x4
  by_cases hE : graphErr n (-10000) l = 0
  · obtain ⟨⟨hn1, hn2⟩, hlen, hnodes⟩ := err_ok hE
    obtain ⟨N, rfl⟩ := Int.eq_ofNat_of_zero_le (show 0 ≤ n by omega)
    have HL : Hid (∀ a ∈ l, (0 ≤ a.1 ∧ a.1 < (N : Int)) ∧ (0 ≤ a.2.1 ∧ a.2.1 < (N : Int))) := fun a ha => ⟨(hnodes a ha).1, (hnodes a ha).2.1⟩
    have hy := HY4.out hE
    rw [Int.toNat_natCast] at hy
    have HSt : Hid (IntsAt w4 ao0 st) := hSt4
    have HA : Hid (ArcsAt w4 ao l) := hG4.arcs
    have HX : Hid (w4.heap[w.heap.size]? = some (.cells #[.int .i64 (N : Int), .slice ao l.length cap] 24 (0, 0))) := x4
    have h60 : ((6 : Int) != 0) = true := rfl
    have h66 : ((6 : Int) != 6) = false := rfl
    have h60' : ((6 : Int) == 0) = false := rfl
    clear HE4 HY4 hnodes hE hG4 hSt4 x4
    by_cases hshort : l.length = 0 ∨ 10000 < st.length
    · rcases hy with ⟨rfl, hS⟩ | ⟨rfl, _⟩
      · rw [hS.len]
        have hNN : ((N : Int) == (N : Int)) = true := by simp
        rcases hshort with h0 | h0
        · have h0' : ((l.length : Int) == 0) = true := by simp [h0]
          go_wp2
          go_ret
          exact ⟨rfl, hbb4⟩
        · by_cases hl0 : l.length = 0
          · have h0' : ((l.length : Int) == 0) = true := by simp [hl0]
            go_wp2
            go_ret
            exact ⟨rfl, hbb4⟩
          · have h0' : ((l.length : Int) == 0) = false := by rw [beq_eq_false_iff_ne]; omega
            have h1' : (10000 : Int) < (st.length : Int) := by omega
            go_wp2
            go_ret
            exact ⟨rfl, hbb4⟩
      · rcases hshort with h0 | h0
        · have h0' : ((l.length : Int) == 0) = true := by simp [h0]
          go_wp2
          go_ret
          exact ⟨rfl, hbb4⟩
        · by_cases hl0 : l.length = 0
          · have h0' : ((l.length : Int) == 0) = true := by simp [hl0]
            go_wp2
            go_ret
            exact ⟨rfl, hbb4⟩
          · have h0' : ((l.length : Int) == 0) = false := by rw [beq_eq_false_iff_ne]; omega
            have h1' : (10000 : Int) < (st.length : Int) := by omega
            go_wp2
            go_ret
            exact ⟨rfl, hbb4⟩
    · have hl0 : 0 < l.length := by omega
      have hst : st.length ≤ 10000 := by omega
      have h0' : ((l.length : Int) == 0) = false := by rw [beq_eq_false_iff_ne]; omega
      have h1' : ¬ (10000 : Int) < (st.length : Int) := by omega
      obtain ⟨bA, oA, e0, hbA, c00, _, _⟩ := HA.out 0 hl0
      subst e0
      have hz0 := HL.out _ (at3_mem l 0 hl0)
      obtain ⟨z, hzz⟩ := Int.eq_ofNat_of_zero_le hz0.1.1
      have hzN : z < N := by omega
      rw [hzz] at c00
      rw [Nat.zero_mul, Nat.add_zero] at c00
      have HZ : Hid ((at3 l 0).1 = z) := hzz
      clear hshort hz0 hzz
      rcases hy with ⟨rfl, hS⟩ | ⟨rfl, _⟩
      · have HS : Hid (SidesIs N l S) := hS
        have HSl : Hid (S.length = N) := hS.len
        rw [HSl.out]
        have HI4 : Hid (∀ v, v < N → ∃ b off, ao4 = some ⟨b, off, none⟩ ∧ b < w4.heap.size ∧ w4.cell? ⟨b, off + v, none⟩ = some (.int .i64 (ati S v))) := fun v hv => hI4 v (by rw [HSl.out]; exact hv)
        have HOdd : Hid (∀ cnt : Nat, Wk (both l) z cnt z → cnt % 2 = 0) := fun cnt h => no_odd HS.out HL.out hzN h
        clear hS hI4
        have HBs0 : Hid (Below w4.heap.size w4 w4) := Below.refl _ _
        go_wp2
        go_loopw [71] (fun i wr => ∃ k : Nat, k ≤ l.length ∧ i = .int .i64 k ∧ Below w4.heap.size w4 wr) (fun i _ => l.length - (intOf i).toNat)
        case atStart => exact ⟨0, Nat.zero_le _, rfl, HBs0.out⟩
        case round =>
          obtain ⟨k, hk, rfl, hB⟩ := hrel
          clear r0 r1 f0 f1 c00 HBs0
          have hz := hB.size
          by_cases hkl : k < l.length
          · obtain ⟨b1, o1, e1, hb1, a0, a1, a2⟩ := HA.out.below hB (Nat.le_refl _) k hkl
            cases e1
            have hmem := at3_mem l k hkl
            obtain ⟨arc, harc⟩ : ∃ arc, at3 l k = arc := ⟨_, rfl⟩
            rw [harc] at a0 a1 a2 hmem
            obtain ⟨f, t, x⟩ := arc
            obtain ⟨⟨p1, p2⟩, p3, p4⟩ := HL.out _ hmem
            simp only at a0 a1 a2 p1 p2 p3 p4
            obtain ⟨f, rfl⟩ := Int.eq_ofNat_of_zero_le p1
            obtain ⟨t, rfl⟩ := Int.eq_ofNat_of_zero_le p3
            have hfN : f < N := by omega
            have htN : t < N := by omega
            obtain ⟨b2, o2, rfl, hb2, s0⟩ := HI4.out f hfN
            obtain ⟨b3, o3, e3, hb3, s1⟩ := HI4.out t htN
            cases e3
            have s0 := later hB s0 hb2
            have s1 := later hB s1 hb2
            have hb2' : b2 < wr.heap.size := by omega
            have hne := HS.out.arc f t x hmem
            have t0 := HS.out.two f hfN
            have t1 := HS.out.two t htN
            have HBr : Hid (Below w4.heap.size w4 wr) := hB
            clear hB hmem harc
            have hcase : (ati S f = 0 ∧ ati S t = 1) ∨ (ati S f = 1 ∧ ati S t = 0) := by omega
            clear hne t0 t1
            rcases hcase with ⟨g0, g1⟩ | ⟨g0, g1⟩
            · rw [g0] at s0
              rw [g1] at s1
              clear g0 g1
              go_wp2
              go_quiet (fail)
              go_wp2
              go_roundw
              case rel => exact ⟨k + 1, by omega, by go_num, below_drewN (HBr.out.alloc (by omega) _) _⟩
              case measure => simp [intOf]; omega
            · rw [g0] at s0
              rw [g1] at s1
              clear g0 g1
              go_wp2
              go_quiet (fail)
              go_wp2
              go_roundw
              case rel => exact ⟨k + 1, by omega, by go_num, below_drewN (HBr.out.alloc (by omega) _) _⟩
              case measure => simp [intOf]; omega
          · have x5 := blk_below hB HX.out hw4
            obtain ⟨r0, r1, f0, f1⟩ := blk2 x5
            obtain ⟨b1, o1, e1, hb1, c00, _, _⟩ := HA.out.below hB (Nat.le_refl _) 0 hl0
            cases e1
            rw [HZ.out] at c00
            rw [Nat.zero_mul, Nat.add_zero] at c00
            have HBs : Hid (Below w4.heap.size w4 wr) := hB
            have hbAr : bA < wr.heap.size := by omega
            have hwr0 : w.heap.size < wr.heap.size := by omega
            clear hB x5
            go_wp2
            go_loopw [11, 13, 113] (fun va vn i wr => ∃ (k cnt u : Nat), k ≤ st.length ∧ cnt ≤ k ∧ va = .int .i64 u ∧ vn = .int .i64 cnt ∧ i = .int .i64 k ∧ u < N ∧ Wk (both l) z cnt u ∧ Below w4.heap.size w4 wr) (fun _ _ i _ => st.length - (intOf i).toNat)
            case atStart => exact ⟨0, 0, z, Nat.zero_le _, Nat.le_refl _, rfl, rfl, rfl, hzN, rfl, HBs.out⟩
            case round =>
              obtain ⟨k, cnt, u, hk, hcnt, rfl, rfl, rfl, hu, hwk, hB⟩ := hrel
              clear r0 r1 f0 f1 c00 HBs
              have hz := hB.size
              have x5 := blk_below hB HX.out hw4
              obtain ⟨r0, r1, f0, f1⟩ := blk2 x5
              by_cases hkl : k < st.length
              · obtain ⟨bs, os, rfl, hbs, cs⟩ := HSt.out.below hB (Nat.le_refl _) k hkl
                obtain ⟨q, hq⟩ : ∃ q, ati st k = q := ⟨_, rfl⟩
                rw [hq] at cs
                obtain ⟨m, hm0⟩ : ∃ m : Nat, q % (l.length : Int) = m := ⟨(q % (l.length : Int)).toNat, by
                  have := Int.emod_nonneg q (b := (l.length : Int)) (by omega)
                  omega⟩
                have hml : m < l.length := by
                  have := Int.emod_lt_of_pos q (b := (l.length : Int)) (by omega)
                  omega
                obtain ⟨ba, oa, e1, hba, a0, a1, a2⟩ := HA.out.below hB (Nat.le_refl _) m hml
                cases e1
                have hmem := at3_mem l m hml
                obtain ⟨arc, harc⟩ : ∃ arc, at3 l m = arc := ⟨_, rfl⟩
                rw [harc] at a0 a1 a2 hmem
                obtain ⟨f, t, x⟩ := arc
                obtain ⟨⟨p1, p2⟩, p3, p4⟩ := HL.out _ hmem
                simp only at a0 a1 a2 p1 p2 p3 p4
                obtain ⟨f, rfl⟩ := Int.eq_ofNat_of_zero_le p1
                obtain ⟨t, rfl⟩ := Int.eq_ofNat_of_zero_le p3
                have HW1 : Hid (u = f → Wk (both l) z (cnt + 1) t) := fun e => ⟨((f : Int), (t : Int), x), List.mem_append.2 (Or.inl hmem), by subst e; exact hwk, rfl⟩
                have HW2 : Hid (u = t → Wk (both l) z (cnt + 1) f) := fun e => ⟨((t : Int), (f : Int), x), List.mem_append.2 (Or.inr (List.mem_map.2 ⟨_, hmem, rfl⟩)), by subst e; exact hwk, rfl⟩
                have HW : Hid (Wk (both l) z cnt u) := hwk
                have hfN : f < N := by omega
                have htN : t < N := by omega
                have HBr : Hid (Below w4.heap.size w4 wr) := hB
                have hwr : w.heap.size < wr.heap.size := by omega
                have HRest : Hid (∀ x : World, Calls Try.prog 7 #[.int .i64 q, .int .i64 (l.length : Int)] x fun e w' => e = .returned (.int .i64 (m : Int)) ∧ w' = x) := fun x => by
                  have := Rest_any q l.length x (by omega) (by omega)
                  rwa [hm0] at this
                have SSx : Hid (∀ y : World, Below wr.heap.size wr y → Below wr.heap.size wr y ∧ y.cell? ⟨w.heap.size, 0, none⟩ = some (.int .i64 (N : Int)) ∧ y.cell? ⟨w.heap.size, 1, none⟩ = some (.slice (some ⟨bA, oA, none⟩) l.length cap) ∧ y.cell? ⟨bA, oA + m * 3, none⟩ = some (.int .i64 (f : Int)) ∧ y.cell? ⟨bA, oA + m * 3 + 1, none⟩ = some (.int .i64 (t : Int)) ∧ y.cell? ⟨bA, oA + m * 3 + 2, none⟩ = some (.int .i64 x)) := fun y h => ⟨h, later h r0 hwr, later h r1 hwr, later h a0 hba, later h a1 hba, later h a2 hba⟩
                clear hwk hB hmem harc x5 hq hm0
                go_wp2
                go_cut [16, 113] from 113 to 153 (fun s i wx => i = .int .i64 (k : Int) ∧ ∃ p, s = .pointer (some ⟨p, 0, none⟩) ∧ wx.heap[p]? = some (.cells #[.int .i64 (f : Int), .int .i64 (t : Int), .int .i64 x] 32 (0, 0)) ∧ Below w4.heap.size w4 wx)
                case first =>
                  go_region_held3 (fun y => Below wr.heap.size wr y ∧ y.cell? ⟨w.heap.size, 0, none⟩ = some (.int .i64 (N : Int)) ∧ y.cell? ⟨w.heap.size, 1, none⟩ = some (.slice (some ⟨bA, oA, none⟩) l.length cap) ∧ y.cell? ⟨bA, oA + m * 3, none⟩ = some (.int .i64 (f : Int)) ∧ y.cell? ⟨bA, oA + m * 3 + 1, none⟩ = some (.int .i64 (t : Int)) ∧ y.cell? ⟨bA, oA + m * 3 + 2, none⟩ = some (.int .i64 x))
                    (first
                      | assumption
                      | exact SSx.out _ ((Below.refl _ wr).drew)
                      | exact SSx.out _ ((below_one wr _).drew))
                    (first
                      | (go_at_call 7; refine Calls.mono (HRest.out _) ?_; rintro e w9 ⟨rfl, hw9⟩; subst hw9))
                  all_goals
                    go_wp2_with fail
                    go_meet
                    case rel => exact ⟨rfl, wr.heap.size, rfl, blk_new _ _, (HBr.out.alloc (by omega) _).drew⟩
                case rest =>
                  obtain ⟨rfl, p, rfl, hp, hB⟩ := hcut
                  clear r0 r1 f0 f1
                  obtain ⟨d0, d1, d2⟩ := blk3' hp
                  have hpl : p < wc.heap.size := (Array.getElem?_eq_some_iff.1 hp).1
                  clear HRest SSx
                  by_cases huf : u = f
                  · have hwf := HW1.out huf
                    subst huf
                    have HWn : Hid (Wk (both l) z (cnt + 1) t) := hwf
                    have e1 : ((u : Int) == (u : Int)) = true := by simp
                    clear hwf HW1 HW2
                    by_cases htz : t = z
                    · subst htz
                      have e2 : ((t : Int) == (t : Int)) = true := by simp
                      have hpar : (cnt + 1) % 2 = 0 := HOdd.out _ HWn.out
                      go_wp2
                      all_goals
                        go_roundw
                        case rel => exact ⟨k + 1, cnt + 1, t, by omega, by omega, by go_num, by go_num, by go_num, htN, HWn.out, hB⟩
                        case measure => simp [intOf]; omega
                    · have e2 : ((t : Int) == (z : Int)) = false := by rw [beq_eq_false_iff_ne]; omega
                      go_wp2
                      all_goals
                        go_roundw
                        case rel => exact ⟨k + 1, cnt + 1, t, by omega, by omega, by go_num, by go_num, by go_num, htN, HWn.out, hB⟩
                        case measure => simp [intOf]; omega
                  · have e1 : ((u : Int) == (f : Int)) = false := by rw [beq_eq_false_iff_ne]; omega
                    by_cases hut : u = t
                    · have hwf := HW2.out hut
                      subst hut
                      have HWn : Hid (Wk (both l) z (cnt + 1) f) := hwf
                      have e3 : ((u : Int) == (u : Int)) = true := by simp
                      clear hwf HW1 HW2
                      by_cases htz : f = z
                      · subst htz
                        have e2 : ((f : Int) == (f : Int)) = true := by simp
                        have hpar : (cnt + 1) % 2 = 0 := HOdd.out _ HWn.out
                        go_wp2
                        all_goals
                          go_roundw
                          case rel => exact ⟨k + 1, cnt + 1, f, by omega, by omega, by go_num, by go_num, by go_num, hfN, HWn.out, hB⟩
                          case measure => simp [intOf]; omega
                      · have e2 : ((f : Int) == (z : Int)) = false := by rw [beq_eq_false_iff_ne]; omega
                        go_wp2
                        all_goals
                          go_roundw
                          case rel => exact ⟨k + 1, cnt + 1, f, by omega, by omega, by go_num, by go_num, by go_num, hfN, HWn.out, hB⟩
                          case measure => simp [intOf]; omega
                    · have e3 : ((u : Int) == (t : Int)) = false := by rw [beq_eq_false_iff_ne]; omega
                      clear HW1 HW2
                      go_wp2
                      go_roundw
                      case rel => exact ⟨k + 1, cnt, u, by omega, by omega, rfl, rfl, by go_num, hu, HW.out, hB⟩
                      case measure => simp [intOf]; omega
              · have hkk : k = st.length := by omega
                have hbb5 := hbb4.trans (hB.mono (by omega))
                clear hwk
                go_wp2
                go_ret
                exact ⟨rfl, hbb5⟩
      · have HBs : Hid (Below w4.heap.size w4 w4) := Below.refl _ _
        go_wp2
        go_loopw [11, 13, 113] (fun va vn i wr => ∃ (k cnt u : Nat), k ≤ st.length ∧ cnt ≤ k ∧ va = .int .i64 u ∧ vn = .int .i64 cnt ∧ i = .int .i64 k ∧ u < N ∧ Wk (both l) z cnt u ∧ Below w4.heap.size w4 wr) (fun _ _ i _ => st.length - (intOf i).toNat)
        case atStart => exact ⟨0, 0, z, Nat.zero_le _, Nat.le_refl _, rfl, rfl, rfl, hzN, rfl, HBs.out⟩
        case round =>
          obtain ⟨k, cnt, u, hk, hcnt, rfl, rfl, rfl, hu, hwk, hB⟩ := hrel
          clear r0 r1 f0 f1 c00 HBs
          have hz := hB.size
          have x5 := blk_below hB HX.out hw4
          obtain ⟨r0, r1, f0, f1⟩ := blk2 x5
          by_cases hkl : k < st.length
          · obtain ⟨bs, os, rfl, hbs, cs⟩ := HSt.out.below hB (Nat.le_refl _) k hkl
            obtain ⟨q, hq⟩ : ∃ q, ati st k = q := ⟨_, rfl⟩
            rw [hq] at cs
            obtain ⟨m, hm0⟩ : ∃ m : Nat, q % (l.length : Int) = m := ⟨(q % (l.length : Int)).toNat, by
              have := Int.emod_nonneg q (b := (l.length : Int)) (by omega)
              omega⟩
            have hml : m < l.length := by
              have := Int.emod_lt_of_pos q (b := (l.length : Int)) (by omega)
              omega
            obtain ⟨ba, oa, e1, hba, a0, a1, a2⟩ := HA.out.below hB (Nat.le_refl _) m hml
            cases e1
            have hmem := at3_mem l m hml
            obtain ⟨arc, harc⟩ : ∃ arc, at3 l m = arc := ⟨_, rfl⟩
            rw [harc] at a0 a1 a2 hmem
            obtain ⟨f, t, x⟩ := arc
            obtain ⟨⟨p1, p2⟩, p3, p4⟩ := HL.out _ hmem
            simp only at a0 a1 a2 p1 p2 p3 p4
            obtain ⟨f, rfl⟩ := Int.eq_ofNat_of_zero_le p1
            obtain ⟨t, rfl⟩ := Int.eq_ofNat_of_zero_le p3
            have HW1 : Hid (u = f → Wk (both l) z (cnt + 1) t) := fun e => ⟨((f : Int), (t : Int), x), List.mem_append.2 (Or.inl hmem), by subst e; exact hwk, rfl⟩
            have HW2 : Hid (u = t → Wk (both l) z (cnt + 1) f) := fun e => ⟨((t : Int), (f : Int), x), List.mem_append.2 (Or.inr (List.mem_map.2 ⟨_, hmem, rfl⟩)), by subst e; exact hwk, rfl⟩
            have HW : Hid (Wk (both l) z cnt u) := hwk
            have hfN : f < N := by omega
            have htN : t < N := by omega
            have HBr : Hid (Below w4.heap.size w4 wr) := hB
            have hwr : w.heap.size < wr.heap.size := by omega
            have HRest : Hid (∀ x : World, Calls Try.prog 7 #[.int .i64 q, .int .i64 (l.length : Int)] x fun e w' => e = .returned (.int .i64 (m : Int)) ∧ w' = x) := fun x => by
              have := Rest_any q l.length x (by omega) (by omega)
              rwa [hm0] at this
            have SSx : Hid (∀ y : World, Below wr.heap.size wr y → Below wr.heap.size wr y ∧ y.cell? ⟨w.heap.size, 0, none⟩ = some (.int .i64 (N : Int)) ∧ y.cell? ⟨w.heap.size, 1, none⟩ = some (.slice (some ⟨bA, oA, none⟩) l.length cap) ∧ y.cell? ⟨bA, oA + m * 3, none⟩ = some (.int .i64 (f : Int)) ∧ y.cell? ⟨bA, oA + m * 3 + 1, none⟩ = some (.int .i64 (t : Int)) ∧ y.cell? ⟨bA, oA + m * 3 + 2, none⟩ = some (.int .i64 x)) := fun y h => ⟨h, later h r0 hwr, later h r1 hwr, later h a0 hba, later h a1 hba, later h a2 hba⟩
            clear hwk hB hmem harc x5 hq hm0
            go_wp2
            go_cut [16, 113] from 113 to 153 (fun s i wx => i = .int .i64 (k : Int) ∧ ∃ p, s = .pointer (some ⟨p, 0, none⟩) ∧ wx.heap[p]? = some (.cells #[.int .i64 (f : Int), .int .i64 (t : Int), .int .i64 x] 32 (0, 0)) ∧ Below w4.heap.size w4 wx)
            case first =>
              go_region_held3 (fun y => Below wr.heap.size wr y ∧ y.cell? ⟨w.heap.size, 0, none⟩ = some (.int .i64 (N : Int)) ∧ y.cell? ⟨w.heap.size, 1, none⟩ = some (.slice (some ⟨bA, oA, none⟩) l.length cap) ∧ y.cell? ⟨bA, oA + m * 3, none⟩ = some (.int .i64 (f : Int)) ∧ y.cell? ⟨bA, oA + m * 3 + 1, none⟩ = some (.int .i64 (t : Int)) ∧ y.cell? ⟨bA, oA + m * 3 + 2, none⟩ = some (.int .i64 x))
                (first
                  | assumption
                  | exact SSx.out _ ((Below.refl _ wr).drew)
                  | exact SSx.out _ ((below_one wr _).drew))
                (first
                  | (go_at_call 7; refine Calls.mono (HRest.out _) ?_; rintro e w9 ⟨rfl, hw9⟩; subst hw9))
              all_goals
                go_wp2_with fail
                go_meet
                case rel => exact ⟨rfl, wr.heap.size, rfl, blk_new _ _, (HBr.out.alloc (by omega) _).drew⟩
            case rest =>
              obtain ⟨rfl, p, rfl, hp, hB⟩ := hcut
              clear r0 r1 f0 f1
              obtain ⟨d0, d1, d2⟩ := blk3' hp
              have hpl : p < wc.heap.size := (Array.getElem?_eq_some_iff.1 hp).1
              clear HRest SSx
              by_cases huf : u = f
              · have hwf := HW1.out huf
                subst huf
                have HWn : Hid (Wk (both l) z (cnt + 1) t) := hwf
                have e1 : ((u : Int) == (u : Int)) = true := by simp
                clear hwf HW1 HW2
                by_cases htz : t = z
                · subst htz
                  have e2 : ((t : Int) == (t : Int)) = true := by simp
                  go_wp2
                  all_goals
                    go_roundw
                    case rel => exact ⟨k + 1, cnt + 1, t, by omega, by omega, by go_num, by go_num, by go_num, htN, HWn.out, hB⟩
                    case measure => simp [intOf]; omega
                · have e2 : ((t : Int) == (z : Int)) = false := by rw [beq_eq_false_iff_ne]; omega
                  go_wp2
                  all_goals
                    go_roundw
                    case rel => exact ⟨k + 1, cnt + 1, t, by omega, by omega, by go_num, by go_num, by go_num, htN, HWn.out, hB⟩
                    case measure => simp [intOf]; omega
              · have e1 : ((u : Int) == (f : Int)) = false := by rw [beq_eq_false_iff_ne]; omega
                by_cases hut : u = t
                · have hwf := HW2.out hut
                  subst hut
                  have HWn : Hid (Wk (both l) z (cnt + 1) f) := hwf
                  have e3 : ((u : Int) == (u : Int)) = true := by simp
                  clear hwf HW1 HW2
                  by_cases htz : f = z
                  · subst htz
                    have e2 : ((f : Int) == (f : Int)) = true := by simp
                    go_wp2
                    all_goals
                      go_roundw
                      case rel => exact ⟨k + 1, cnt + 1, f, by omega, by omega, by go_num, by go_num, by go_num, hfN, HWn.out, hB⟩
                      case measure => simp [intOf]; omega
                  · have e2 : ((f : Int) == (z : Int)) = false := by rw [beq_eq_false_iff_ne]; omega
                    go_wp2
                    all_goals
                      go_roundw
                      case rel => exact ⟨k + 1, cnt + 1, f, by omega, by omega, by go_num, by go_num, by go_num, hfN, HWn.out, hB⟩
                      case measure => simp [intOf]; omega
                · have e3 : ((u : Int) == (t : Int)) = false := by rw [beq_eq_false_iff_ne]; omega
                  clear HW1 HW2
                  go_wp2
                  go_roundw
                  case rel => exact ⟨k + 1, cnt, u, by omega, by omega, rfl, rfl, by go_num, hu, HW.out, hB⟩
                  case measure => simp [intOf]; omega
          · have hkk : k = st.length := by omega
            have hbb5 := hbb4.trans (hB.mono (by omega))
            clear hwk
            go_wp2
            go_ret
            exact ⟨rfl, hbb5⟩
  · have e1 := HE4.out hE
    have e2 := HN4.out (by rw [e1]; exact hE)
    subst e2
    have hge : (graphErr n (-10000) l != 0) = true := by simpa using hE
    have hge6 : (graphErr n (-10000) l != 6) = true := by simpa using graphErr_ne6 n (-10000) l
    rw [e1]
    clear HN4 HE4 HY4 e1
    generalize graphErr n (-10000) l = ge at *
    go_wp2
    go_ret
    exact ⟨rfl, hbb4⟩

end Go.Proofs.Ytbnagipapgonpab
