/- The law EulerClosed, walked, out of the contracts of Can and Trail. -/
import Derived.Test.YtkcjemhbenkglaaERounds
import Derived.Test.YtkcjemhbenkglaaAppJoin
import Derived.Test.YtkcjemhbenkglaaClone
import Derived.Test.YtkcjemhbenkglaaChEnds
namespace Go.Proofs.Ytkcjemhbenkglaa
open Go.RowKit
set_option linter.unusedVariables false

/-- with an arc from the end to the beginning all can be gone round -/
theorem closed_can {l : List Arc3} {K : List Nat} {s t : Int} (hc : Conn l) (hb : Bal l s t) (hTr : TrailIs l s t K) (hK : 0 < K.length) (c : Int) : CanIs (l ++ [(t, s, c)]) 2 := by
  have hlast := hTr.ch.last hK
  have hx := hTr.lt _ (getD_mem K (K.length - 1) (by omega))
  have hmem := at3_mem l _ hx
  have old : ∀ {a b : Int}, Jn l a b → Jn (l ++ [(t, s, c)]) a b := fun h => h.mono fun a ha => List.mem_append.2 (Or.inl ha)
  have key : ∀ a ∈ l ++ [(t, s, c)], Jn (l ++ [(t, s, c)]) (at3 l (K.getD (K.length - 1) 0)).1 a.1 := by
    intro a ha
    rcases List.mem_append.1 ha with ha | ha
    · exact old (hc _ hmem _ ha)
    · rw [List.mem_singleton.1 ha]
      have := Jn.arc hmem
      rw [hlast] at this
      exact old this
  refine Or.inl ⟨rfl, fun a ha b hb => (key a ha).symm.trans (key b hb), fun v => ?_⟩
  have h1 := hb v
  have e1 := od_cons (t, s, c) [] v
  have e2 := idg_cons (t, s, c) [] v
  have e3 : od [] v = 0 := rfl
  have e4 : idg [] v = 0 := rfl
  rw [od_append, idg_append, e1, e2, e3, e4]
  simp only at *
  omega

theorem closed_err {n : Int} {l : List Arc3} {f t : Int} (h : graphErr n (-10000) l = 0) (hlen : l.length < 60) (hf : 0 ≤ f ∧ f < n) (ht : 0 ≤ t ∧ t < n) : graphErr n (-10000) (l ++ [(f, t, 0)]) = 0 := by
  obtain ⟨h1, h2, h3⟩ := err_ok h
  refine err_mk ⟨h1, by simp; omega, fun a ha => ?_⟩
  rcases List.mem_append.1 ha with ha | ha
  · exact h3 a ha
  · rw [List.mem_singleton.1 ha]; exact ⟨hf, ht, by show (-10000 : Int) ≤ 0; decide, by show (0 : Int) ≤ 10000; decide⟩

set_option maxHeartbeats 4000000 in
set_option maxRecDepth 100000 in
theorem EulerClosed_any (hC : CanC) (hT : TrailC) (n : Int) (ao : Option Addr) (cap : Nat) (l : List Arc3) (w : World) (hG : GraphIn w ao cap l) :
    Calls Try.prog 6 #[.agg #[.int .i64 n, .slice ao l.length cap]] w fun e w' => e = .returned (.bool true) ∧ Below w.heap.size w w' := by
  have hm := hG.len
  have hG0 := hG.alloc (.cells #[.int .i64 n, .slice ao l.length cap] 24)
  have x0 := blk_new w (.cells #[.int .i64 n, .slice ao l.length cap] 24)
  have h00 : ((0 : Int) != 0) = false := rfl
  have h01 : ((0 : Int) == 0) = true := rfl
  go_enter Try.func6, Try.ntmps6
  go_wp2_with fail
  refine (rounds_any hC hT _).mono ?_
  rintro e w1 ⟨rfl, hb1⟩
  simp only [World.size_alloc] at hb1
  have hz1 := hb1.size
  simp only [World.size_alloc] at hz1
  have x1 := blk_below hb1 x0 (by omega)
  have hG1 := hG0.below hb1 (by simp)
  have hbb1 := below_in hb1 (by omega)
  have hw1 : w.heap.size < w1.heap.size := by omega
  clear hb1 x0 hG0 hG
  obtain ⟨r0, r1, f0, f1⟩ := blk2 x1
  go_wp2_with fail
  refine (hC n ao cap l w1 hG1).mono ?_
  rintro e w2 ⟨hb2, k, rfl, hk0, hk1⟩
  have hz2 := hb2.size
  have x2 := blk_below hb2 x1 (by omega)
  have hG2 := hG1.below hb2 (Nat.le_refl _)
  have hbb2 := hbb1.trans (hb2.mono (by omega))
  have hw2 : w.heap.size < w2.heap.size := by omega
  clear hb2 x1 hG1 hbb1 r0 r1 f0 f1
  obtain ⟨r0, r1, f0, f1⟩ := blk2 x2
  go_wp2_with fail
  refine (hT n ao cap l w2 hG2).mono ?_
  rintro e w3 ⟨hb3, aK, cK, K, err, rfl, hI, _, hK60, hy0, hy1⟩
  have hz3 := hb3.size
  have x3 := blk_below hb3 x2 (by omega)
  have hG3 := hG2.below hb3 (Nat.le_refl _)
  have hbb3 := hbb2.trans (hb3.mono (by omega))
  have hw3 : w.heap.size < w3.heap.size := by omega
  clear hb3 x2 hG2 hbb2 r0 r1 f0 f1
  obtain ⟨r0, r1, f0, f1⟩ := blk2 x3
  by_cases hE : graphErr n (-10000) l = 0
  · obtain ⟨⟨hn1, hn2⟩, hlen, hnodes⟩ := err_ok hE
    have HE : Hid (graphErr n (-10000) l = 0) := hE
    have HL : Hid (∀ a ∈ l, (0 ≤ a.1 ∧ a.1 < n) ∧ (0 ≤ a.2.1 ∧ a.2.1 < n)) := fun a ha => ⟨(hnodes a ha).1, (hnodes a ha).2.1⟩
    have HK : Hid (CanIs l k) := hk1 hE
    have hY := hy1 hE
    clear hk0 hk1 hy0 hy1 hnodes
    rw [hE]
    clear hE
    rcases hY with ⟨rfl, rfl, _⟩ | ⟨rfl, hc, s, t, hb, hTr⟩
    · have h50 : ((5 : Int) != 0) = true := rfl
      have h51 : ((5 : Int) == 0) = false := rfl
      have hl0 : ([] : List Nat).length = 0 := rfl
      rw [hl0]
      go_wp2
      go_ret
      exact ⟨rfl, hbb3⟩
    · have hKl := hTr.len
      have HTr : Hid (TrailIs l s t K) := hTr
      have HC : Hid (Conn l) := hc
      have HBal : Hid (Bal l s t) := hb
      have HKl : Hid (K.length = l.length) := hKl
      rw [hKl]
      clear hc hb hTr hKl
      by_cases hl0 : l.length = 0
      · have hl1 : ((l.length : Int) == 0) = true := by simpa using hl0
        rw [hl0]
        go_wp2
        go_ret
        exact ⟨rfl, hbb3⟩
      have hl1 : ((l.length : Int) == 0) = false := by simpa using hl0
      by_cases hl60 : l.length = 60
      · have hl2 : ((l.length : Int) == 60) = true := by rw [hl60]; rfl
        clear hl0 hl60
        go_wp2
        go_ret
        exact ⟨rfl, hbb3⟩
      have hl2 : ((l.length : Int) == 60) = false := by rw [beq_eq_false_iff_ne]; omega
      have hpos : 0 < l.length := by omega
      have hlt60 : l.length < 60 := by omega
      have hK0 : 0 < K.length := by have := HKl.out; omega
      have e1 := HTr.out.ch.first hK0
      have e2 := HTr.out.ch.last hK0
      rw [HKl.out] at e2
      have hx0 := HTr.out.lt _ (getD_mem K 0 hK0)
      have hx1 := HTr.out.lt _ (getD_mem K (l.length - 1) (by have := HKl.out; omega))
      obtain ⟨b5, o5, rfl, hb5, q0⟩ := hI 0 (by rw [nums_length]; exact hK0)
      obtain ⟨_, _, e5, _, q1⟩ := hI (l.length - 1) (by rw [nums_length]; have := HKl.out; omega)
      cases e5
      rw [nums_ati K _ hK0, Nat.add_zero] at q0
      rw [nums_ati K _ (by have := HKl.out; omega)] at q1
      have hcan := closed_can HC.out HBal.out HTr.out hK0 0
      have hse := (HL.out _ (at3_mem l _ hx0)).1
      have hte := (HL.out _ (at3_mem l _ hx1)).2
      generalize K.getD (l.length - 1) 0 = y at *
      generalize K.getD 0 0 = x0 at *
      rw [e1] at hse
      rw [e2] at hte
      obtain ⟨ba, oa, rfl, hba, c0, _, _⟩ := hG3.arcs x0 hx0
      obtain ⟨_, _, e5, _, _, c1, _⟩ := hG3.arcs y hx1
      cases e5
      rw [e1] at c0
      rw [e2] at c1
      have HCan : Hid (CanIs (l ++ [(t, s, 0)]) 2) := hcan
      have HEr : Hid (graphErr n (-10000) (l ++ [(t, s, 0)]) = 0) := closed_err HE.out hlt60 hte hse
      have HKs : Hid ((k = 2 ∧ s = t) ∨ (k = 1 ∧ s ≠ t)) := CanIs.mk HC.out HBal.out HK.out
      have d1 : decide ((x0 : Int) < 0) = false := decide_eq_false (by omega)
      have d2 : decide ((y : Int) < 0) = false := decide_eq_false (by omega)
      have d3 : decide (l.length ≤ x0) = false := decide_eq_false (by omega)
      have d4 : decide (l.length ≤ y) = false := decide_eq_false (by omega)
      have d5 : ¬ l.length ≤ x0 := by omega
      have d6 : ¬ l.length ≤ y := by omega
      clear e1 e2 hcan hse hte hI hl0 hl60
      go_wp2
      go_quiet (fail)
      have x6 : (w3.drewN nq).heap[w.heap.size]? = some (.cells #[.int .i64 n, .slice (some ⟨ba, oa, none⟩) l.length cap] 24 (0, 0)) := x3
      have hA6 : ArcsAt (w3.drewN nq) (some ⟨ba, oa, none⟩) l := hG3.arcs.drewN _
      have hbb6 : Below w.heap.size w (w3.drewN nq) := below_drewN hbb3 _
      have hw6 : w.heap.size < (w3.drewN nq).heap.size := hw3
      have hba6 : ba < (w3.drewN nq).heap.size := hba
      have c06 : (w3.drewN nq).cell? ⟨ba, oa + x0 * 3, none⟩ = some (.int .i64 s) := c0
      have c16 : (w3.drewN nq).cell? ⟨ba, oa + y * 3 + 1, none⟩ = some (.int .i64 t) := c1
      have HN6 : Hid ((some (⟨ba, oa, none⟩ : Addr)) = none → l.length = 0 ∧ cap = 0) := hG3.nil
      obtain ⟨w6, e6⟩ : ∃ w6, w3.drewN nq = w6 := ⟨_, rfl⟩
      rw [e6] at x6 hA6 hbb6 hw6 hba6 c06 c16
      rw [e6]
      clear e6 x3 hG3 hbb3 hw3 hba c0 c1 r0 r1 f0 f1 q0 q1 hb5
      obtain ⟨r0, r1, f0, f1⟩ := blk2 x6
      go_upto_region 8 with fail
      go_cut [65] (fun s wx => s = .bool false ∧ wx = w6)
      case first =>
        rcases Nat.lt_trichotomy x0 y with q | q | q
        · have q' : ¬ y < x0 := by omega
          go_wp2_with fail
          go_meet
          case rel => exact ⟨rfl, rfl⟩
        · subst q
          have q' : ¬ x0 < x0 := by omega
          go_wp2_with fail
          go_meet
          case rel => exact ⟨rfl, rfl⟩
        · have q' : ¬ x0 < y := by omega
          go_wp2_with fail
          go_meet
          case rel => exact ⟨rfl, rfl⟩
      case rest =>
        obtain ⟨rfl, ew⟩ := hcut
        rw [ew]
        clear d1 d2 d3 d4 ew
        go_wp2
        go_cut [9] (fun v wx => ∃ p ao' cap', v = .pointer (some ⟨p, 0, none⟩) ∧ wx.heap[p]? = some (.cells #[.int .i64 n, .slice ao' (l.length + 1) cap'] 24 (0, 0)) ∧ ArcsAt wx ao' (l ++ [(t, s, 0)]) ∧ l.length + 1 ≤ cap' ∧ cap' ≤ maxLen ∧ Below w6.heap.size w6 wx)
        case first =>
          obtain ⟨i0, hi, hy0, hy1, hy2⟩ := info_parts infoArc
          have HA : Hid (ArcsAt w6 (some ⟨ba, oa, none⟩) l) := hA6
          have HN : Hid ((some (⟨ba, oa, none⟩ : Addr)) = none → l.length = 0 ∧ cap = 0) := HN6
          have HR : Hid (l.length * 24 ≤ 140737488351232) := by rw [Hid]; omega
          have HO1 : Hid (∀ u ∈ [Value.int .i64 t, .int .i64 s, .int .i64 0], u.oneCell' = true) := by intro u hu; simp at hu; rcases hu with rfl | rfl | rfl <;> rfl
          have HK1 : Hid (l.length + 1 ≤ maxLen) := by rw [Hid]; unfold maxLen; omega
          have HK2 : Hid ((l.length + 1) * 24 ≤ 140737488355328) := by rw [Hid]; omega
          have HS : Hid (∀ x : World, Below w6.heap.size w6 x → Below w6.heap.size w6 x ∧ x.cell? ⟨w.heap.size, 0, none⟩ = some (.int .i64 n) ∧ x.cell? ⟨w.heap.size, 1, none⟩ = some (.slice (some ⟨ba, oa, none⟩) l.length cap) ∧ x.cell? ⟨ba, oa + y * 3 + 1, none⟩ = some (.int .i64 t) ∧ x.cell? ⟨ba, oa + x0 * 3, none⟩ = some (.int .i64 s)) := fun x h => ⟨h, later h r0 hw6, later h r1 hw6, later h c16 hba6, later h c06 hba6⟩
          clear x6 hA6 hbb6 r0 r1 f0 f1 c06 c16 HE HL HK HTr HC HBal HCan HEr HKs HKl
          go_region_held3 (fun x => Below w6.heap.size w6 x ∧ x.cell? ⟨w.heap.size, 0, none⟩ = some (.int .i64 n) ∧ x.cell? ⟨w.heap.size, 1, none⟩ = some (.slice (some ⟨ba, oa, none⟩) l.length cap) ∧ x.cell? ⟨ba, oa + y * 3 + 1, none⟩ = some (.int .i64 t) ∧ x.cell? ⟨ba, oa + x0 * 3, none⟩ = some (.int .i64 s))
            (first
              | exact HS.out _ ((Below.refl _ w6).drew)
              | exact HS.out _ (below_al (And.left (by assumption)) _)
              | assumption
              | exact HS.out _ (Below.setCell (Below.setCell (And.left (by assumption)) (by first | exact Nat.le_refl _ | exact hz7 | exact Nat.le_succ_of_le hz7 | exact Nat.le_succ _) _) (by first | exact Nat.le_refl _ | exact hz7 | exact Nat.le_succ_of_le hz7 | exact Nat.le_succ _) _))
            (first
              | (refine step_append_join (w0 := w6) rfl (.tmp 70) (.tmp 84) 22 rfl 41 i0 _ 3 24 Try.underlying22 hi hy0 hy1 hy2 rfl (by decide) (.slice ao7 l.length cap7) l.length (flat l) rfl (by first | with_reducible exact HO.out | with_reducible exact HO.out.alloc _ | with_reducible exact (HO.out.alloc _).alloc _) (by with_reducible exact And.left (by assumption)) ⟨w7.heap.size, 0, none⟩ 1 1 [.int .i64 t, .int .i64 s, .int .i64 0] rfl rfl (news3 (t := 41) (by first | with_reducible exact blk_new _ _ | with_reducible exact pre0 hb7 | with_reducible exact pre01 hb7 | with_reducible exact pre1 hb7 | with_reducible exact blk_old (pre0 hb7) _ | with_reducible exact blk_new1 | with_reducible exact blk_old (blk_new _ _) _)) HO1.out HK1.out HK2.out ?_; intro ao8 cap8 w8 hown8 hb8 hk8; have hs8 := HS.out w8 hb8; have hz8 := hb8.size; have HO8 : Hid (w8.ownsRow w6.heap.size 41 3 (.slice ao8 (l.length + 1) cap8) (l.length + 1) (flat l ++ [.int .i64 t, .int .i64 s, .int .i64 0])) := hown8; (try (have tA1 := hk8 (w6.heap.size) #[.int .i64 0, .slice none 0 0] 24 (0, 0) (by decide) (by first | with_reducible exact blk_new _ _ | with_reducible exact pre0 hb7 | with_reducible exact pre01 hb7 | with_reducible exact pre1 hb7 | with_reducible exact blk_old (pre0 hb7) _ | with_reducible exact blk_new1 | with_reducible exact blk_old (blk_new _ _) _); obtain ⟨b10, b11, b12, b13⟩ := blk2 tA1)); (try (have tA2 := hk8 (w6.heap.size + 1) #[.int .i64 0, .slice none 0 0] 24 (0, 0) (by decide) (by first | with_reducible exact blk_new _ _ | with_reducible exact pre0 hb7 | with_reducible exact pre01 hb7 | with_reducible exact pre1 hb7 | with_reducible exact blk_old (pre0 hb7) _ | with_reducible exact blk_new1 | with_reducible exact blk_old (blk_new _ _) _); obtain ⟨b20, b21, b22, b23⟩ := blk2 tA2)); (try (have tA3 := hk8 (w7.heap.size) #[.int .i64 0, .slice none 0 0] 24 (0, 0) (by decide) (by first | with_reducible exact blk_new _ _ | with_reducible exact pre0 hb7 | with_reducible exact pre01 hb7 | with_reducible exact pre1 hb7 | with_reducible exact blk_old (pre0 hb7) _ | with_reducible exact blk_new1 | with_reducible exact blk_old (blk_new _ _) _); obtain ⟨b30, b31, b32, b33⟩ := blk2 tA3)); (try (have tA4 := hk8 (w7.heap.size + 1) #[.int .i64 0, .slice none 0 0] 24 (0, 0) (by decide) (by first | with_reducible exact blk_new _ _ | with_reducible exact pre0 hb7 | with_reducible exact pre01 hb7 | with_reducible exact pre1 hb7 | with_reducible exact blk_old (pre0 hb7) _ | with_reducible exact blk_new1 | with_reducible exact blk_old (blk_new _ _) _); obtain ⟨b40, b41, b42, b43⟩ := blk2 tA4)); clear hown8 hk8)
              | (refine step_append_join (w0 := w6) rfl (.tmp 70) (.tmp 84) 22 rfl 41 i0 _ 3 24 Try.underlying22 hi hy0 hy1 hy2 rfl (by decide) (.slice ao7 l.length cap7) l.length (flat l) rfl (by first | with_reducible exact HO.out | with_reducible exact HO.out.alloc _ | with_reducible exact (HO.out.alloc _).alloc _) (by with_reducible exact And.left (by assumption)) ⟨w6.heap.size, 0, none⟩ 1 1 [.int .i64 t, .int .i64 s, .int .i64 0] rfl rfl (news3 (t := 41) (by first | with_reducible exact blk_new _ _ | with_reducible exact pre0 hb7 | with_reducible exact pre01 hb7 | with_reducible exact pre1 hb7 | with_reducible exact blk_old (pre0 hb7) _ | with_reducible exact blk_new1 | with_reducible exact blk_old (blk_new _ _) _)) HO1.out HK1.out HK2.out ?_; intro ao8 cap8 w8 hown8 hb8 hk8; have hs8 := HS.out w8 hb8; have hz8 := hb8.size; have HO8 : Hid (w8.ownsRow w6.heap.size 41 3 (.slice ao8 (l.length + 1) cap8) (l.length + 1) (flat l ++ [.int .i64 t, .int .i64 s, .int .i64 0])) := hown8; (try (have tA1 := hk8 (w6.heap.size) #[.int .i64 0, .slice none 0 0] 24 (0, 0) (by decide) (by first | with_reducible exact blk_new _ _ | with_reducible exact pre0 hb7 | with_reducible exact pre01 hb7 | with_reducible exact pre1 hb7 | with_reducible exact blk_old (pre0 hb7) _ | with_reducible exact blk_new1 | with_reducible exact blk_old (blk_new _ _) _); obtain ⟨b10, b11, b12, b13⟩ := blk2 tA1)); (try (have tA2 := hk8 (w6.heap.size + 1) #[.int .i64 0, .slice none 0 0] 24 (0, 0) (by decide) (by first | with_reducible exact blk_new _ _ | with_reducible exact pre0 hb7 | with_reducible exact pre01 hb7 | with_reducible exact pre1 hb7 | with_reducible exact blk_old (pre0 hb7) _ | with_reducible exact blk_new1 | with_reducible exact blk_old (blk_new _ _) _); obtain ⟨b20, b21, b22, b23⟩ := blk2 tA2)); (try (have tA3 := hk8 (w7.heap.size) #[.int .i64 0, .slice none 0 0] 24 (0, 0) (by decide) (by first | with_reducible exact blk_new _ _ | with_reducible exact pre0 hb7 | with_reducible exact pre01 hb7 | with_reducible exact pre1 hb7 | with_reducible exact blk_old (pre0 hb7) _ | with_reducible exact blk_new1 | with_reducible exact blk_old (blk_new _ _) _); obtain ⟨b30, b31, b32, b33⟩ := blk2 tA3)); (try (have tA4 := hk8 (w7.heap.size + 1) #[.int .i64 0, .slice none 0 0] 24 (0, 0) (by decide) (by first | with_reducible exact blk_new _ _ | with_reducible exact pre0 hb7 | with_reducible exact pre01 hb7 | with_reducible exact pre1 hb7 | with_reducible exact blk_old (pre0 hb7) _ | with_reducible exact blk_new1 | with_reducible exact blk_old (blk_new _ _) _); obtain ⟨b40, b41, b42, b43⟩ := blk2 tA4)); clear hown8 hk8)
              | (refine step_append_join (w0 := w6) rfl (.tmp 70) (.tmp 84) 22 rfl 41 i0 _ 3 24 Try.underlying22 hi hy0 hy1 hy2 rfl (by decide) (.slice ao7 l.length cap7) l.length (flat l) rfl (by first | with_reducible exact HO.out | with_reducible exact HO.out.alloc _ | with_reducible exact (HO.out.alloc _).alloc _) (by with_reducible exact And.left (by assumption)) ⟨w7.heap.size + 1, 0, none⟩ 1 1 [.int .i64 t, .int .i64 s, .int .i64 0] rfl rfl (news3 (t := 41) (by first | with_reducible exact blk_new _ _ | with_reducible exact pre0 hb7 | with_reducible exact pre01 hb7 | with_reducible exact pre1 hb7 | with_reducible exact blk_old (pre0 hb7) _ | with_reducible exact blk_new1 | with_reducible exact blk_old (blk_new _ _) _)) HO1.out HK1.out HK2.out ?_; intro ao8 cap8 w8 hown8 hb8 hk8; have hs8 := HS.out w8 hb8; have hz8 := hb8.size; have HO8 : Hid (w8.ownsRow w6.heap.size 41 3 (.slice ao8 (l.length + 1) cap8) (l.length + 1) (flat l ++ [.int .i64 t, .int .i64 s, .int .i64 0])) := hown8; (try (have tA1 := hk8 (w6.heap.size) #[.int .i64 0, .slice none 0 0] 24 (0, 0) (by decide) (by first | with_reducible exact blk_new _ _ | with_reducible exact pre0 hb7 | with_reducible exact pre01 hb7 | with_reducible exact pre1 hb7 | with_reducible exact blk_old (pre0 hb7) _ | with_reducible exact blk_new1 | with_reducible exact blk_old (blk_new _ _) _); obtain ⟨b10, b11, b12, b13⟩ := blk2 tA1)); (try (have tA2 := hk8 (w6.heap.size + 1) #[.int .i64 0, .slice none 0 0] 24 (0, 0) (by decide) (by first | with_reducible exact blk_new _ _ | with_reducible exact pre0 hb7 | with_reducible exact pre01 hb7 | with_reducible exact pre1 hb7 | with_reducible exact blk_old (pre0 hb7) _ | with_reducible exact blk_new1 | with_reducible exact blk_old (blk_new _ _) _); obtain ⟨b20, b21, b22, b23⟩ := blk2 tA2)); (try (have tA3 := hk8 (w7.heap.size) #[.int .i64 0, .slice none 0 0] 24 (0, 0) (by decide) (by first | with_reducible exact blk_new _ _ | with_reducible exact pre0 hb7 | with_reducible exact pre01 hb7 | with_reducible exact pre1 hb7 | with_reducible exact blk_old (pre0 hb7) _ | with_reducible exact blk_new1 | with_reducible exact blk_old (blk_new _ _) _); obtain ⟨b30, b31, b32, b33⟩ := blk2 tA3)); (try (have tA4 := hk8 (w7.heap.size + 1) #[.int .i64 0, .slice none 0 0] 24 (0, 0) (by decide) (by first | with_reducible exact blk_new _ _ | with_reducible exact pre0 hb7 | with_reducible exact pre01 hb7 | with_reducible exact pre1 hb7 | with_reducible exact blk_old (pre0 hb7) _ | with_reducible exact blk_new1 | with_reducible exact blk_old (blk_new _ _) _); obtain ⟨b40, b41, b42, b43⟩ := blk2 tA4)); clear hown8 hk8)
              | (refine step_append_join (w0 := w6) rfl (.tmp 70) (.tmp 84) 22 rfl 41 i0 _ 3 24 Try.underlying22 hi hy0 hy1 hy2 rfl (by decide) (.slice ao7 l.length cap7) l.length (flat l) rfl (by first | with_reducible exact HO.out | with_reducible exact HO.out.alloc _ | with_reducible exact (HO.out.alloc _).alloc _) (by with_reducible exact And.left (by assumption)) ⟨w6.heap.size + 1, 0, none⟩ 1 1 [.int .i64 t, .int .i64 s, .int .i64 0] rfl rfl (news3 (t := 41) (by first | with_reducible exact blk_new _ _ | with_reducible exact pre0 hb7 | with_reducible exact pre01 hb7 | with_reducible exact pre1 hb7 | with_reducible exact blk_old (pre0 hb7) _ | with_reducible exact blk_new1 | with_reducible exact blk_old (blk_new _ _) _)) HO1.out HK1.out HK2.out ?_; intro ao8 cap8 w8 hown8 hb8 hk8; have hs8 := HS.out w8 hb8; have hz8 := hb8.size; have HO8 : Hid (w8.ownsRow w6.heap.size 41 3 (.slice ao8 (l.length + 1) cap8) (l.length + 1) (flat l ++ [.int .i64 t, .int .i64 s, .int .i64 0])) := hown8; (try (have tA1 := hk8 (w6.heap.size) #[.int .i64 0, .slice none 0 0] 24 (0, 0) (by decide) (by first | with_reducible exact blk_new _ _ | with_reducible exact pre0 hb7 | with_reducible exact pre01 hb7 | with_reducible exact pre1 hb7 | with_reducible exact blk_old (pre0 hb7) _ | with_reducible exact blk_new1 | with_reducible exact blk_old (blk_new _ _) _); obtain ⟨b10, b11, b12, b13⟩ := blk2 tA1)); (try (have tA2 := hk8 (w6.heap.size + 1) #[.int .i64 0, .slice none 0 0] 24 (0, 0) (by decide) (by first | with_reducible exact blk_new _ _ | with_reducible exact pre0 hb7 | with_reducible exact pre01 hb7 | with_reducible exact pre1 hb7 | with_reducible exact blk_old (pre0 hb7) _ | with_reducible exact blk_new1 | with_reducible exact blk_old (blk_new _ _) _); obtain ⟨b20, b21, b22, b23⟩ := blk2 tA2)); (try (have tA3 := hk8 (w7.heap.size) #[.int .i64 0, .slice none 0 0] 24 (0, 0) (by decide) (by first | with_reducible exact blk_new _ _ | with_reducible exact pre0 hb7 | with_reducible exact pre01 hb7 | with_reducible exact pre1 hb7 | with_reducible exact blk_old (pre0 hb7) _ | with_reducible exact blk_new1 | with_reducible exact blk_old (blk_new _ _) _); obtain ⟨b30, b31, b32, b33⟩ := blk2 tA3)); (try (have tA4 := hk8 (w7.heap.size + 1) #[.int .i64 0, .slice none 0 0] 24 (0, 0) (by decide) (by first | with_reducible exact blk_new _ _ | with_reducible exact pre0 hb7 | with_reducible exact pre01 hb7 | with_reducible exact pre1 hb7 | with_reducible exact blk_old (pre0 hb7) _ | with_reducible exact blk_new1 | with_reducible exact blk_old (blk_new _ _) _); obtain ⟨b40, b41, b42, b43⟩ := blk2 tA4)); clear hown8 hk8)
              | (go_at_call 15; refine (clone_own (some ⟨ba, oa, none⟩) cap l _ (HA.out.below (And.left (by assumption)) (Nat.le_refl _)) HN.out HR.out).mono ?_; rintro e w7 ⟨hb7, v, rfl, hown⟩; obtain ⟨ao7, cap7, rfl, _, _, _, _⟩ := owns_arcs hown; have hs7 := HS.out w7 (below_tr (And.left (by assumption)) hb7); have hz7 := hs7.1.size; have HO : Hid (w7.ownsRow w6.heap.size 41 3 (.slice ao7 l.length cap7) l.length (flat l)) := owns_weaken hown (Below.size (And.left (by assumption))); clear hown))
          all_goals
            have HAr : ∃ x y, (Value.slice ao8 (l.length + 1) cap8) = .slice x (l ++ [(t, s, 0)]).length y ∧ ArcsAt w8 x (l ++ [(t, s, 0)]) ∧ (l ++ [(t, s, 0)]).length ≤ y ∧ y ≤ maxLen := by
              have h := HO8.out
              have e : flat l ++ [.int .i64 t, .int .i64 s, .int .i64 0] = flat (l ++ [(t, s, 0)]) := by rw [flat_append]; rfl
              have e2 : (l ++ [(t, s, 0)]).length = l.length + 1 := by simp
              rw [e, ← e2] at h
              obtain ⟨x, y, h1, h2, _, h3, h4⟩ := owns_arcs h
              rw [e2] at h1
              exact ⟨x, y, by rw [e2]; exact h1, h2, h3, h4⟩
            obtain ⟨x, y, exy, hAr, hc8, hm8⟩ := HAr
            rw [List.length_append] at exy hc8
            simp only [List.length_cons, List.length_nil, Nat.zero_add, Value.slice.injEq, true_and] at exy hc8
            obtain ⟨rfl, rfl⟩ := exy
            have HAx : Hid (ArcsAt w8 ao8 (l ++ [(t, s, 0)])) := hAr
            clear hAr
            go_wp2_with fail
            go_meet
            case rel =>
              first
              | exact ⟨w8.heap.size, ao8, cap8, rfl, blk_new _ _, HAx.out.alloc _, hc8, hm8, below_al hs8.1 _⟩
              | exact ⟨_, ao8, cap8, rfl, blk2_set tA1 _ _, (HAx.out.setElse (owns_ne' HO8.out tA1 (by decide)) _).setElse (owns_ne' HO8.out tA1 (by decide)) _, hc8, hm8, Below.setCell (Below.setCell hs8.1 (by first | exact Nat.le_refl _ | exact hz7 | exact Nat.le_succ_of_le hz7 | exact Nat.le_succ _) _) (by first | exact Nat.le_refl _ | exact hz7 | exact Nat.le_succ_of_le hz7 | exact Nat.le_succ _) _⟩
              | exact ⟨_, ao8, cap8, rfl, blk2_set tA2 _ _, (HAx.out.setElse (owns_ne' HO8.out tA2 (by decide)) _).setElse (owns_ne' HO8.out tA2 (by decide)) _, hc8, hm8, Below.setCell (Below.setCell hs8.1 (by first | exact Nat.le_refl _ | exact hz7 | exact Nat.le_succ_of_le hz7 | exact Nat.le_succ _) _) (by first | exact Nat.le_refl _ | exact hz7 | exact Nat.le_succ_of_le hz7 | exact Nat.le_succ _) _⟩
              | exact ⟨_, ao8, cap8, rfl, blk2_set tA3 _ _, (HAx.out.setElse (owns_ne' HO8.out tA3 (by decide)) _).setElse (owns_ne' HO8.out tA3 (by decide)) _, hc8, hm8, Below.setCell (Below.setCell hs8.1 (by first | exact Nat.le_refl _ | exact hz7 | exact Nat.le_succ_of_le hz7 | exact Nat.le_succ _) _) (by first | exact Nat.le_refl _ | exact hz7 | exact Nat.le_succ_of_le hz7 | exact Nat.le_succ _) _⟩
              | exact ⟨_, ao8, cap8, rfl, blk2_set tA4 _ _, (HAx.out.setElse (owns_ne' HO8.out tA4 (by decide)) _).setElse (owns_ne' HO8.out tA4 (by decide)) _, hc8, hm8, Below.setCell (Below.setCell hs8.1 (by first | exact Nat.le_refl _ | exact hz7 | exact Nat.le_succ_of_le hz7 | exact Nat.le_succ _) _) (by first | exact Nat.le_refl _ | exact hz7 | exact Nat.le_succ_of_le hz7 | exact Nat.le_succ _) _⟩
        case rest =>
          obtain ⟨p, ao7, cap7, rfl, hp, hA7, hc7, hm7, hbW⟩ := hcut
          have hzc := hbW.size
          have x7 := blk_below hbW x6 hw6
          have c07 := later hbW c06 hba6
          have c17 := later hbW c16 hba6
          have hbb7 := hbb6.trans (hbW.mono (by omega))
          have hpl : p < wc.heap.size := (Array.getElem?_eq_some_iff.1 hp).1
          have hG7 : GraphIn wc ao7 cap7 (l ++ [(t, s, 0)]) := ⟨hA7, by simpa using hc7, hm7, fun e => by
            obtain ⟨b, off, e', _⟩ := hA7 0 (by simp)
            rw [e] at e'; cases e'⟩
          have hll : (l ++ [(t, s, (0 : Int))]).length = l.length + 1 := by simp
          have hcall := hC n ao7 cap7 (l ++ [(t, s, 0)]) wc hG7
          rw [hll, HEr.out] at hcall
          obtain ⟨g0, g1, g2, g3⟩ := blk2 hp
          have hwc : w.heap.size < wc.heap.size := by omega
          have hbac : ba < wc.heap.size := by omega
          clear r0 r1 f0 f1 c06 c16 hbW x6 hbb6 hA6 hA7 hG7 hp hll
          go_wp2_with fail
          refine hcall.mono ?_
          clear hcall
          rintro e w8 ⟨hb8, k8, rfl, _, hk8⟩
          have hk8' : k8 = 2 := (hk8 trivial).unique HCan.out
          subst hk8'
          have hz8 := hb8.size
          have hbb8 := hbb7.trans (hb8.mono (by omega))
          have c08 := later hb8 c07 hbac
          have c18 := later hb8 c17 hbac
          obtain ⟨r0, r1, f0, f1⟩ := blk2 (blk_below hb8 x7 hwc)
          have hw8 : w.heap.size < w8.heap.size := by omega
          have hba8 : ba < w8.heap.size := by omega
          have h22 : ((2 : Int) == 2) = true := rfl
          have h12 : ((1 : Int) == 2) = false := rfl
          clear hb8 hk8 c07 c17 x7 hbb7 g0 g1 g2 g3
          rcases HKs.out with ⟨rfl, rfl⟩ | ⟨rfl, hst⟩
          · have hss : (s == s) = true := by simp
            go_wp2
            go_quiet (fail)
            go_wp2
            go_ret
            exact ⟨rfl, below_drewN hbb8 _⟩
          · have hss : (t == s) = false := by rw [beq_eq_false_iff_ne]; exact fun h => hst h.symm
            clear hst
            go_wp2
            go_quiet (fail)
            go_wp2
            go_ret
            exact ⟨rfl, below_drewN hbb8 _⟩
  · have hk := hk0 hE
    obtain ⟨he, hKe⟩ := hy0 hE
    subst hk he hKe
    have hl0 : ([] : List Nat).length = 0 := rfl
    rw [hl0]
    have hE' : (graphErr n (-10000) l != 0) = true := by simpa using hE
    have hE2 : (graphErr n (-10000) l == 0) = false := by simpa using hE
    generalize graphErr n (-10000) l = ge at *
    clear hk0 hk1 hy0 hy1 hE
    go_wp2
    go_ret
    exact ⟨rfl, hbb3⟩

end Go.Proofs.Ytkcjemhbenkglaa
