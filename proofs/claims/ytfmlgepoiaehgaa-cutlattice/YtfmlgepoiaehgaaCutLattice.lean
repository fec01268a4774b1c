/- The law CutLattice, walked out of the contracts of Least, Greatest, Cap. -/
import Derived.Test.YtfmlgepoiaehgaaCuts
namespace Go.Proofs.Ytfmlgepoiaehgaa
open Go.RowKit
set_option linter.unusedVariables false

theorem andNot_u16_zero {a b : Nat} (ha : a < 65536) (hb : b < 65536) (h : b &&& a = a) : bits .andNot .u16 (a : Int) (b : Int) = 0 := by
  have h1 : (BitVec.ofInt 16 (a : Int)) = BitVec.ofNat 16 a := by rw [BitVec.ofInt_natCast]
  have h2 : (BitVec.ofInt 16 (b : Int)) = BitVec.ofNat 16 b := by rw [BitVec.ofInt_natCast]
  show IntKind.u16.wrap ((BitVec.ofInt 16 (a : Int) &&& ~~~ BitVec.ofInt 16 (b : Int)).toNat : Int) = _
  rw [h1, h2]
  have h3 : BitVec.ofNat 16 a &&& ~~~ BitVec.ofNat 16 b = 0 := by
    apply BitVec.eq_of_getLsbD_eq
    intro i hi
    have e : Nat.testBit a i = (Nat.testBit b i && Nat.testBit a i) := by rw [← Nat.testBit_and, h]
    simp only [BitVec.getLsbD_and, BitVec.getLsbD_not, BitVec.getLsbD_ofNat, hi, decide_true, Bool.true_and]
    cases e1 : Nat.testBit b i
    · rw [e1] at e; simp at e; simp [e]
    · simp
  rw [h3]
  rfl

/-- as little as can be, as Cap tells it -/
theorem min_cap {N s t x : Nat} {l : List Arc3} {v : Int} (hE : netErr N s t l = 0) : (capErr N s t l x = 0 ∧ capVal N s t l x = v) ↔ MinN N s t l v x := by
  constructor
  · rintro ⟨h1, h2⟩
    obtain ⟨_, p1, p2, p3⟩ := cap_ok h1
    rw [Int.toNat_natCast] at p1
    unfold capVal at h2
    rw [if_pos h1] at h2
    exact ⟨by exact_mod_cast p1, sideN_bt.2 ⟨p2, p3⟩, h2⟩
  · rintro ⟨h1, h2, h3⟩
    have h0 : capErr N s t l x = 0 := cap_mk hE ⟨by rw [Int.toNat_natCast]; exact_mod_cast h1, (sideN_bt.1 h2).1, (sideN_bt.1 h2).2⟩
    exact ⟨h0, by unfold capVal; rw [if_pos h0]; exact h3⟩

/-- what the closure reads -/
structure LS (w wx : World) (n s t : Int) (ao : Option Addr) (cap : Nat) (l : List Arc3) (bv : Nat) (v : Int) : Prop where
  below : Below w.heap.size w wx
  net : wx.heap[w.heap.size]? = some (.cells #[.int .i64 n, .int .i64 s, .int .i64 t, .slice ao l.length cap] 24 (0, 0))
  val : wx.cell? ⟨bv, 0, none⟩ = some (.int .i64 v)
  lt : bv < wx.heap.size
  graph : GraphIn wx ao cap l
theorem LS.on {w wx wy : World} {n s t : Int} {ao : Option Addr} {cap : Nat} {l : List Arc3} {bv : Nat} {v : Int} (h : LS w wx n s t ao cap l bv v) (hb : Below wx.heap.size wx wy) : LS w wy n s t ao cap l bv v :=
  ⟨h.below.trans (hb.mono h.below.size), blk_below hb h.net (Array.getElem?_eq_some_iff.1 h.net).1, later hb h.val h.lt, by have := hb.size; have := h.lt; omega, h.graph.below hb (Nat.le_refl _)⟩

set_option maxHeartbeats 400000 in
theorem least_any (hC : CCapC) (w wx : World) (n s t v : Int) (x bv : Nat) (hx : x < 65536) (ao : Option Addr) (cap : Nat) (l : List Arc3) (hS : LS w wx n s t ao cap l bv v) :
    Calls Try.prog 18 #[.int .u16 (x : Int), .pointer (some ⟨w.heap.size, 0, none⟩), .pointer (some ⟨bv, 0, none⟩)] wx fun e w' => e = .returned (.bool (decide (capErr n s t l x = 0 ∧ capVal n s t l x = v))) ∧ Below wx.heap.size wx w' := by
  have hq := hC n s t x ao cap l wx (by omega) hS.graph
  have hnl := (Array.getElem?_eq_some_iff.1 hS.net).1
  obtain ⟨r0, r1, r2, r3⟩ := blk4 hS.net
  have c0 := hS.val
  have HL := hS.lt
  obtain ⟨C, hCe⟩ : ∃ C, capErr n s t l x = C := ⟨_, rfl⟩
  obtain ⟨V, hVe⟩ : ∃ V, capVal n s t l x = V := ⟨_, rfl⟩
  rw [hCe, hVe] at hq ⊢
  obtain ⟨R, hRe⟩ : ∃ R, decide (C = 0 ∧ V = v) = R := ⟨_, rfl⟩
  rw [hRe]
  have HR : Hid (decide (C = 0 ∧ V = v) = R) := hRe
  clear hS hCe hVe hRe
  go_enter Try.func18, Try.ntmps18
  go_wp2_with fail
  refine hq.mono ?_
  clear hq
  rintro e w1 ⟨hb1, rfl⟩
  have c1 := later hb1 c0 HL
  have hl1 : bv < w1.heap.size := by have := hb1.size; omega
  have HB : Hid (Below wx.heap.size wx w1) := hb1
  clear hb1 c0 r0 r1 r2 r3
  by_cases h1 : C = 0
  · subst h1
    have g01 : ((0 : Int) == 0) = true := rfl
    by_cases h2 : V = v
    · subst h2
      have e2 : (V == V) = true := by simp
      obtain rfl : true = R := by rw [← HR.out]; exact (decide_eq_true ⟨rfl, rfl⟩).symm
      clear HR
      go_wp2
      go_ret
      exact ⟨rfl, HB.out⟩
    · have e2 : (V == v) = false := by simpa using h2
      obtain rfl : false = R := by rw [← HR.out]; exact (decide_eq_false (fun h => h2 h.2)).symm
      clear h2 HR
      go_wp2
      go_ret
      exact ⟨rfl, HB.out⟩
  · have e1 : (C == 0) = false := by simpa using h1
    obtain rfl : false = R := by rw [← HR.out]; exact (decide_eq_false (fun h => h1 h.1)).symm
    clear h1 HR
    go_wp2
    go_ret
    exact ⟨rfl, HB.out⟩

set_option maxHeartbeats 4000000 in
set_option maxRecDepth 100000 in
theorem CutLattice_any (hL : CLeastC) (hC : CCapC) (hGr : CGreatC) (n s t : Int) (a b : Nat) (ha : a < 65536) (hb : b < 65536) (ao : Option Addr) (cap : Nat) (l : List Arc3) (w : World) (hG : GraphIn w ao cap l) :
    Calls Try.prog 6 #[.agg #[.int .i64 n, .int .i64 s, .int .i64 t, .slice ao l.length cap], .int .u16 (a : Int), .int .u16 (b : Int)] w fun e w' => e = .returned (.bool true) ∧ Below w.heap.size w w' := by
  have hG0 := hG.alloc (.cells #[.int .i64 n, .int .i64 s, .int .i64 t, .slice ao l.length cap] 24)
  have x0 := blk_new w (.cells #[.int .i64 n, .int .i64 s, .int .i64 t, .slice ao l.length cap] 24)
  go_enter Try.func6, Try.ntmps6
  go_wp2_with fail
  refine (cuts_any hL hC _).mono ?_
  rintro e w1 ⟨rfl, hb1⟩
  simp only [World.size_alloc] at hb1
  have hz1 := hb1.size
  simp only [World.size_alloc] at hz1
  have x1 := blk_below hb1 x0 (by omega)
  have hG1 := hG0.below hb1 (by simp)
  have HB1 : Hid (Below w.heap.size w w1) := below_in hb1 (by omega)
  obtain ⟨r0, r1, r2, r3⟩ := blk4 x1
  clear hb1 x0 hG0 hG
  go_wp2_with fail
  refine (hL n s t ao cap l _ hG1).mono ?_
  rintro e w2 ⟨hb2, x, v, rfl, hT2⟩
  have hz2 := hb2.size
  have x2 := blk_below hb2 x1 (by omega)
  have hG2 := hG1.below hb2 (Nat.le_refl _)
  have HB2 : Hid (Below w.heap.size w w2) := HB1.out.trans (hb2.mono (by omega))
  have HT2 : Hid (LeastTells n s t l x v) := hT2
  have HLS : Hid (LS w (w2.alloc (.cells #[.int .i64 v] 3)) n s t ao cap l w2.heap.size v) :=
    ⟨HB2.out.alloc (by omega) _, blk_old x2 _, newest _ _ _, by simp, hG2.alloc _⟩
  obtain ⟨E, hE⟩ : ∃ E, netErr n s t l = E := ⟨_, rfl⟩
  rw [hE]
  have HE : Hid (netErr n s t l = E) := hE
  have HGr : Hid (Calls Try.prog 10 #[.agg #[.int .i64 n, .int .i64 s, .int .i64 t, .slice ao l.length cap]] (w2.alloc (.cells #[.int .i64 v] 3)) fun e w' => Below (w2.alloc (.cells #[.int .i64 v] 3)).heap.size (w2.alloc (.cells #[.int .i64 v] 3)) w' ∧
    ∃ (x : Nat) (v : Int), e = .returned (.tuple #[.int .u16 (x : Int), .int .i64 v, .int .i64 E]) ∧ GreatTells n s t l x v) := by
    have := hGr n s t ao cap l _ HLS.out.graph
    rwa [hE] at this
  clear hb2 x1 hG1 HB1 hT2 hE hG2 r0 r1 r2 r3
  obtain ⟨r0, r1, r2, r3⟩ := blk4 x2
  have hw2 : w.heap.size < w2.heap.size := by omega
  go_wp2_with fail
  refine HGr.out.mono ?_
  rintro e w3 ⟨hb3, y, u, rfl, hT3⟩
  have HT3 : Hid (GreatTells n s t l y u) := hT3
  have HS3 : Hid (LS w w3 n s t ao cap l w2.heap.size v) := HLS.out.on hb3
  have hz3 := hb3.size
  simp only [World.size_alloc] at hz3
  clear hb3 x2 HB2 hT3 HLS HGr r0 r1 r2 r3
  have c0 := HS3.out.val
  have g00 : ((0 : Int) != 0) = false := rfl
  have g01 : ((0 : Int) == 0) = true := rfl
  by_cases h0 : E = 0
  · subst h0
    obtain ⟨hge, hs, ht, _⟩ := net_ok HE.out
    obtain ⟨⟨hn1, hn2⟩, hl60, hall⟩ := err_ok hge
    obtain ⟨N, rfl⟩ := Int.eq_ofNat_of_zero_le (show 0 ≤ n by omega)
    obtain ⟨sN, rfl⟩ := Int.eq_ofNat_of_zero_le hs.1
    obtain ⟨tN, rfl⟩ := Int.eq_ofNat_of_zero_le ht.1
    have hcp : ∀ k, k < l.length → 0 ≤ (at3 l k).2.2 := fun k hk => (hall _ (at3_mem l k hk)).2.2.1
    obtain ⟨hi', p1⟩ := HT2.out.some HE.out
    obtain ⟨lo', p2⟩ := HT3.out.some HE.out
    rw [Int.toNat_natCast, Int.toNat_natCast, Int.toNat_natCast] at p1 p2
    obtain ⟨e1, e2, e3⟩ := p1.unique p2
    subst e1 e2 e3
    obtain ⟨m1, m2⟩ := part_ends hcp p1
    have hx16 := HT2.out.small
    have hy16 := HT3.out.small
    have HLow : Hid (decide (capErr N sN tN l x = 0 ∧ capVal N sN tN l x = v) = true) := decide_eq_true ((min_cap HE.out).2 m1)
    have HHigh : Hid (decide (capErr N sN tN l hi' = 0 ∧ capVal N sN tN l hi' = v) = true) := decide_eq_true ((min_cap HE.out).2 m2)
    have k1 : bits .andNot .u16 (x : Int) (hi' : Int) = 0 := andNot_u16_zero hx16 hy16 (part_within p1 m1).2
    have HW : Hid (MinN N sN tN l v a → a &&& x = x ∧ hi' &&& a = a) := fun h => part_within p1 h
    have HAB : Hid (MinN N sN tN l v a → MinN N sN tN l v b → MinN N sN tN l v (a &&& b) ∧ MinN N sN tN l v (a ||| b)) := fun h1 h2 => MinN.both hcp p1 h1 h2
    have vv : (v != v) = false := by simp
    have z16 : ((0 : Int) != 0) = false := rfl
    have u1 := and_u16_nat a b ha hb
    have u2 := or_u16_nat a b ha hb
    have u3 := and_u16_nat a x ha hx16
    have hab1 : a &&& b < 65536 := Nat.lt_of_le_of_lt Nat.and_le_left ha
    have hab2 : a ||| b < 65536 := Nat.or_lt_two_pow (n := 16) ha hb
    have hq1 := least_any hC w w3 N sN tN v x w2.heap.size hx16 ao cap l HS3.out
    rw [HLow.out] at hq1
    clear hge hs ht hn1 hn2 hl60 hall hcp p1 p2 m1 m2 HT2 HT3
    go_wp2_with fail
    refine hq1.mono ?_
    clear hq1
    rintro e w4 ⟨rfl, hb4⟩
    have HS4 : Hid (LS w w4 N sN tN ao cap l w2.heap.size v) := HS3.out.on hb4
    have hq2 := least_any hC w w4 N sN tN v hi' w2.heap.size hy16 ao cap l HS4.out
    rw [HHigh.out] at hq2
    clear hb4 HS3 c0
    go_wp2_with fail
    refine hq2.mono ?_
    clear hq2
    rintro e w5 ⟨rfl, hb5⟩
    have HS5 : Hid (LS w w5 N sN tN ao cap l w2.heap.size v) := HS4.out.on hb5
    have hq3 := least_any hC w w5 N sN tN v a w2.heap.size ha ao cap l HS5.out
    clear hb5 HS4
    by_cases hA : MinN N sN tN l v a
    · rw [decide_eq_true ((min_cap HE.out).2 hA)] at hq3
      obtain ⟨wa1, wa2⟩ := HW.out hA
      rw [wa1] at u3
      have k2 : bits .andNot .u16 (a : Int) (hi' : Int) = 0 := andNot_u16_zero ha hy16 wa2
      have k3 : ((x : Int) != (x : Int)) = false := by simp
      clear wa1 wa2 HW
      go_wp2_with fail
      refine hq3.mono ?_
      clear hq3
      rintro e w6 ⟨rfl, hb6⟩
      have HS6 : Hid (LS w w6 N sN tN ao cap l w2.heap.size v) := HS5.out.on hb6
      have hq4 := least_any hC w w6 N sN tN v a w2.heap.size ha ao cap l HS6.out
      rw [decide_eq_true ((min_cap HE.out).2 hA)] at hq4
      clear hb6 HS5
      go_wp2_with fail
      refine hq4.mono ?_
      clear hq4
      rintro e w7 ⟨rfl, hb7⟩
      have HS7 : Hid (LS w w7 N sN tN ao cap l w2.heap.size v) := HS6.out.on hb7
      have hq5 := least_any hC w w7 N sN tN v b w2.heap.size hb ao cap l HS7.out
      clear hb7 HS6
      by_cases hB : MinN N sN tN l v b
      · rw [decide_eq_true ((min_cap HE.out).2 hB)] at hq5
        obtain ⟨b1, b2⟩ := HAB.out hA hB
        have HM1 : Hid (decide (capErr N sN tN l ((a &&& b : Nat) : Int) = 0 ∧ capVal N sN tN l ((a &&& b : Nat) : Int) = v) = true) := decide_eq_true ((min_cap HE.out).2 b1)
        have HM2 : Hid (decide (capErr N sN tN l ((a ||| b : Nat) : Int) = 0 ∧ capVal N sN tN l ((a ||| b : Nat) : Int) = v) = true) := decide_eq_true ((min_cap HE.out).2 b2)
        clear b1 b2 hA hB HAB
        go_wp2_with fail
        refine hq5.mono ?_
        clear hq5
        rintro e w8 ⟨rfl, hb8⟩
        have HS8 : Hid (LS w w8 N sN tN ao cap l w2.heap.size v) := HS7.out.on hb8
        have hq6 := least_any hC w w8 N sN tN v (a &&& b) w2.heap.size hab1 ao cap l HS8.out
        rw [HM1.out] at hq6
        clear hb8 HS7
        go_wp2_with fail
        refine hq6.mono ?_
        clear hq6
        rintro e w9 ⟨rfl, hb9⟩
        have HS9 : Hid (LS w w9 N sN tN ao cap l w2.heap.size v) := HS8.out.on hb9
        have hq7 := least_any hC w w9 N sN tN v (a ||| b) w2.heap.size hab2 ao cap l HS9.out
        rw [HM2.out] at hq7
        clear hb9 HS8
        go_wp2_with fail
        refine hq7.mono ?_
        clear hq7
        rintro e w10 ⟨rfl, hb10⟩
        have HB : Hid (Below w.heap.size w w10) := (HS9.out.on hb10).below
        clear hb10 HS9
        go_wp2
        go_ret
        exact ⟨rfl, HB.out⟩
      · rw [decide_eq_false (fun h => hB ((min_cap HE.out).1 h))] at hq5
        clear hA hB HAB
        go_wp2_with fail
        refine hq5.mono ?_
        clear hq5
        rintro e w8 ⟨rfl, hb8⟩
        have HB : Hid (Below w.heap.size w w8) := (HS7.out.on hb8).below
        clear hb8 HS7
        go_wp2
        go_ret
        exact ⟨rfl, HB.out⟩
    · rw [decide_eq_false (fun h => hA ((min_cap HE.out).1 h))] at hq3
      go_wp2_with fail
      refine hq3.mono ?_
      clear hq3
      rintro e w6 ⟨rfl, hb6⟩
      have HS6 : Hid (LS w w6 N sN tN ao cap l w2.heap.size v) := HS5.out.on hb6
      have hq4 := least_any hC w w6 N sN tN v a w2.heap.size ha ao cap l HS6.out
      rw [decide_eq_false (fun h => hA ((min_cap HE.out).1 h))] at hq4
      clear hb6 HS5 hA HAB HW
      go_wp2_with fail
      refine hq4.mono ?_
      clear hq4
      rintro e w7 ⟨rfl, hb7⟩
      have HB : Hid (Below w.heap.size w w7) := (HS6.out.on hb7).below
      clear hb7 HS6
      go_wp2
      go_ret
      exact ⟨rfl, HB.out⟩
  · have g1 : (E != 0) = true := by simpa using h0
    have g2 : (E == E) = true := by simp
    obtain ⟨rfl, _⟩ := HT2.out.none (by rw [HE.out]; exact h0)
    obtain ⟨rfl, _⟩ := HT3.out.none (by rw [HE.out]; exact h0)
    have e3 : bits .or .u16 0 0 = 0 := by decide
    have HB : Hid (Below w.heap.size w w3) := HS3.out.below
    clear h0 HT2 HT3 HS3
    go_wp2
    go_ret
    exact ⟨rfl, HB.out⟩

theorem CutLattice_int (hL : CLeastC) (hC : CCapC) (hGr : CGreatC) (n s t a b : Int) (ha : 0 ≤ a ∧ a < 65536) (hb : 0 ≤ b ∧ b < 65536) (ao : Option Addr) (cap : Nat) (l : List Arc3) (w : World) (hG : GraphIn w ao cap l) :
    Calls Try.prog 6 #[.agg #[.int .i64 n, .int .i64 s, .int .i64 t, .slice ao l.length cap], .int .u16 a, .int .u16 b] w fun e w' => e = .returned (.bool true) ∧ Below w.heap.size w w' := by
  obtain ⟨a, rfl⟩ := Int.eq_ofNat_of_zero_le ha.1
  obtain ⟨b, rfl⟩ := Int.eq_ofNat_of_zero_le hb.1
  exact CutLattice_any hL hC hGr n s t a b (by omega) (by omega) ao cap l w hG

end Go.Proofs.Ytfmlgepoiaehgaa
