/- Package push: Check of what is right, Busy. -/
import Derived.Test.YtgmifepfbcgfbaaPChk
import Derived.Test.YtgmifepfbcgfbaaOwnIs
namespace Go.Proofs.Ytgmifepfbcgfbaa
open Go.RowKit
set_option linter.unusedVariables false

set_option maxHeartbeats 2000000 in
theorem PCheck_any : PCheckC := by
  intro N s t ao af ah cap cf ch l f h w H hP
  rw [H.flen, H.hlen]
  have HOk : Hid (PushOk N s t l f h) := H
  have x0 := blk_new w (.cells #[.int .i64 (N : Int), .int .i64 (s : Int), .int .i64 (t : Int), .slice ao l.length cap, .slice af l.length cf, .slice ah N ch] 28)
  have hP0 : PushIn (w.alloc (.cells #[.int .i64 (N : Int), .int .i64 (s : Int), .int .i64 (t : Int), .slice ao l.length cap, .slice af l.length cf, .slice ah N ch] 28)) ao cap l af cf f ah ch h := hP.alloc _
  have hc := CheckNet_any N s t ao cap l _ hP0.arcs.len hP0.arcs.arcs
  rw [H.net] at hc
  have HP0 : Hid (PushIn (w.alloc (.cells #[.int .i64 (N : Int), .int .i64 (s : Int), .int .i64 (t : Int), .slice ao l.length cap, .slice af l.length cf, .slice ah N ch] 28)) ao cap l af cf f ah ch h) := hP0
  clear hP hP0 H
  have e0 : ((0 : Int) != 0) = false := rfl
  have e1 : ((l.length : Int) != (l.length : Int)) = false := by simp
  have e2 : ((N : Int) != (N : Int)) = false := by simp
  go_enter Try.func9, Try.ntmps9
  go_wp2_with fail
  refine hc.mono ?_
  clear hc
  rintro e w1 ⟨rfl, hb1⟩
  simp only [World.size_alloc] at hb1
  have hz1 := hb1.size
  simp only [World.size_alloc] at hz1
  have hw1 : w.heap.size < w1.heap.size := by omega
  have x1 := blk_below hb1 x0 (by omega)
  have HX1 : Hid (w1.heap[w.heap.size]? = some (.cells #[.int .i64 (N : Int), .int .i64 (s : Int), .int .i64 (t : Int), .slice ao l.length cap, .slice af l.length cf, .slice ah N ch] 28 (0, 0))) := x1
  have HB1 : Hid (Below w.heap.size w w1) := below_in hb1 (by omega)
  have HP1 : Hid (PushIn w1 ao cap l af cf f ah ch h) := HP0.out.below hb1 (by simp)
  have hcf := checkFlow_ok ao af ah cap cf ch w1 HOk.out HP1.out
  obtain ⟨⟨m0, m1, m2, m3, m4, m5⟩, _⟩ := blk6 x1
  clear hb1 x0 x1 HP0 hz1
  go_wp2_with fail
  refine hcf.mono ?_
  clear hcf
  rintro e w2 ⟨hb2, rfl⟩
  have hz2 := hb2.size
  have hw2 : w.heap.size < w2.heap.size := by omega
  have x2 := blk_below hb2 HX1.out hw1
  have HB2 : Hid (Below w.heap.size w w2) := HB1.out.trans (hb2.mono (by omega))
  have HP2 : Hid (PushIn w2 ao cap l af cf f ah ch h) := HP1.out.below hb2 (Nat.le_refl _)
  have hch := checkHeights_ok ao af ah cap cf ch w2 HOk.out HP2.out
  clear m0 m1 m2 m3 m4 m5
  obtain ⟨⟨m0, m1, m2, m3, m4, m5⟩, _⟩ := blk6 x2
  clear hb2 x2 HP1 hz2 HX1 HB1
  go_wp2_with fail
  refine hch.mono ?_
  clear hch
  rintro e w3 ⟨hb3, rfl⟩
  go_wp2
  go_ret
  exact ⟨HB2.out.trans (hb3.mono (by omega)), rfl⟩

open Classical in
/-- the nodes that are busy, of the first so many -/
noncomputable def busyL (s t : Nat) (l : List Arc3) (f : List Int) : Nat → List Int
  | 0 => []
  | v + 1 => busyL s t l f v ++ if BusyN s t l f v then [(v : Int)] else []
open Classical in
theorem busyL_yes {s t : Nat} {l : List Arc3} {f : List Int} {v : Nat} (h : BusyN s t l f v) : busyL s t l f (v + 1) = busyL s t l f v ++ [(v : Int)] := by
  show busyL s t l f v ++ (if BusyN s t l f v then [(v : Int)] else []) = _
  rw [if_pos h]
open Classical in
theorem busyL_no {s t : Nat} {l : List Arc3} {f : List Int} {v : Nat} (h : ¬ BusyN s t l f v) : busyL s t l f (v + 1) = busyL s t l f v := by
  show busyL s t l f v ++ (if BusyN s t l f v then [(v : Int)] else []) = _
  rw [if_neg h, List.append_nil]
theorem busyL_len (s t : Nat) (l : List Arc3) (f : List Int) : ∀ v, (busyL s t l f v).length ≤ v
  | 0 => Nat.le_refl _
  | v + 1 => by
    have := busyL_len s t l f v
    by_cases h : BusyN s t l f v
    · rw [busyL_yes h, List.length_append, List.length_singleton]; omega
    · rw [busyL_no h]; omega
theorem busyL_mem {s t : Nat} {l : List Arc3} {f : List Int} {x : Int} : ∀ {n : Nat}, x ∈ busyL s t l f n ↔ ∃ v : Nat, x = v ∧ v < n ∧ BusyN s t l f v
  | 0 => ⟨fun h => absurd h List.not_mem_nil, fun ⟨v, _, h, _⟩ => absurd h (Nat.not_lt_zero _)⟩
  | n + 1 => by
    have ih := busyL_mem (s := s) (t := t) (l := l) (f := f) (x := x) (n := n)
    by_cases h : BusyN s t l f n
    · rw [busyL_yes h, List.mem_append, ih, List.mem_singleton]
      constructor
      · rintro (⟨v, h1, h2, h3⟩ | h1)
        · exact ⟨v, h1, by omega, h3⟩
        · exact ⟨n, h1, by omega, h⟩
      · rintro ⟨v, h1, h2, h3⟩
        by_cases e : v = n
        · subst e; exact Or.inr h1
        · exact Or.inl ⟨v, h1, by omega, h3⟩
    · rw [busyL_no h, ih]
      constructor
      · rintro ⟨v, h1, h2, h3⟩; exact ⟨v, h1, by omega, h3⟩
      · rintro ⟨v, h1, h2, h3⟩
        refine ⟨v, h1, ?_, h3⟩
        by_cases e : v = n
        · subst e; exact absurd h3 h
        · omega

set_option maxHeartbeats 4000000 in
theorem PBusy_any : PBusyC := by
  intro N s t ao af ah cap cf ch l f h w H hP
  have hck := PCheck_any N s t ao af ah cap cf ch l f h _ H (hP.alloc (.cells #[.int .i64 (N : Int), .int .i64 (s : Int), .int .i64 (t : Int), .slice ao l.length cap, .slice af l.length cf, .slice ah N ch] 28))
  rw [H.flen, H.hlen] at hck
  rw [H.flen, H.hlen]
  have HOk : Hid (PushOk N s t l f h) := H
  obtain ⟨i0, hi, hz0, hz1, hz2⟩ := info_parts infoInt
  have hN := H.st.2.2.2.2.1
  have x0 := blk_new w (.cells #[.int .i64 (N : Int), .int .i64 (s : Int), .int .i64 (t : Int), .slice ao l.length cap, .slice af l.length cf, .slice ah N ch] 28)
  have HP0 : Hid (PushIn (w.alloc (.cells #[.int .i64 (N : Int), .int .i64 (s : Int), .int .i64 (t : Int), .slice ao l.length cap, .slice af l.length cf, .slice ah N ch] 28)) ao cap l af cf f ah ch h) := hP.alloc _
  have HLen : Hid (∀ v, (busyL s t l f v).length ≤ v) := busyL_len s t l f
  clear hP H
  have e0 : ((0 : Int) != 0) = false := rfl
  go_enter Try.func10, Try.ntmps10
  go_wp2_with fail
  refine hck.mono ?_
  clear hck
  rintro e w1 ⟨hb1, rfl⟩
  simp only [World.size_alloc] at hb1
  have hz1' := hb1.size
  simp only [World.size_alloc] at hz1'
  have hw1 : w.heap.size < w1.heap.size := by omega
  have x1 := blk_below hb1 x0 (by omega)
  have HX1 : Hid (w1.heap[w.heap.size]? = some (.cells #[.int .i64 (N : Int), .int .i64 (s : Int), .int .i64 (t : Int), .slice ao l.length cap, .slice af l.length cf, .slice ah N ch] 28 (0, 0))) := x1
  have HB1 : Hid (Below w.heap.size w w1) := below_in hb1 (by omega)
  have HP1 : Hid (PushIn w1 ao cap l af cf f ah ch h) := HP0.out.below hb1 (by simp)
  obtain ⟨⟨m0, m1, m2, m3, m4, m5⟩, _⟩ := blk6 x1
  clear hb1 x0 x1 HP0 hz1'
  go_wp2
  go_loopw [5, 15] (fun v i wr => ∃ k : Nat, k ≤ N ∧ i = .int .i64 k ∧ Hid (wr.ownsRow w1.heap.size 3 1 v (busyL s t l f k).length (flati (busyL s t l f k))) ∧ Below w1.heap.size w1 wr) (fun _ i _ => N - (intOf i).toNat)
  case atStart => exact ⟨0, Nat.zero_le _, rfl, World.ownsRow_nil _ _ _ _, Below.refl _ _⟩
  case round =>
    clear m0 m1 m2 m3 m4 m5
    obtain ⟨k, hk, rfl, HO, hB⟩ := hrel
    have hz := hB.size
    by_cases hlt : k < N
    · obtain ⟨ao', cap', rfl⟩ := owns_shape HO.out
      have x2 := blk_below hB HX1.out hw1
      obtain ⟨⟨m0, m1, m2, m3, m4, m5⟩, _⟩ := blk6 x2
      have hw2 : w.heap.size < wr.heap.size := by omega
      obtain ⟨b, hb⟩ : ∃ b : Bool, b = true ↔ BusyN s t l f k := by
        classical exact ⟨decide (BusyN s t l f k), decide_eq_true_iff⟩
      have hcl := isBusy_any k b ao af ah cap cf ch wr HOk.out hlt hb (HP1.out.below hB (Nat.le_refl _))
      have HBu : Hid (b = true ↔ BusyN s t l f k) := hb
      have HB : Hid (Below w1.heap.size w1 wr) := hB
      have hm := HLen.out k
      clear x2 hB hb
      go_wp2_with fail
      refine hcl.mono ?_
      clear hcl
      rintro e w2 ⟨hb2, rfl⟩
      have hz2' := hb2.size
      have HB2 : Hid (Below w1.heap.size w1 w2) := HB.out.trans (hb2.mono (by omega))
      have HO2 : Hid (w2.ownsRow w1.heap.size 3 1 (.slice ao' (busyL s t l f k).length cap') (busyL s t l f k).length (flati (busyL s t l f k))) := owns_below HO.out hb2 (Nat.le_refl _)
      clear HO HB hb2
      cases b with
      | true =>
        have HN : Hid (busyL s t l f (k + 1) = busyL s t l f k ++ [(k : Int)]) := busyL_yes (HBu.out.1 rfl)
        have HO1 : Hid (∀ u ∈ ([.int .i64 (k : Int)] : List Value), u.oneCell' = true) := fun u hu => by simp at hu; subst hu; rfl
        have HNw : Hid (∀ j u, ([.int .i64 (k : Int)] : List Value)[j]? = some u → (w2.alloc (.cells #[.int .i64 (k : Int)] 3)).cell? ((⟨w2.heap.size, 0, none⟩ : Addr).add j) = some u) := by
          intro j u hj
          match j, hj with
          | 0, hj =>
            simp at hj; subst hj
            exact newest (w := w2) #[.int .i64 (k : Int)] 3 0
        have HK1 : Hid ((busyL s t l f k).length + 1 ≤ maxLen) := by unfold Hid maxLen; omega
        have HK2 : Hid (((busyL s t l f k).length + 1) * 8 ≤ 140737488355328) := by unfold Hid; omega
        have HK3 : Hid (w1.heap.size ≤ (w2.alloc (.cells #[.int .i64 (k : Int)] 3)).heap.size) := by unfold Hid; simp; omega
        have HOa : Hid ((w2.alloc (.cells #[.int .i64 (k : Int)] 3)).ownsRow w1.heap.size 3 1 (.slice ao' (busyL s t l f k).length cap') (busyL s t l f k).length (flati (busyL s t l f k))) := HO2.out.alloc _
        have HBa : Hid (Below w1.heap.size w1 (w2.alloc (.cells #[.int .i64 (k : Int)] 3))) := HB2.out.alloc (by omega) _
        clear HBu HO2 HB2 hm
        go_wp2_with (at_builtin; refine wpList_append_own _ rfl (.tmp 21) (.tmp 23) 25 rfl w1.heap.size 3 i0 _ 1 8 Try.underlying25 hi hz0 hz1 hz2 rfl (by decide) _ _ _ rfl HOa.out ⟨w2.heap.size, 0, none⟩ 1 1 [.int .i64 (k : Int)] rfl rfl HNw.out HO1.out HK1.out HK2.out HK3.out ?_; intro v' w5 hown' hgrow _)
        have hB5 : Below w1.heap.size w1 w5 := HBa.out.grown hgrow HK3.out (fun g hg => (HOa.out.lt g hg).1)
        have HO6 : Hid (w5.ownsRow w1.heap.size 3 1 v' (busyL s t l f (k + 1)).length (flati (busyL s t l f (k + 1)))) := by
          rw [Hid, HN.out, List.length_append, flati, List.map_append]; exact hown'
        clear hown' hgrow HOa HBa HO1 HK1 HK2 HK3 HNw HN
        go_wp2
        go_roundw
        case rel => exact ⟨k + 1, by omega, by go_num, HO6, hB5⟩
        case measure => simp [intOf]; omega
      | false =>
        have HN : Hid (busyL s t l f (k + 1) = busyL s t l f k) := busyL_no (fun h => Bool.false_ne_true (HBu.out.2 h))
        clear HBu
        go_wp2
        go_roundw
        case rel => exact ⟨k + 1, by omega, by go_num, by rw [HN.out]; exact HO2, HB2.out⟩
        case measure => simp [intOf]; omega
    · have hkk : N = k := by omega
      subst hkk
      obtain ⟨a1, c1, rfl, hA1, _, hc1, hm1⟩ := owns_ints HO.out
      have HIn : Hid (IntsIn wr a1 c1 (busyL s t l f N)) := by
        obtain ⟨a2, c2, e, hO2⟩ := own_is HO.out
        cases e
        exact hO2.arg
      have HB : Hid (Below w1.heap.size w1 wr) := hB
      clear hA1 hc1 hm1 HO hB
      go_wp2
      go_ret2
      exact ⟨HB1.out.trans (HB.out.mono (by omega)), a1, c1, _, rfl, HIn.out, fun x hx => busyL_mem.1 hx, fun v hv hb => busyL_mem.2 ⟨v, rfl, hv, hb⟩⟩

end Go.Proofs.Ytgmifepfbcgfbaa
