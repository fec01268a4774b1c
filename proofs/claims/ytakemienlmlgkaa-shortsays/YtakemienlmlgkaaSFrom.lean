/- short.From and short.Heights keep their contracts. -/
import Derived.Test.YtakemienlmlgkaaSShort
import Derived.Test.YtakemienlmlgkaaGraph
namespace Go.Proofs.Ytakemienlmlgkaa
open Go.RowKit
set_option linter.unusedVariables false

theorem row_bools {w : World} {b : Nat} {t : TypeId} {N : Nat} {f : Nat → Bool} (h : w.rowIs b t N (fun j => .bool (f j))) : BoolsAt w (some ⟨b, 0, none⟩) ((List.range N).map f) := by
  intro i hi
  have hi' : i < N := by simpa using hi
  refine ⟨b, 0, rfl, h.lt, ?_⟩
  rw [Nat.zero_add, atb_range N f hi']
  exact h.cell hi'

set_option maxHeartbeats 400000 in
theorem hIsNode_any (n v : Int) (x : Value) (w : World) :
    Calls Try.prog 26 #[.agg #[.int .i64 n, x], .int .i64 v] w fun e w' => e = .returned (.bool (isN n v)) ∧ Below w.heap.size w w' := by
  by_cases h0 : 0 ≤ v
  · by_cases h1 : v < n
    · go_enter Try.func26, Try.ntmps26
      go_wp2
      go_ret
      exact ⟨by simp [isN, h0, h1], below_one _ _⟩
    · go_enter Try.func26, Try.ntmps26
      go_wp2
      go_ret
      exact ⟨by simp [isN]; omega, below_one _ _⟩
  · go_enter Try.func26, Try.ntmps26
    go_wp2
    go_ret
    exact ⟨by simp [isN]; omega, below_one _ _⟩

/-- the arcs lie where they lay before -/
theorem arcs_lie {w : World} {ao : Option Addr} {l : List Arc3} (h : ArcsAt w ao l) : ∀ d off, ao = some ⟨d, off, none⟩ → 0 < l.length → d < w.heap.size := fun b off e h0 => by
  obtain ⟨_, _, e', hlt, _⟩ := h 0 h0
  rw [e] at e'
  cases e'
  exact hlt

set_option maxHeartbeats 2000000 in
set_option maxRecDepth 100000 in
theorem From_new (n s : Int) (ao : Option Addr) (cap : Nat) (l : List Arc3) (w : World) (hG : GraphIn w ao cap l) :
    Calls Try.prog 9 #[.agg #[.int .i64 n, .slice ao l.length cap], .int .i64 s] w fun e w' => Below w.heap.size w w' ∧
      ((∃ (N b c : Nat) (F : Nat → Int) (K : Nat → Bool), n = (N : Int) ∧ N ≤ 12 ∧ w.heap.size ≤ b ∧ w.heap.size ≤ c ∧ b ≠ c ∧ e = .returned (.tuple #[.slice (some ⟨b, 0, none⟩) N N, .slice (some ⟨c, 0, none⟩) N N, .int .i64 0]) ∧
          w'.rowIs b 3 N (fun j => .int .i64 (F j)) ∧ w'.rowIs c 4 N (fun j => .bool (K j)) ∧ FromSays n l s ((List.range N).map F) ((List.range N).map K) 0) ∨
        (∃ err, e = .returned (.tuple #[.slice none 0 0, .slice none 0 0, .int .i64 err]) ∧ err ≠ 0 ∧ FromSays n l s [] [] err)) := by
  have hm := hG.len
  have hab := arcs_lie hG.arcs
  have hA0 := hG.arcs.alloc (.cells #[.int .i64 n, .slice ao l.length cap] 24)
  have x0 := blk_new w (.cells #[.int .i64 n, .slice ao l.length cap] 24)
  go_enter Try.func9, Try.ntmps9
  go_wp2_with fail
  refine (CheckLong_any _ _ _ _ _ hm hA0).mono ?_
  rintro e w1 ⟨rfl, hb1⟩
  simp only [World.size_alloc] at hb1
  have hz1 := hb1.size
  simp only [World.size_alloc] at hz1
  have x1 := blk_below hb1 x0 (by omega)
  have hbb1 := below_in hb1 (by omega)
  have hA1 := hA0.below hb1 (by simp)
  obtain ⟨r0, r1, f0, f1⟩ := blk2 x1
  clear hb1 hA0 x0
  by_cases hE : graphErr n (-10000) l = 0
  · have HE : Hid (graphErr n (-10000) l = 0) := hE
    rw [hE]
    have h00 : ((0 : Int) != 0) = false := rfl
    clear hE
    go_wp2_with fail
    refine (hIsNode_any _ _ _ _).mono ?_
    rintro e w2 ⟨rfl, hb2⟩
    have hz2 := hb2.size
    have hbb2 := hbb1.trans (hb2.mono (by omega))
    have x2 := blk_below hb2 x1 (by omega)
    have hA2 := hA1.below hb2 (Nat.le_refl _)
    clear hb2 hbb1 x1 hA1 r0 r1 f0 f1
    obtain ⟨r0, r1, f0, f1⟩ := blk2 x2
    by_cases hs : 0 ≤ s ∧ s < n
    · have hi : isN n s = true := by simpa [isN] using hs
      rw [hi]
      obtain ⟨⟨hn1, hn2⟩, hl60, hall⟩ := err_ok HE.out
      obtain ⟨N, rfl⟩ := Int.eq_ofNat_of_zero_le (show 0 ≤ n by omega)
      obtain ⟨s, rfl⟩ := Int.eq_ofNat_of_zero_le hs.1
      have hsN : s < N := by omega
      have hwl : w.heap.size < w2.heap.size := by omega
      have hN12 : N ≤ 12 := by omega
      have HL : Hid (∀ a ∈ l, (0 ≤ a.1 ∧ a.1 < (N : Int)) ∧ (0 ≤ a.2.1 ∧ a.2.1 < (N : Int)) ∧ -10000 ≤ a.2.2 ∧ a.2.2 ≤ 10000) := hall
      have hmk1 := make_ints N (by omega)
      have hmk2 := make_bools N (by omega)
      have HB : Hid (Below w.heap.size w w2) := hbb2
      have HA : Hid (ArcsAt w2 ao l) := hA2
      have HAB : Hid (∀ d off, ao = some ⟨d, off, none⟩ → 0 < l.length → d < w.heap.size) := hab
      have z0 := zerb_at w2 N s hsN
      have hK : ((w2.alloc (.cells (zeri N) 3)).alloc (.cells ((zerb N).setIfInBounds s (.bool true)) 4)).rowIs (w2.heap.size + 1) 4 N (fun v => .bool (decide (v = s))) := by
        simpa using zerb_one (w2.alloc (.cells (zeri N) 3)) N s 4
      have hF : ((w2.alloc (.cells (zeri N) 3)).alloc (.cells ((zerb N).setIfInBounds s (.bool true)) 4)).rowIs w2.heap.size 3 N (fun _ => .int .i64 0) := (zeri_row w2 N 3).alloc _
      have HC := settle_any N ao cap l (fun v => v = s) w2.heap.size (w2.heap.size + 1) (fun v => decide (v = s)) ((w2.alloc (.cells (zeri N) 3)).alloc (.cells ((zerb N).setIfInBounds s (.bool true)) 4)) ((hA2.alloc _).alloc _) (by omega) (by omega) hN12 HL.out (by omega)
        (fun d off e h0 => by have := hab d off e h0; omega) hF hK (fun v hv => by simp)
      clear hall hbb2 hA2 hab hG hK hF
      go_wp2_with fail
      refine HC.mono ?_
      rintro e w3 ⟨hT, hC⟩
      have hz3 := hT.size
      simp only [World.size_alloc] at hz3
      have HB3 : Hid (Below w.heap.size w w3) := (((HB.out.alloc (by omega) _).alloc (by simp; omega) _)).trans (hT.below (by omega) (by omega) (by simp; omega))
      clear HC hT HB
      rcases hC with ⟨rfl, F', K', r, m, hF', hK', hR, hSl⟩ | ⟨rfl, s', hs', rfl, hLo⟩
      · have hFI := rx_from (fun a ha => ⟨(HL.out a ha).1, (HL.out a ha).2.1⟩) hsN hR hSl
        have HS : Hid (FromSays (N : Int) l (s : Int) ((List.range N).map F') ((List.range N).map K') 0) := ⟨fun h => absurd HE.out h, fun _ h => absurd hs h, fun _ _ h => absurd h (hFI.noLoop (fun a ha => ⟨(HL.out a ha).1, (HL.out a ha).2.1⟩) hs), fun _ _ _ => ⟨rfl, by rw [Int.toNat_natCast]; exact hFI⟩, fun h => absurd rfl h⟩
        have HF : Hid (w3.rowIs w2.heap.size 3 N (fun j => .int .i64 (F' j))) := hF'
        have HK : Hid (w3.rowIs (w2.heap.size + 1) 4 N (fun j => .bool (K' j))) := hK'
        clear hR hSl hFI hF' hK' hs
        go_wp2
        go_ret3
        exact ⟨HB3.out, Or.inl ⟨N, _, _, F', K', rfl, hN12, by omega, by omega, by omega, rfl, HF.out, HK.out, HS.out⟩⟩
      · have HS : Hid (FromSays (N : Int) l (s' : Int) [] [] 6) := ⟨fun h => absurd HE.out h, fun _ h => absurd hs h, fun _ _ _ => rfl, fun _ _ h => absurd hLo h, fun _ => ⟨rfl, rfl⟩⟩
        clear hs
        go_wp2
        go_ret3
        exact ⟨HB3.out, Or.inr ⟨6, rfl, by decide, HS.out⟩⟩
    · have hi : isN n s = false := by simpa [isN] using hs
      rw [hi]
      have HS : Hid (FromSays n l s [] [] 4) := ⟨fun h => absurd HE.out h, fun _ _ => rfl, fun _ h => absurd h hs, fun _ h => absurd h hs, fun _ => ⟨rfl, rfl⟩⟩
      go_wp2
      go_ret3
      exact ⟨hbb2, Or.inr ⟨4, rfl, by decide, HS.out⟩⟩
  · have hE' : (graphErr n (-10000) l != 0) = true := by simpa using hE
    have HS : Hid (FromSays n l s [] [] (graphErr n (-10000) l)) := ⟨fun _ => rfl, fun h => absurd h hE, fun h => absurd h hE, fun h => absurd h hE, fun _ => ⟨rfl, rfl⟩⟩
    have HE : Hid (graphErr n (-10000) l ≠ 0) := hE
    clear hE
    go_wp2
    go_ret3
    exact ⟨hbb1, Or.inr ⟨_, rfl, HE.out, HS.out⟩⟩

theorem From_any : FromC := by
  intro n s ao cap l w hG
  refine (From_new n s ao cap l w hG).mono ?_
  rintro e w' ⟨hb, ⟨N, b, c, F, K, rfl, _, _, _, _, rfl, hF, hK, hS⟩ | ⟨err, rfl, _, hS⟩⟩
  · exact ⟨hb, some ⟨b, 0, none⟩, N, (List.range N).map F, some ⟨c, 0, none⟩, N, (List.range N).map K, 0, by simp, row_ints hF, row_bools hK, hS⟩
  · exact ⟨hb, none, 0, [], none, 0, [], err, rfl, fun i hi => absurd hi (Nat.not_lt_zero _), fun i hi => absurd hi (Nat.not_lt_zero _), hS⟩

set_option maxHeartbeats 2000000 in
set_option maxRecDepth 100000 in
theorem Heights_any : HeightsC := by
  intro n ao cap l w hG
  have hm := hG.len
  have hab := arcs_lie hG.arcs
  have hA0 := hG.arcs.alloc (.cells #[.int .i64 n, .slice ao l.length cap] 24)
  have x0 := blk_new w (.cells #[.int .i64 n, .slice ao l.length cap] 24)
  go_enter Try.func10, Try.ntmps10
  go_wp2_with fail
  refine (CheckLong_any _ _ _ _ _ hm hA0).mono ?_
  rintro e w2 ⟨rfl, hb1⟩
  simp only [World.size_alloc] at hb1
  have hz1 := hb1.size
  simp only [World.size_alloc] at hz1
  have x2 := blk_below hb1 x0 (by omega)
  have hbb2 := below_in hb1 (by omega)
  have hA2 := hA0.below hb1 (by simp)
  obtain ⟨r0, r1, f0, f1⟩ := blk2 x2
  clear hb1 hA0 x0
  by_cases hE : graphErr n (-10000) l = 0
  · have HE : Hid (graphErr n (-10000) l = 0) := hE
    rw [hE]
    have h00 : ((0 : Int) != 0) = false := rfl
    clear hE
    obtain ⟨⟨hn1, hn2⟩, hl60, hall⟩ := err_ok HE.out
    obtain ⟨N, rfl⟩ := Int.eq_ofNat_of_zero_le (show 0 ≤ n by omega)
    have hwl : w.heap.size < w2.heap.size := by omega
    have hN12 : N ≤ 12 := by omega
    have HL : Hid (∀ a ∈ l, (0 ≤ a.1 ∧ a.1 < (N : Int)) ∧ (0 ≤ a.2.1 ∧ a.2.1 < (N : Int)) ∧ -10000 ≤ a.2.2 ∧ a.2.2 ≤ 10000) := hall
    have hmk1 := make_ints N (by omega)
    have hmk2 := make_bools N (by omega)
    have HAB : Hid (∀ d off, ao = some ⟨d, off, none⟩ → 0 < l.length → d < w.heap.size) := hab
    have HA : Hid (ArcsAt w2 ao l) := hA2
    have HB : Hid (Below w.heap.size w w2) := hbb2
    have HX : Hid (w2.heap[w.heap.size]? = some (.cells #[.int .i64 (N : Int), .slice ao l.length cap] 24 (0, 0))) := x2
    have HK0 : Hid (((w2.alloc (.cells (zeri N) 3)).alloc (.cells (zerb N) 4)).rowIs (w2.heap.size + 1) 4 N (fun _ => .bool false)) := by
      rw [Hid]; simpa using zerb_row (w2.alloc (.cells (zeri N) 3)) N 4
    clear hall hbb2 hA2 hab hG x2
    go_wp2
    go_loopw [21] (fun i wr => ∃ k : Nat, k ≤ N ∧ i = .int .i64 k ∧ wr.rowIs (w2.heap.size + 1) 4 N (fun j => .bool (decide (j < k))) ∧ wr.rowIs w2.heap.size 3 N (fun _ => .int .i64 0) ∧ Below w2.heap.size w2 wr) (fun i _ => N - (intOf i).toNat)
    case atStart => exact ⟨0, Nat.zero_le _, rfl, HK0.out.congr fun j hj => by simp, (zeri_row w2 N 3).alloc _, (below_one _ _).alloc (by simp) _⟩
    case round =>
      obtain ⟨k, hk, rfl, hK, hF, hBl⟩ := hrel
      clear r0 r1 f0 f1
      have hzr := hK.lt
      have hz := hBl.size
      by_cases hlt : k < N
      · have q0 := hK.cell (i := k) hlt
        have q1 := hK.frozen k
        have HK : Hid (wr.rowIs (w2.heap.size + 1) 4 N (fun j => .bool (decide (j < k)))) := hK
        have HF : Hid (wr.rowIs w2.heap.size 3 N (fun _ => .int .i64 0)) := hF
        clear hK hF
        go_wp2
        go_roundw
        case rel =>
          refine ⟨k + 1, by omega, by go_num, (HK.out.set k _).congr fun j hj => ?_, HF.out.setOther (by simp) _, hBl.setCell (by simp) _⟩
          by_cases e : j = k
          · subst e; simp
          · have : (j < k + 1) = (j < k) := by simp; omega
            simp [e, this]
        case measure => simp [intOf]; omega
      · have hkl : N = k := by omega
        subst hkl
        have x3 := blk_below hBl HX.out (by omega)
        obtain ⟨r0, r1, f0, f1⟩ := blk2 x3
        have HC := settle_any N ao cap l (fun _ => True) w2.heap.size (w2.heap.size + 1) (fun v => decide (v < N)) wr (HA.out.below hBl (Nat.le_refl _)) (by omega) (by omega) hN12 HL.out (by omega)
          (fun d off e h0 => by have := HAB.out d off e h0; omega) hF hK (fun v hv => by simp [hv])
        have HBw : Hid (Below w.heap.size w wr) := HB.out.trans (hBl.mono (by omega))
        clear hK hF hBl x3
        go_wp2_with fail
        refine HC.mono ?_
        rintro e w3 ⟨hT, hC⟩
        have HB3 : Hid (Below w.heap.size w w3) := HBw.out.trans (hT.below (by omega) (by omega) (by omega))
        clear HC hT HBw
        rcases hC with ⟨rfl, F', K', r, m, hF', hK', hR, hSl⟩ | ⟨rfl, s', hs', _, hLo⟩
        · have hFI := rx_heights (fun a ha => ⟨(HL.out a ha).1, (HL.out a ha).2.1⟩) hR hSl
          have HS : Hid (HeightsSays (N : Int) l ((List.range N).map F') 0) := ⟨fun h => absurd HE.out h, fun _ h => absurd h hFI.noLoop, fun _ _ => ⟨rfl, by rw [Int.toNat_natCast]; exact hFI⟩, fun h => absurd rfl h⟩
          have HF : Hid (w3.rowIs w2.heap.size 3 N (fun j => .int .i64 (F' j))) := hF'
          clear hR hSl hFI hF' hK'
          go_wp2
          go_ret2
          exact ⟨HB3.out, some ⟨w2.heap.size, 0, none⟩, N, (List.range N).map F', 0, by simp, row_ints HF.out, HS.out⟩
        · have HS : Hid (HeightsSays (N : Int) l [] 6) := ⟨fun h => absurd HE.out h, fun _ _ => rfl, fun _ h => absurd (loop_any (fun a ha => ⟨(HL.out a ha).1, (HL.out a ha).2.1⟩) hs' hLo) h, fun _ => rfl⟩
          go_wp2
          go_ret2
          exact ⟨HB3.out, none, 0, [], 6, rfl, fun i hi => absurd hi (Nat.not_lt_zero _), HS.out⟩
  · have hE' : (graphErr n (-10000) l != 0) = true := by simpa using hE
    have HS : Hid (HeightsSays n l [] (graphErr n (-10000) l)) := ⟨fun _ => rfl, fun h => absurd h hE, fun h => absurd h hE, fun _ => rfl⟩
    clear hE
    go_wp2
    go_ret2
    exact ⟨hbb2, none, 0, [], _, rfl, fun i hi => absurd hi (Nat.not_lt_zero _), HS.out⟩

end Go.Proofs.Ytakemienlmlgkaa
