/- The law ShortSays, walked, out of the contracts of From, Heights and All. -/
import Derived.Test.YtakemienlmlgkaaSAll
import Derived.Test.YtakemienlmlgkaaShortC
import Derived.Test.YtakemienlmlgkaaRefErr
import Derived.Test.YtakemienlmlgkaaWays
import Derived.Test.YtakemienlmlgkaaLWays
import Derived.Test.YtakemienlmlgkaaShRow
namespace Go.Proofs.Ytakemienlmlgkaa
open Go.RowKit
set_option linter.unusedVariables false

theorem long_fits {N : Nat} {l : List Arc3} (hl : ∀ a ∈ l, (0 ≤ a.1 ∧ a.1 < (N : Int)) ∧ (0 ≤ a.2.1 ∧ a.2.1 < (N : Int)) ∧ -10000 ≤ a.2.2 ∧ a.2.2 ≤ 10000) (hN : N ≤ 12) {M : Nat → Nat → Int} (h : LongIs N l M) {s : Nat} (hs : s < N) {F : List Int} {K : List Bool} (hF : FromIs N l s F K) : RowFits N (M s) F K := by
  intro v hv
  have hb := hF.bound hN (by omega) hl hv
  rcases long_row (fun a ha => ⟨(hl a ha).1, (hl a ha).2.1⟩) hN h hs hF hv with ⟨h1, h2⟩ | h
  · exact Or.inl ⟨h1, h2, by omega⟩
  · exact Or.inr h

/-- what is asked of From so far -/
def wantL (M Y : Nat → Nat → Int) (s : Nat) : Nat → Int
  | 0 => 0
  | k + 1 => if M k k < 0 ∧ Y s k < 100 then 6 else wantL M Y s k
theorem wantL_is (M Y : Nat → Nat → Int) (s : Nat) : ∀ n, wantL M Y s n = if (∃ k, k < n ∧ M k k < 0 ∧ Y s k < 100) then 6 else 0
  | 0 => by simp [wantL]
  | n + 1 => by
    rw [wantL, wantL_is M Y s n]
    by_cases c : M n n < 0 ∧ Y s n < 100
    · rw [if_pos c, if_pos ⟨n, by omega, c⟩]
    · rw [if_neg c]
      by_cases d : ∃ k, k < n ∧ M k k < 0 ∧ Y s k < 100
      · obtain ⟨k, hk, h⟩ := d
        rw [if_pos ⟨k, hk, h⟩, if_pos ⟨k, by omega, h⟩]
      · rw [if_neg d, if_neg]
        rintro ⟨k, hk, h⟩
        by_cases e : k = n
        · subst e; exact c h
        · exact d ⟨k, by omega, h⟩

theorem want_from {N : Nat} {l : List Arc3} (hl : ∀ a ∈ l, (0 ≤ a.1 ∧ a.1 < (N : Int)) ∧ (0 ≤ a.2.1 ∧ a.2.1 < (N : Int))) (hN : N ≤ 12) {M Y M1 : Nat → Nat → Int} (h : LongIs N l M) (hI : IsInit N l M1) (hY : ∀ i k, i < N → k < N → Y i k = flo M1 N i k) {s : Nat} (hs : s < N) (hE : graphErr N (-10000) l = 0) {F : List Int} {K : List Bool} {err : Int} (hS : FromSays N l s F K err) : wantL M Y s N = err := by
  rw [wantL_is]
  have e : (∃ k, k < N ∧ M k k < 0 ∧ Y s k < 100) ↔ LoopFrom l s := by
    rw [loopFrom_long hl hN h hs]
    constructor
    · rintro ⟨k, hk, h1, h2⟩
      rw [hY s k hs hk] at h2
      exact ⟨k, hk, h1, (ways_rch hl hN hI hs hk).1 h2⟩
    · rintro ⟨k, hk, h1, h2⟩
      exact ⟨k, hk, h1, by rw [hY s k hs hk]; exact (ways_rch hl hN hI hs hk).2 h2⟩
  by_cases c : LoopFrom l s
  · rw [if_pos (e.2 c), hS.loop hE (by omega) c]
  · rw [if_neg (fun h => c (e.1 h)), (hS.ok hE (by omega) c).1]

set_option maxHeartbeats 8000000 in
set_option maxRecDepth 100000 in
theorem ShortSays_any (hC : FromC) (hH : HeightsC) (hAll : AllC) (n s : Int) (ao : Option Addr) (cap : Nat) (l : List Arc3) (w : World) (hG : GraphIn w ao cap l) :
    Calls Try.prog 3 #[.agg #[.int .i64 n, .slice ao l.length cap], .int .i64 s] w fun e w' => e = .returned (.bool true) ∧ Below w.heap.size w w' := by
  have hm := hG.len
  have hG0 := hG.alloc (.cells #[.int .i64 n, .slice ao l.length cap] 24)
  have x0 := blk_new w (.cells #[.int .i64 n, .slice ao l.length cap] 24)
  have h00 : ((0 : Int) != 0) = false := rfl
  have h00' : ((0 : Int) == 0) = true := rfl
  go_enter Try.func3, Try.ntmps3
  go_wp2_with fail
  refine (hC n s ao cap l _ hG0).mono ?_
  rintro e w1 ⟨hb1, a1, c1, F, a2, c2, K, eF, rfl, hF1, hK1, hSF⟩
  simp only [World.size_alloc] at hb1
  have hz1 := hb1.size
  simp only [World.size_alloc] at hz1
  have x1 := blk_below hb1 x0 (by omega)
  have hG1 := hG0.below hb1 (by simp)
  have hbb1 := below_in hb1 (by omega)
  have HSF : Hid (FromSays n l s F K eF) := hSF
  clear hb1 x0 hG0 hSF
  obtain ⟨r0, r1, f0, f1⟩ := blk2 x1
  go_wp2_with fail
  refine (hH n ao cap l _ hG1).mono ?_
  rintro e w2 ⟨hb2, a3, c3, H, eH, rfl, hH2, hSH⟩
  have hz2 := hb2.size
  have x2 := blk_below hb2 x1 (by omega)
  have hG2 := hG1.below hb2 (by omega)
  have hF2 := hF1.below hb2 (by omega)
  have hK2 := hK1.below hb2 (by omega)
  have hbb2 := hbb1.trans (hb2.mono (by omega))
  have HSH : Hid (HeightsSays n l H eH) := hSH
  clear hb2 x1 hG1 hF1 hK1 hbb1 hSH r0 r1 f0 f1
  obtain ⟨r0, r1, f0, f1⟩ := blk2 x2
  go_wp2_with fail
  refine (hAll n ao cap l _ hG2).mono ?_
  rintro e w3 ⟨hb3, hRA⟩
  have hz3 := hb3.size
  have x3 := blk_below hb3 x2 (by omega)
  have hG3 := hG2.below hb3 (by omega)
  have hF3 := hF2.below hb3 (by omega)
  have hK3 := hK2.below hb3 (by omega)
  have hH3 := hH2.below hb3 (by omega)
  have hbb3 := hbb2.trans (hb3.mono (by omega))
  clear hb3 x2 hG2 hF2 hK2 hH2 hbb2 r0 r1 f0 f1
  obtain ⟨r0, r1, f0, f1⟩ := blk2 x3
  -- what All tells, by one form
  obtain ⟨v4, v5, eA, rfl, hRA'⟩ : ∃ v4 v5 eA, e = .returned (.tuple #[v4, v5, .int .i64 eA]) ∧
      ((∃ (N D E : Nat) (R Q : Nat → Nat) (M : Nat → Nat → Int) (T : Nat → Nat → Bool), n = (N : Int) ∧ graphErr n (-10000) l = 0 ∧ (¬ ∃ v, (0 ≤ v ∧ v < n) ∧ Neg l v) ∧ eA = 0 ∧ v4 = .slice (some ⟨D, 0, none⟩) N N ∧ v5 = .slice (some ⟨E, 0, none⟩) N N ∧
        PMat w2.heap.size w3 D R N N N M ∧ PMatB w3 E Q N N N T ∧ ∀ s : Nat, s < N → FromIs N l s ((List.range N).map (M s)) ((List.range N).map (T s))) ∨
      (v4 = .slice none 0 0 ∧ v5 = .slice none 0 0 ∧ AllBad n l eA)) := by
    rcases hRA with ⟨N, D, E, R, Q, M, T, h1, h2, h3, h4, h5, h6, h7⟩ | ⟨err, h1, h2⟩
    · exact ⟨_, _, _, h4, Or.inl ⟨N, D, E, R, Q, M, T, h1, h2, h3, rfl, rfl, rfl, h5, h6, h7⟩⟩
    · exact ⟨_, _, _, h1, Or.inr ⟨rfl, rfl, h2⟩⟩
  clear hRA
  -- the lengths of what was told
  obtain ⟨lF, hlF⟩ : ∃ k, F.length = k := ⟨_, rfl⟩
  obtain ⟨lK, hlK⟩ : ∃ k, K.length = k := ⟨_, rfl⟩
  obtain ⟨lH, hlH⟩ : ∃ k, H.length = k := ⟨_, rfl⟩
  rw [hlF, hlK, hlH]
  have HlF : Hid (F.length = lF) := hlF
  have HlK : Hid (K.length = lK) := hlK
  have HlH : Hid (H.length = lH) := hlH
  clear hlF hlK hlH
  go_wp2_with fail
  refine (refLongErr_any n ao cap l w3 hm hG3.arcs).mono ?_
  rintro e w4 ⟨rfl, hb4⟩
  by_cases hE : graphErr n (-10000) l = 0
  · obtain ⟨⟨hn1, hn2⟩, hlen, hall⟩ := err_ok hE
    obtain ⟨N, rfl⟩ := Int.eq_ofNat_of_zero_le (show 0 ≤ n by omega)
    have hN12 : N ≤ 12 := by omega
    have hN1 : 1 ≤ N := by omega
    have HE : Hid (graphErr N (-10000) l = 0) := hE
    have HL : Hid (∀ a ∈ l, (0 ≤ a.1 ∧ a.1 < (N : Int)) ∧ (0 ≤ a.2.1 ∧ a.2.1 < (N : Int)) ∧ -10000 ≤ a.2.2 ∧ a.2.2 ≤ 10000) := hall
    have HL2 : Hid (∀ a ∈ l, (0 ≤ a.1 ∧ a.1 < (N : Int)) ∧ (0 ≤ a.2.1 ∧ a.2.1 < (N : Int))) := fun a ha => ⟨(hall a ha).1, (hall a ha).2.1⟩
    clear hall
    have HRA : Hid ((∃ (N' D E : Nat) (R Q : Nat → Nat) (M : Nat → Nat → Int) (T : Nat → Nat → Bool), (N : Int) = (N' : Int) ∧ graphErr N (-10000) l = 0 ∧ (¬ ∃ v, (0 ≤ v ∧ v < (N : Int)) ∧ Neg l v) ∧ eA = 0 ∧ v4 = .slice (some ⟨D, 0, none⟩) N' N' ∧ v5 = .slice (some ⟨E, 0, none⟩) N' N' ∧
        PMat w2.heap.size w3 D R N' N' N' M ∧ PMatB w3 E Q N' N' N' T ∧ ∀ s : Nat, s < N' → FromIs N' l s ((List.range N').map (M s)) ((List.range N').map (T s))) ∨
      (v4 = .slice none 0 0 ∧ v5 = .slice none 0 0 ∧ AllBad N l eA)) := hRA'
    clear hRA'
    rw [HE.out]
    have hz4 := hb4.size
    have x4 := blk_below hb4 x3 (by omega)
    have hG4 := hG3.below hb4 (by omega)
    have hb34 := hb4
    have hbb4 := hbb3.trans (hb4.mono (by omega))
    clear hb4 x3 hG3 hbb3 r0 r1 f0 f1 hE
    obtain ⟨r0, r1, f0, f1⟩ := blk2 x4
    go_wp2_with fail
    refine (LongWays_any N ao cap l w4 hG4.arcs hm hN1 hN12 HL.out).mono ?_
    rintro e w5 ⟨hb5, D, R, C, M, rfl, hP5, hLong⟩
    have hz5 := hb5.size
    have x5 := blk_below hb5 x4 (by omega)
    have hG5 := hG4.below hb5 (by omega)
    have hb35 := hb34.trans (hb5.mono (by omega))
    have hbb5 := hbb4.trans (hb5.mono (by omega))
    have HLong : Hid (LongIs N l M) := hLong
    clear hb5 x4 hG4 hbb4 r0 r1 f0 f1 hLong hb34
    -- the cell of d
    have y5 := blk_new w5 (.cells #[.slice (some ⟨D, 0, none⟩) N N] 32)
    have hP6 := hP5.alloc (.cells #[.slice (some ⟨D, 0, none⟩) N N] 32)
    have x6 := blk_old x5 (.cells #[.slice (some ⟨D, 0, none⟩) N N] 32)
    have hG6 := hG5.alloc (.cells #[.slice (some ⟨D, 0, none⟩) N N] 32)
    have hb36 := hb35.alloc (by omega) (.cells #[.slice (some ⟨D, 0, none⟩) N N] 32)
    have hbb6 := hbb5.alloc (by omega) (.cells #[.slice (some ⟨D, 0, none⟩) N N] 32)
    clear hP5 hG5 hb35 hbb5
    go_wp2_with fail
    refine (Loops_any N _ D R C M _ hP6 hN12).mono ?_
    rintro e w7 ⟨hb7, aL, cL, rfl, hL7⟩
    simp only [World.size_alloc] at hb7
    have hz7 := hb7.size
    simp only [World.size_alloc] at hz7
    have x7 := blk_below hb7 x6 (by omega)
    have y7 := blk_below hb7 y5 (by omega)
    have hP7 := hP6.below hb7 (by simp)
    have hG7 := hG6.below hb7 (by simp)
    have hb37 := hb36.trans (hb7.mono (by omega))
    have hbb7 := hbb6.trans (hb7.mono (by omega))
    clear hb7 x5 x6 y5 hP6 hG6 hb36 hbb6
    obtain ⟨r0, r1, f0, f1⟩ := blk2 x7
    go_wp2_with fail
    refine (Ways_any N ao cap l w7 hG7.arcs hm hN1 hN12 HL2.out).mono ?_
    rintro e W ⟨hb8, DY, RY, Y, rfl, hPY, M1, hI, hY⟩
    have hz8 := hb8.size
    have x8 := blk_below hb8 x7 (by omega)
    have y8 := blk_below hb8 y7 (by omega)
    have hP8 := hP7.below hb8 (Nat.le_refl _)
    have hL8 := hL7.below hb8 (Nat.le_refl _)
    have hb38 := hb37.trans (hb8.mono (by omega))
    have HbbW : Hid (Below w.heap.size w W) := hbb7.trans (hb8.mono (by omega))
    have HI : Hid (IsInit N l M1) := hI
    have HY : Hid (∀ i k, i < N → k < N → Y i k = flo M1 N i k) := hY
    have HPY : Hid (PMat w7.heap.size W DY RY N N N Y) := hPY
    have HPd : Hid (LMat w4.heap.size W D R C N N M) := hP8
    have HLo : Hid (BoolsAt W aL (loopsL M N)) := hL8
    have HF : Hid (IntsAt W a1 F) := hF3.below hb38 (Nat.le_refl _)
    have HK : Hid (BoolsAt W a2 K) := hK3.below hb38 (Nat.le_refl _)
    have HH : Hid (IntsAt W a3 H) := hH3.below hb38 (Nat.le_refl _)
    have Hb38 : Hid (Below w3.heap.size w3 W) := hb38
    have dd := (show W.cell? ⟨w5.heap.size, 0, none⟩ = some (.slice (some ⟨D, 0, none⟩) N N) by simp [World.cell?, y8])
    clear hb8 x7 y7 hP7 hL7 hb37 hbb7 hI hY hPY hP8 hL8 hF3 hK3 hH3 hb38 hG7 r0 r1 f0 f1
    obtain ⟨r0, r1, f0, f1⟩ := blk2 x8
    have hbdl : w5.heap.size < W.heap.size := by omega
    have hbgl : w.heap.size < W.heap.size := by omega
    clear x8 y8
    go_upto_region 11 with fail
    go_cut [89] (fun v wx => v = .bool (!decide (0 ≤ s ∧ s < (N : Int))) ∧ wx = W)
    case first =>
      rcases (by omega : s < 0 ∨ (¬ s < 0 ∧ (N : Int) ≤ s) ∨ (¬ s < 0 ∧ ¬ (N : Int) ≤ s)) with g1 | ⟨g1, g2⟩ | ⟨g1, g2⟩
      · have HD : Hid (decide (0 ≤ s ∧ s < (N : Int)) = false) := decide_eq_false (by omega)
        go_wp2
        go_meet
        case rel => exact ⟨by rw [HD.out]; rfl, rfl⟩
      · have HD : Hid (decide (0 ≤ s ∧ s < (N : Int)) = false) := decide_eq_false (by omega)
        go_wp2
        go_meet
        case rel => exact ⟨by rw [HD.out]; rfl, rfl⟩
      · have HD : Hid (decide (0 ≤ s ∧ s < (N : Int)) = true) := decide_eq_true (by omega)
        go_wp2
        go_meet
        case rel => exact ⟨by rw [HD.out]; rfl, rfl⟩
    case rest =>
      obtain ⟨rfl, hwc⟩ := hcut
      rw [hwc]
      clear hwc
      go_upto_if 89 with fail
      go_cut [13] (fun v wx => v = .int .i64 eF ∧ wx = W)
      case first =>
        by_cases hs : 0 ≤ s ∧ s < (N : Int)
        · rw [decide_eq_true hs]
          obtain ⟨s, rfl⟩ := Int.eq_ofNat_of_zero_le hs.1
          have hsN : s < N := by omega
          have hs1 : ¬ (s : Int) < 0 := by omega
          have hs2 : ¬ (N : Int) ≤ (s : Int) := by omega
          have HW : Hid (wantL M Y s N = eF) := want_from HL2.out hN12 HLong.out HI.out HY.out hsN HE.out HSF.out
          have q0 := HPY.out.at hsN
          have hDYl := HPY.out.outer.lt
          have hRYl := (HPY.out.inner s hsN).lt
          clear hs
          go_wp2
          go_loop [13, 92] (fun v i => ∃ k : Nat, k ≤ N ∧ i = .int .i64 k ∧ v = .int .i64 (wantL M Y s k)) (fun _ i => N - (intOf i).toNat)
          case atStart => exact ⟨0, Nat.zero_le _, rfl, rfl⟩
          case round =>
            obtain ⟨k, hk, rfl, rfl⟩ := hrel
            by_cases hlt : k < N
            · obtain ⟨b1, o1, rfl, hb1, e1⟩ := HLo.out k (by rw [loopsL_len]; exact hlt)
              rw [loopsL_at M N hlt] at e1
              have n1 := HPY.out.num hsN hlt
              by_cases g1 : M k k < 0
              · rw [decide_eq_true g1] at e1
                by_cases g2 : Y s k < 100
                · have HN : Hid (wantL M Y s (k + 1) = 6) := by rw [Hid, wantL, if_pos ⟨g1, g2⟩]
                  generalize Y s k = y at *
                  clear g1
                  go_wp2
                  go_round
                  case rel => exact ⟨k + 1, by omega, by go_num, by rw [HN.out]⟩
                  case measure => simp [intOf]; omega
                · have HN : Hid (wantL M Y s (k + 1) = wantL M Y s k) := by rw [Hid, wantL, if_neg (fun h => g2 h.2)]
                  generalize Y s k = y at *
                  clear g1
                  go_wp2
                  go_round
                  case rel => exact ⟨k + 1, by omega, by go_num, by rw [HN.out]⟩
                  case measure => simp [intOf]; omega
              · rw [decide_eq_false g1] at e1
                have HN : Hid (wantL M Y s (k + 1) = wantL M Y s k) := by rw [Hid, wantL, if_neg (fun h => g1 h.1)]
                clear g1
                go_wp2
                go_round
                case rel => exact ⟨k + 1, by omega, by go_num, by rw [HN.out]⟩
                case measure => simp [intOf]; omega
            · have hkN : N = k := by omega
              subst hkN
              go_wp2
              go_meet
              case rel => exact ⟨by rw [HW.out], rfl⟩
        · have he := HSF.out.node HE.out hs
          subst he
          clear HSF
          rw [decide_eq_false hs]
          clear hs
          go_wp2
          go_meet
          case rel => exact ⟨rfl, rfl⟩
      case rest =>
        obtain ⟨rfl, hwc⟩ := hcut
        rw [hwc]
        clear hwc
        go_upto_region 19 with fail
        go_cut [135] (fun v wx => v = .bool false ∧ wx = W)
        case first =>
          by_cases hz : eF = 0
          · subst hz
            obtain ⟨_, hs, _, hFI⟩ := HSF.out.right
            rw [Int.toNat_natCast] at hFI
            obtain ⟨s, rfl⟩ := Int.eq_ofNat_of_zero_le hs.1
            have hsN : s < N := by omega
            have hFl := hFI.lenF
            have hKl := hFI.lenK
            obtain rfl : N = lF := hFl.symm.trans HlF.out
            obtain rfl : N = lK := hKl.symm.trans HlK.out
            have HRow : Hid (Calls Try.prog 16 #[.int .i64 (s : Int), .slice a1 N c1, .slice a2 N c2, .pointer (some ⟨w5.heap.size, 0, none⟩), .pointer (some ⟨w.heap.size, 0, none⟩)] W fun e w' => e = .returned (.bool true) ∧ w' = W) :=
              shortRow_any N _ D w5.heap.size w.heap.size s R C M a1 a2 c1 c2 F K W HPd.out hN12 hsN hbdl dd hbgl r0 HF.out HK.out hFl hKl (long_fits HL.out hN12 HLong.out hsN hFI)
            clear hs hFI hFl hKl HSF
            go_wp2_with (go_at_call 16; refine Calls.mono HRow.out ?_; rintro e w' ⟨rfl, hw⟩; rw [hw]; clear hw)
            go_meet
            case rel => exact ⟨rfl, rfl⟩
          · obtain ⟨rfl, rfl⟩ := HSF.out.none hz
            obtain rfl : 0 = lF := by simpa using HlF.out
            obtain rfl : 0 = lK := by simpa using HlK.out
            have g1 : (eF != 0) = true := by simpa using hz
            have g2 : (eF != eF) = false := by simp
            have g3 : (eF == 0) = false := by simpa using hz
            clear hz HSF
            go_wp2
            go_meet
            case rel => exact ⟨rfl, rfl⟩
        case rest =>
          obtain ⟨rfl, hwc⟩ := hcut
          rw [hwc]
          clear hwc
          have hCt := containsBools aL cL (loopsL M N) true W (by rw [loopsL_len]; unfold maxLen; omega) HLo.out
          rw [loopsL_len] at hCt
          by_cases hAny : ∃ k, k < N ∧ M k k < 0
          · rw [decide_eq_true ((loopsL_mem M N).2 hAny)] at hCt
            have hNeg := (anyNeg_long HL2.out hN12 HLong.out).2 hAny
            have he := HSH.out.loop HE.out hNeg
            subst he
            obtain rfl := HSH.out.none (by decide)
            obtain rfl : 0 = lH := by simpa using HlH.out
            rcases HRA.out with ⟨_, _, _, _, _, _, _, _, _, hno, _⟩ | ⟨rfl, rfl, hbad⟩
            · exact absurd hNeg hno
            · obtain ⟨rfl, _⟩ := hbad.loop HE.out
              have g6 : ((6 : Int) == 6) = true := rfl
              clear hbad HRA HSH hNeg hAny
              go_wp2_with fail
              refine hCt.mono ?_
              rintro e w' ⟨rfl, hw⟩
              rw [hw]
              clear hCt hw
              go_wp2
              go_ret
              exact ⟨rfl, HbbW.out⟩
          · rw [decide_eq_false (fun h => hAny ((loopsL_mem M N).1 h))] at hCt
            have hno : ¬ ∃ v, (0 ≤ v ∧ v < (N : Int)) ∧ Neg l v := fun h => hAny ((anyNeg_long HL2.out hN12 HLong.out).1 h)
            obtain ⟨rfl, hHI⟩ := HSH.out.ok HE.out hno
            rw [Int.toNat_natCast] at hHI
            obtain rfl : N = lH := hHI.len.symm.trans HlH.out
            rcases HRA.out with ⟨N', DA, EA, RA, QA, MA, TA, eN, _, _, rfl, rfl, rfl, hMA, hTA, hFr⟩ | ⟨rfl, rfl, hbad⟩
            · obtain rfl : N = N' := by omega
              have HHI : Hid (HeightsIs N l H) := hHI
              have HMA : Hid (PMat w2.heap.size W DA RA N N N MA) := hMA.below Hb38.out (Nat.le_refl _)
              have HTA : Hid (PMatB W EA QA N N N TA) := hTA.below Hb38.out (Nat.le_refl _)
              have HFr : Hid (∀ s : Nat, s < N → FromIs N l s ((List.range N).map (MA s)) ((List.range N).map (TA s))) := hFr
              have hNN : ((N : Int) != (N : Int)) = false := by simp
              clear hHI hMA hTA hFr HRA HSH hAny hno eN
              go_wp2_with fail
              refine hCt.mono ?_
              rintro e w' ⟨rfl, hw⟩
              rw [hw]
              clear hCt hw
              go_wp2
              go_loopw [184] (fun i wr => ∃ k : Nat, k ≤ N ∧ i = .int .i64 k ∧ ∃ q, wr = W.drewN q) (fun i _ => N - (intOf i).toNat)
              case atStart => exact ⟨0, Nat.zero_le _, rfl, 0, rfl⟩
              case round =>
                obtain ⟨k, hk, rfl, q, rfl⟩ := hrel
                by_cases hlt : k < N
                · go_wp2
                  go_loop [21, 189] (fun v i => ∃ j : Nat, j ≤ N ∧ i = .int .i64 j ∧ v = .int .i64 (lowK M k j)) (fun _ i => N - (intOf i).toNat)
                  case atStart => exact ⟨0, Nat.zero_le _, rfl, rfl⟩
                  case round =>
                    obtain ⟨j, hj, rfl, rfl⟩ := hrel
                    by_cases hjl : j < N
                    · have q0 := HPd.out.at hjl
                      have q1 := HPd.out.num hjl hlt
                      have hDl := HPd.out.outer.lt
                      have hRl := HPd.out.lt j hjl
                      have HN : Hid (lowK M k (j + 1) = min (lowK M k j) (M j k)) := rfl
                      generalize lowK M k j = x at *
                      generalize M j k = y at *
                      rcases Int.lt_trichotomy x y with g1 | g1 | g1
                      · have g2 : ¬ y < x := by omega
                        rw [show min x y = x by omega] at HN
                        go_wp2
                        go_round
                        case rel => exact ⟨j + 1, by omega, by go_num, by rw [HN.out]⟩
                        case measure => simp [intOf]; omega
                      · subst g1
                        rw [show min x x = x by omega] at HN
                        go_wp2
                        go_round
                        case rel => exact ⟨j + 1, by omega, by go_num, by rw [HN.out]⟩
                        case measure => simp [intOf]; omega
                      · have g2 : ¬ x < y := by omega
                        rw [show min x y = y by omega] at HN
                        go_wp2
                        go_round
                        case rel => exact ⟨j + 1, by omega, by go_num, by rw [HN.out]⟩
                        case measure => simp [intOf]; omega
                    · have hjN : N = j := by omega
                      subst hjN
                      rw [long_low HL2.out hN12 HLong.out HHI.out hlt]
                      obtain ⟨b3, o3, rfl, hb3, q3⟩ := HH.out k (by rw [HHI.out.len]; exact hlt)
                      have q4 := HMA.out.at hlt
                      have q5 := HTA.out.at hlt
                      have hDA := HMA.out.outer.lt
                      have hEA := HTA.out.outer.lt
                      have E : Hid (∀ n', Calls Try.prog 16 #[.int .i64 (k : Int), .slice (some ⟨RA k, 0, none⟩) N N, .slice (some ⟨QA k, 0, none⟩) N N, .pointer (some ⟨w5.heap.size, 0, none⟩), .pointer (some ⟨w.heap.size, 0, none⟩)] (W.drewN (q + n')) fun e w' => e = .returned (.bool true) ∧ ∃ m, w' = W.drewN (q + m)) := by
                        intro n'
                        have hbW : Below W.heap.size W (W.drewN (q + n')) := below_drewN (Below.refl _ _) _
                        have hsW := hbW.size
                        exact (shortRow_any N _ D w5.heap.size w.heap.size k R C M _ _ N N _ _ _ (HPd.out.below hbW (Nat.le_refl _)) hN12 hlt (by omega) (later hbW dd hbdl) (by omega) (later hbW r0 hbgl)
                          ((row_ints (HMA.out.inner k hlt)).below hbW (Nat.le_refl _)) ((row_bools (HTA.out.inner k hlt)).below hbW (Nat.le_refl _)) (by simp) (by simp) (long_fits HL.out hN12 HLong.out hlt (HFr.out k hlt))).mono fun _ _ ⟨he, hw⟩ => ⟨he, n', hw⟩
                      generalize ati H k = z at *
                      have hzz : (z != z) = false := by simp
                      go_wp2
                      go_quiet (first | (go_at_call 16; exact E.out _))
                      go_wp2
                      go_roundw
                      case rel => exact ⟨k + 1, by omega, by go_num, _, rfl⟩
                      case measure => simp [intOf]; omega
                · have hkN : N = k := by omega
                  subst hkN
                  go_wp2
                  go_ret
                  exact ⟨rfl, below_drewN HbbW.out _⟩
            · exact absurd (hbad.loop HE.out).2 hno
  · have hF0 := HSF.out.bad hE
    obtain ⟨rfl, rfl⟩ := HSF.out.none (by rw [hF0]; exact hE)
    have hH0 := HSH.out.bad hE
    obtain rfl := HSH.out.none (by rw [hH0]; exact hE)
    rcases hRA' with ⟨N, D, E, R, Q, M, T, h1, h2, _⟩ | ⟨rfl, rfl, hbad⟩
    · exact absurd h2 hE
    · have hA0 := hbad.bad hE
      obtain ⟨EE, hEE⟩ : ∃ EE, graphErr n (-10000) l = EE := ⟨_, rfl⟩
      rw [hEE] at hE
      obtain rfl : EE = eF := (hF0.trans hEE).symm
      obtain rfl : EE = eH := (hH0.trans hEE).symm
      obtain rfl : EE = eA := (hA0.trans hEE).symm
      have hE1 : (EE != 0) = true := by simpa using hE
      have hE2 : (EE == EE) = true := by simp
      rw [hEE]
      obtain rfl : 0 = lF := by simpa using HlF.out
      obtain rfl : 0 = lK := by simpa using HlK.out
      obtain rfl : 0 = lH := by simpa using HlH.out
      clear hbad HSF HSH HlF HlK HlH
      have hbb4 := hbb3.trans (hb4.mono (by omega))
      clear hEE
      go_wp2
      go_ret
      exact ⟨rfl, hbb4⟩

end Go.Proofs.Ytakemienlmlgkaa
