/- Package push: the least height that the steps from a node lead to. -/
import Derived.Test.YtgmifepfbcgfbaaPStep
import Derived.Lib.MinMax
namespace Go.Proofs.Ytgmifepfbcgfbaa
open Go.RowKit
set_option linter.unusedVariables false

set_option maxHeartbeats 4000000 in
theorem lowest_any {N s t : Nat} {l : List Arc3} {f h : List Int} (v : Nat) (ao af ah : Option Addr) (cap cf ch : Nat) (w : World) (H : PushOk N s t l f h) (hP : PushIn w ao cap l af cf f ah ch h) :
    Calls Try.prog 28 #[.agg #[.int .i64 (N : Int), .int .i64 (s : Int), .int .i64 (t : Int), .slice ao l.length cap, .slice af l.length cf, .slice ah N ch], .int .i64 (v : Int)] w fun e w' => Below w.heap.size w w' ∧
      ∃ m, e = .returned (.int .i64 m) ∧ LowIs (stepsC l f (2 * l.length)) h v (2 * (N : Int)) (stepsC l f (2 * l.length)).length m := by
  have x0 := blk_new w (.cells #[.int .i64 (N : Int), .int .i64 (s : Int), .int .i64 (t : Int), .slice ao l.length cap, .slice af l.length cf, .slice ah N ch] 28)
  have HP0 : Hid (PushIn (w.alloc (.cells #[.int .i64 (N : Int), .int .i64 (s : Int), .int .i64 (t : Int), .slice ao l.length cap, .slice af l.length cf, .slice ah N ch] 28)) ao cap l af cf f ah ch h) := hP.alloc _
  have HOk : Hid (PushOk N s t l f h) := H
  have HHl : Hid (h.length = N) := H.hlen
  obtain ⟨hs, ht, hst, _, hN, hl60⟩ := H.st
  have htop := top_any N s t ao l.length cap (w.alloc (.cells #[.int .i64 (N : Int), .int .i64 (s : Int), .int .i64 (t : Int), .slice ao l.length cap, .slice af l.length cf, .slice ah N ch] 28)) hN
  clear hP H
  go_enter Try.func28, Try.ntmps28
  go_wp2_with fail
  refine htop.mono ?_
  clear htop
  rintro e w1 ⟨hb1, rfl⟩
  simp only [World.size_alloc] at hb1
  have hz1 := hb1.size
  simp only [World.size_alloc] at hz1
  have hw1 : w.heap.size < w1.heap.size := by omega
  have x1 := blk_below hb1 x0 (by omega)
  have HX1 : Hid (w1.heap[w.heap.size]? = some (.cells #[.int .i64 (N : Int), .int .i64 (s : Int), .int .i64 (t : Int), .slice ao l.length cap, .slice af l.length cf, .slice ah N ch] 28 (0, 0))) := x1
  have HB1 : Hid (Below w.heap.size w w1) := below_in hb1 (by omega)
  have HP1 : Hid (PushIn w1 ao cap l af cf f ah ch h) := HP0.out.below hb1 (by simp)
  have hst := steps_any ao af ah cap cf ch w1 HOk.out HP1.out
  obtain ⟨⟨m0, m1, m2, m3, m4, m5⟩, _⟩ := blk6 x1
  clear hb1 x0 x1 HP0 hz1
  go_wp2_with fail
  refine hst.mono ?_
  clear hst
  rintro e V ⟨hb4, a1, c1, rfl, hA1⟩
  have HB2 : Hid (Below w.heap.size w V) := HB1.out.trans (hb4.mono (by omega))
  have HP2 : Hid (PushIn V ao cap l af cf f ah ch h) := HP1.out.below hb4 (Nat.le_refl _)
  have HA1 : Hid (ArcsAt V a1 (stepsC l f (2 * l.length))) := hA1
  have x3 := blk_below hb4 HX1.out hw1
  have HX3 : Hid (V.heap[w.heap.size]? = some (.cells #[.int .i64 (N : Int), .int .i64 (s : Int), .int .i64 (t : Int), .slice ao l.length cap, .slice af l.length cf, .slice ah N ch] 28 (0, 0))) := x3
  have hz4 := hb4.size
  have hw4 : w.heap.size < V.heap.size := by omega
  have HSm : Hid (∀ x : Arc3, x ∈ stepsC l f (2 * l.length) ↔ ∃ (k : Nat) (b : Bool), k < l.length ∧ 0 < room l f k b ∧ x = dirS l f k b) := fun x => steps_all
  have HBd : Hid (∀ (m : Int) (i : Nat), LowIs (stepsC l f (2 * l.length)) h v (2 * (N : Int)) i m → i ≤ (stepsC l f (2 * l.length)).length → 0 ≤ m ∧ m ≤ 2 * (N : Int)) := fun m i h1 h2 => h1.bound HOk.out h2
  have hLl := steps_len l f (2 * l.length)
  obtain ⟨L, hL⟩ : ∃ L, stepsC l f (2 * l.length) = L := ⟨_, rfl⟩
  have HLE : Hid (stepsC l f (2 * l.length) = L) := hL
  rw [hL] at HA1 HSm hLl HBd
  rw [hL]
  clear m0 m1 m2 m3 m4 m5 hb4 HX1 HB1 HP1 hA1 x3 hL
  go_wp2
  go_loopw [5, 14] (fun x i wr => ∃ (j : Nat) (m : Int), j ≤ L.length ∧ i = .int .i64 j ∧ x = .int .i64 m ∧ Hid (LowIs L h v (2 * (N : Int)) j m) ∧ Below V.heap.size V wr) (fun _ i _ => L.length - (intOf i).toNat)
  case atStart => exact ⟨0, _, Nat.zero_le _, rfl, rfl, LowIs.start L h v _, Below.refl _ _⟩
  case round =>
    obtain ⟨j, m, hj, rfl, rfl, HLow, hB⟩ := hrel
    have hz5 := hB.size
    have hw5 : w.heap.size < wr.heap.size := by omega
    by_cases hlt : j < L.length
    · obtain ⟨a, d, hm, hr, he⟩ := (HSm.out _).1 (at3_mem L j hlt)
      obtain ⟨bL, oL, rfl, hbL, c0, c1', c2⟩ := HA1.out.below hB (Nat.le_refl _) j hlt
      obtain ⟨hf, hg⟩ := ends_lt HOk.out.net hm d
      have HNo : Hid ((frmN l a d : Int) ≠ (v : Int) → LowIs L h v (2 * (N : Int)) (j + 1) m) := fun e => HLow.out.no (by rw [he]; exact e)
      have HYes : Hid ((frmN l a d : Int) = (v : Int) → LowIs L h v (2 * (N : Int)) (j + 1) (min m (ati h (towN l a d)))) := fun e => by
        have := HLow.out.yes (i := j) (by rw [he]; exact e)
        rw [he] at this
        simpa [dirS] using this
      rw [he] at c0 c1' c2
      change wr.cell? ⟨bL, oL + j * 3, none⟩ = some (.int .i64 (frmN l a d : Int)) at c0
      change wr.cell? ⟨bL, oL + j * 3 + 1, none⟩ = some (.int .i64 (towN l a d : Int)) at c1'
      change wr.cell? ⟨bL, oL + j * 3 + 2, none⟩ = some (.int .i64 (room l f a d)) at c2
      generalize frmN l a d = p at *
      generalize towN l a d = q at *
      generalize room l f a d = y at *
      have x4 := blk_below hB HX3.out hw4
      obtain ⟨⟨m0, m1, m2, m3, m4, m5⟩, _⟩ := blk6 x4
      have HBV : Hid (Below V.heap.size V wr) := hB
      obtain ⟨b4, o4, rfl, hb4, dG⟩ := HP2.out.hgt.ints.below hB (Nat.le_refl _) q (by rw [HHl.out]; exact hg)
      generalize ati h q = hq at *
      have hqi : (q : Int) < (N : Int) := by omega
      clear he hr x4 hB
      by_cases e : (p : Int) = (v : Int)
      · have e' : ((p : Int) == (v : Int)) = true := by simpa using e
        have HL2 : Hid (LowIs L h v (2 * (N : Int)) (j + 1) (min m hq)) := HYes.out e
        clear e HNo HYes HLow
        go_wp2
        go_roundw
        case rel => exact ⟨j + 1, _, by omega, by go_num, rfl, HL2, HBV.out.alloc (by omega) _⟩
        case measure => simp [intOf]; omega
      · have e' : ((p : Int) == (v : Int)) = false := by simpa using e
        have HL2 : Hid (LowIs L h v (2 * (N : Int)) (j + 1) m) := HNo.out e
        clear e HNo HYes HLow
        go_wp2
        go_roundw
        case rel => exact ⟨j + 1, m, by omega, by go_num, rfl, HL2, HBV.out.alloc (by omega) _⟩
        case measure => simp [intOf]; omega
    · have hjj : L.length = j := by omega
      subst hjj
      go_wp2
      go_ret
      exact ⟨HB2.out.trans (hB.mono (by omega)), m, rfl, by rw [HLE.out]; exact HLow.out⟩

end Go.Proofs.Ytgmifepfbcgfbaa
