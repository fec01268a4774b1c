/- Contracts of package walk's own nones and spread. -/
import Derived.Test.YtgmdacobbeoobaaSpreadM
import Derived.Test.YtgmdacobbeoobaaMk
namespace Go.Proofs.Ytgmdacobbeoobaa
open Go.RowKit
set_option linter.unusedVariables false

set_option maxHeartbeats 400000 in
theorem nones_any (N : Nat) (hN : N ≤ 12) (w : World) :
    Calls Try.prog 33 #[.int .i64 (N : Int)] w fun e w' => Below w.heap.size w w' ∧
      ∃ b, w.heap.size ≤ b ∧ e = .returned (.slice (some ⟨b, 0, none⟩) N N) ∧ w'.rowIs b 3 N (fun _ => .int .i64 (-1)) := by
  have hmk := make_ints N (by omega)
  go_enter Try.func33, Try.ntmps33
  go_wp2
  go_loopw [9] (fun i wr => ∃ k : Nat, k ≤ N ∧ i = .int .i64 k ∧ wr.rowIs w.heap.size 3 N (fun j => .int .i64 (if j < k then -1 else 0)) ∧ Below w.heap.size w wr) (fun i _ => N - (intOf i).toNat)
  case atStart => exact ⟨0, Nat.zero_le _, rfl, (zeri_row _ _ _).congr fun j hj => by simp, below_one _ _⟩
  case round =>
    obtain ⟨k, hk, rfl, hrow, hB⟩ := hrel
    have hzr := hrow.lt
    by_cases hlt : k < N
    · have r0 := hrow.cell (i := k) hlt
      have f0 := hrow.frozen k
      have HR : Hid (wr.rowIs w.heap.size 3 N (fun j => .int .i64 (if j < k then -1 else 0))) := hrow
      clear hrow
      go_wp2
      go_roundw
      case rel =>
        refine ⟨k + 1, by omega, by go_num, (HR.out.set k _).congr fun j hj => ?_, hB.setCell (Nat.le_refl _) _⟩
        by_cases e : j = k
        · subst e; simp
        · have : (j < k + 1) = (j < k) := by simp; omega
          simp [e, this]
      case measure => simp [intOf]; omega
    · have hkl : N = k := by omega
      subst hkl
      go_wp2
      go_ret
      exact ⟨hB, _, Nat.le_refl _, rfl, hrow.congr fun j hj => by simp [hj]⟩

set_option maxHeartbeats 2000000 in
set_option maxRecDepth 100000 in
theorem spread_any (N s : Nat) (ao : Option Addr) (cap : Nat) (l : List Arc3) (w : World) (hA : ArcsAt w ao l) (hm : l.length ≤ 120) (h1 : 1 ≤ N) (h12 : N ≤ 12) (hs : s < N)
    (hl : ∀ a ∈ l, (0 ≤ a.1 ∧ a.1 < (N : Int)) ∧ (0 ≤ a.2.1 ∧ a.2.1 < (N : Int))) :
    Calls Try.prog 34 #[.agg #[.int .i64 (N : Int), .slice ao l.length cap], .int .i64 (s : Int)] w fun e w' => Below w.heap.size w w' ∧
      ∃ b c F B, w.heap.size ≤ b ∧ w.heap.size ≤ c ∧ b ≠ c ∧ e = .returned (.tuple #[.slice (some ⟨b, 0, none⟩) N N, .slice (some ⟨c, 0, none⟩) N N]) ∧
        w'.rowIs b 3 N (fun j => .int .i64 (F j)) ∧ w'.rowIs c 3 N (fun j => .int .i64 (B j)) ∧ FarIs N l s ((List.range N).map F) ∧ ByA N l F B := by
  have HL : Hid (∀ a ∈ l, (0 ≤ a.1 ∧ a.1 < (N : Int)) ∧ (0 ≤ a.2.1 ∧ a.2.1 < (N : Int))) := hl
  have hA0 := hA.alloc (.cells #[.int .i64 (N : Int), .slice ao l.length cap] 24)
  have x0 := blk_new w (.cells #[.int .i64 (N : Int), .slice ao l.length cap] 24)
  clear hl
  go_enter Try.func34, Try.ntmps34
  go_wp2_with fail
  refine (nones_any N h12 _).mono ?_
  rintro e w1 ⟨hb1, b, hb, rfl, hF1⟩
  simp only [World.size_alloc] at hb1 hb
  have hz1 := hb1.size
  simp only [World.size_alloc] at hz1
  have x1 := blk_below hb1 x0 (by omega)
  obtain ⟨r0, r1, f0, f1⟩ := blk2 x1
  have hbl := hF1.lt
  go_wp2_with fail
  refine (nones_any N h12 _).mono ?_
  rintro e w2 ⟨hb2, c, hc, rfl, hB2⟩
  have hz2 := hb2.size
  have x2 := blk_below hb2 x1 (by omega)
  have hF2 := hF1.of_block (hb2.block b hbl)
  have hbb2 := hb1.trans (hb2.mono (by omega))
  have hcl := hB2.lt
  have hbc : b ≠ c := by omega
  clear r0 r1 f0 f1 hF1 hb1 hb2 x0 x1
  obtain ⟨r0, r1, f0, f1⟩ := blk2 x2
  have s0 := hF2.cell (i := s) hs
  have s1 := hF2.frozen s
  have HX : Hid (Below (w.heap.size + 1) (w.alloc (.cells #[.int .i64 (N : Int), .slice ao l.length cap] 24)) (w2.setCell ⟨b, s, none⟩ (.int .i64 0))) := hbb2.setCell hb _
  have HF : Hid ((w2.setCell ⟨b, s, none⟩ (.int .i64 0)).rowIs b 3 N (fun j => .int .i64 (if j = s then 0 else -1))) := (hF2.set s _).congr fun j hj => by
    by_cases e : j = s <;> simp [e]
  have HB : Hid ((w2.setCell ⟨b, s, none⟩ (.int .i64 0)).rowIs c 3 N (fun j => .int .i64 (-1))) := hB2.setOther (by simp; omega) _
  have hwb : w.heap.size < b := by omega
  clear hF2 hB2 hbb2
  go_wp2
  go_loopw [23] (fun i wr => ∃ d : Nat, d ≤ N - 1 ∧ i = .int .i64 d ∧ (∃ F B, wr.rowIs b 3 N (fun j => .int .i64 (F j)) ∧ wr.rowIs c 3 N (fun j => .int .i64 (B j)) ∧ Lev N l s d 0 F ∧ ByA N l F B) ∧ Below (w.heap.size + 1) (w.alloc (.cells #[.int .i64 (N : Int), .slice ao l.length cap] 24)) wr) (fun i _ => N - 1 - (intOf i).toNat)
  case atStart => exact ⟨0, Nat.zero_le _, rfl, ⟨fun v => if v = s then 0 else -1, fun _ => -1, HF.out, HB.out, lev_start N l s, by_start N l s _⟩, HX.out⟩
  case round =>
    obtain ⟨d, hd, rfl, ⟨F, B, hF, hB, hLev, hBy⟩, hbel⟩ := hrel
    clear HX HF HB s0 s1 r0 r1 f0 f1 hz2 x2 hcl hbl
    by_cases hlt : d < N - 1
    · have hz := hbel.size
      simp only [World.size_alloc] at hz
      have x3 := blk_below hbel (blk_new w _) (by omega)
      obtain ⟨r0, r1, f0, f1⟩ := blk2 x3
      have HF : Hid (wr.rowIs b 3 N (fun j => .int .i64 (F j))) := hF
      have HB : Hid (wr.rowIs c 3 N (fun j => .int .i64 (B j))) := hB
      have HLev : Hid (Lev N l s d 0 F) := hLev
      have HBy : Hid (ByA N l F B) := hBy
      have HX : Hid (Below (w.heap.size + 1) (w.alloc (.cells #[.int .i64 (N : Int), .slice ao l.length cap] 24)) wr) := hbel
      clear hF hB hLev hBy hbel x3
      go_wp2
      go_loopw [29] (fun i wr => ∃ k : Nat, k ≤ l.length ∧ i = .int .i64 k ∧ (∃ F B, wr.rowIs b 3 N (fun j => .int .i64 (F j)) ∧ wr.rowIs c 3 N (fun j => .int .i64 (B j)) ∧ Lev N l s d k F ∧ ByA N l F B) ∧ Below (w.heap.size + 1) (w.alloc (.cells #[.int .i64 (N : Int), .slice ao l.length cap] 24)) wr) (fun i _ => l.length - (intOf i).toNat)
      case atStart => exact ⟨0, Nat.zero_le _, rfl, ⟨F, B, HF.out, HB.out, HLev.out, HBy.out⟩, HX.out⟩
      case round =>
        obtain ⟨k, hk, rfl, ⟨F, B, hF, hB, hLev, hBy⟩, hbel⟩ := hrel
        clear HX HF HB HLev HBy r0 r1 f0 f1 hz
        have hz := hbel.size
        simp only [World.size_alloc] at hz
        by_cases hkl : k < l.length
        · obtain ⟨ba, off, rfl, hba, c0, c1, c2⟩ := hA0.below hbel (by simp) k hkl
          have hmem := HL.out _ (at3_mem l k hkl)
          obtain ⟨a, ha⟩ : ∃ a, at3 l k = a := ⟨_, rfl⟩
          rw [ha] at c0 c1 c2 hmem
          obtain ⟨f, t, x⟩ := a
          simp only at c0 c1 c2 hmem
          obtain ⟨⟨p1, p2⟩, p3, p4⟩ := hmem
          obtain ⟨f, rfl⟩ := Int.eq_ofNat_of_zero_le p1
          obtain ⟨t, rfl⟩ := Int.eq_ofNat_of_zero_le p3
          have hf : f < N := by omega
          have ht : t < N := by omega
          have q0 := hF.cell (i := f) hf
          have q1 := hF.cell (i := t) ht
          have q2 := hF.frozen t
          have q3 := hB.cell (i := t) ht
          have q4 := hB.frozen t
          have hbl := hF.lt
          have hcl := hB.lt
          have HF : Hid (wr.rowIs b 3 N (fun j => .int .i64 (F j))) := hF
          have HB : Hid (wr.rowIs c 3 N (fun j => .int .i64 (B j))) := hB
          have HX : Hid (Below (w.heap.size + 1) (w.alloc (.cells #[.int .i64 (N : Int), .slice (some ⟨ba, off, none⟩) l.length cap] 24)) wr) := hbel
          by_cases g1 : F f = d
          · by_cases g2 : F t < 0
            · have HLev : Hid (Lev N l s d (k + 1) (fun v => if v = t then (d : Int) + 1 else F v)) := lev_hit hLev hkl ha hf ht g1 g2
              have HBy : Hid (ByA N l (fun v => if v = t then (d : Int) + 1 else F v) (fun v => if v = t then (k : Int) else B v)) := by_hit hBy hkl ha hf g1 g2
              rw [g1] at q0
              have e1 : ((d : Int) == (d : Int)) = true := by simp
              have e2 : decide (F t < 0) = true := by simpa using g2
              generalize F t = y at *
              generalize B t = z at *
              clear hF hB hLev hBy hbel ha g1
              go_wp2
              go_roundw
              case rel =>
                refine ⟨k + 1, by omega, by go_num, ⟨_, _, ?_, ?_, HLev.out, HBy.out⟩, ?_⟩
                · refine (((HF.out.set t _).setOther (by simp; omega) _).alloc _).congr fun j hj => ?_
                  by_cases e : j = t <;> simp [e]
                · refine (((HB.out.setOther (by simp; omega) _).set t _).alloc _).congr fun j hj => ?_
                  by_cases e : j = t <;> simp [e]
                · exact ((HX.out.setCell (by simp; omega) _).setCell (by simp; omega) _).alloc (by simp; omega) _
              case measure => simp [intOf]; omega
            · have HLev : Hid (Lev N l s d (k + 1) F) := lev_miss hLev hkl ha hf ht (fun h => g2 h.2)
              have HBy : Hid (ByA N l F B) := hBy
              rw [g1] at q0
              have e1 : ((d : Int) == (d : Int)) = true := by simp
              have e2 : decide (F t < 0) = false := by simpa using g2
              generalize F t = y at *
              generalize B t = z at *
              clear hF hB hLev hBy hbel ha g1
              go_wp2
              go_roundw
              case rel => exact ⟨k + 1, by omega, by go_num, ⟨_, _, HF.out.alloc _, HB.out.alloc _, HLev.out, HBy.out⟩, HX.out.alloc (by omega) _⟩
              case measure => simp [intOf]; omega
          · have HLev : Hid (Lev N l s d (k + 1) F) := lev_miss hLev hkl ha hf ht (fun h => g1 h.1)
            have HBy : Hid (ByA N l F B) := hBy
            have e1 : (F f == (d : Int)) = false := by simpa using g1
            generalize F f = y at *
            clear hF hB hLev hBy hbel ha
            go_wp2
            go_roundw
            case rel => exact ⟨k + 1, by omega, by go_num, ⟨_, _, HF.out.alloc _, HB.out.alloc _, HLev.out, HBy.out⟩, HX.out.alloc (by omega) _⟩
            case measure => simp [intOf]; omega
        · have hkk : k = l.length := by omega
          subst hkk
          have hLev' := lev_next hLev
          clear hLev
          go_wp2
          go_roundw
          case rel => exact ⟨d + 1, by omega, by go_num, ⟨F, B, hF, hB, hLev', hBy⟩, hbel⟩
          case measure => simp [intOf]; omega
    · have hdd : d = N - 1 := by omega
      subst hdd
      have HFar : Hid (FarIs N l s ((List.range N).map F)) := lev_far hLev HL.out
      have HF : Hid (wr.rowIs b 3 N (fun j => .int .i64 (F j))) := hF
      have HB : Hid (wr.rowIs c 3 N (fun j => .int .i64 (B j))) := hB
      have HX : Hid (Below (w.heap.size + 1) (w.alloc (.cells #[.int .i64 (N : Int), .slice ao l.length cap] 24)) wr) := hbel
      have HBy : Hid (ByA N l F B) := hBy
      have hc' : w.heap.size ≤ c := by omega
      clear hF hB hLev hBy hbel
      go_wp2
      go_ret2
      exact ⟨below_in HX.out (by omega), b, c, F, B, by omega, hc', hbc, rfl, HF.out, HB.out, HFar.out, HBy.out⟩

end Go.Proofs.Ytgmdacobbeoobaa
