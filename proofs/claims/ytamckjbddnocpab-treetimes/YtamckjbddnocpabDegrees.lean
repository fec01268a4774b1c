/- Contracts of package graph: Degrees. -/
import Derived.Test.YtamckjbddnocpabDegM
import Derived.Test.YtamckjbddnocpabMk
namespace Go.Proofs.Ytamckjbddnocpab
open Go.RowKit
set_option linter.unusedVariables false

set_option maxHeartbeats 800000 in
theorem Degrees_ok (N : Nat) (ao : Option Addr) (cap : Nat) (l : List Arc3) (w : World) (hA : ArcsAt w ao l) (he0 : graphErr N (-10000) l = 0) :
    Calls Try.prog 6 #[.agg #[.int .i64 (N : Int), .slice ao l.length cap]] w fun e w' => Below w.heap.size w w' ∧
      ∃ b c, w.heap.size ≤ b ∧ b < c ∧ e = .returned (.tuple #[.slice (some ⟨b, 0, none⟩) N N, .slice (some ⟨c, 0, none⟩) N N, .int .i64 0]) ∧
        IntsAt w' (some ⟨b, 0, none⟩) (outs N l) ∧ IntsAt w' (some ⟨c, 0, none⟩) (ins N l) := by
  obtain ⟨⟨hn1, hn2⟩, hlen, harcs⟩ := err_ok he0
  have hm : l.length ≤ maxLen := by unfold maxLen; omega
  have hmk := make_ints N (by omega)
  have HE : Hid (graphErr N (-10000) l = 0) := he0
  have HAll : Hid (∀ a ∈ l, (0 ≤ a.1 ∧ a.1 < (N : Int)) ∧ (0 ≤ a.2.1 ∧ a.2.1 < (N : Int)) ∧ -10000 ≤ a.2.2 ∧ a.2.2 ≤ 10000) := harcs
  clear he0 harcs
  have hne : ((0 : Int) != 0) = false := rfl
  go_enter Try.func6, Try.ntmps6
  go_wp2_with (go_at_call 14; refine (CheckLong_any _ _ _ _ _ hm (hA.alloc _)).mono ?_; rintro e w1 ⟨rfl, hb1⟩; rw [HE.out]; have hz := hb1.size; simp only [World.size_alloc] at hz hb1; have hz0 : w.heap.size < w1.heap.size := (by omega); obtain ⟨hc, hf⟩ := bcell hb1)
  have hA1 := (hA.alloc (.cells #[.int .i64 (N : Int), .slice ao l.length cap] 25)).below hb1 (by simp)
  clear hc hf
  go_loopw [24] (fun i wr => ∃ k : Nat, k ≤ l.length ∧ i = .int .i64 k ∧ wr.rowIs w1.heap.size 3 N (fun j => .int .i64 (outDeg (l.take k) j)) ∧ wr.rowIs (w1.heap.size + 1) 3 N (fun j => .int .i64 (inDeg (l.take k) j)) ∧ Below w1.heap.size w1 wr) (fun i _ => l.length - (intOf i).toNat)
  case atStart => exact ⟨0, Nat.zero_le _, rfl, (zeri_row _ _ _).alloc _, by have := zeri_row (w1.alloc (.cells (zeri N) 3)) N 3; rw [World.size_alloc] at this; exact this, (below_one _ _).alloc (by simp) _⟩
  case round =>
    obtain ⟨k, hk, rfl, hro, hri, hB⟩ := hrel
    have hzr := hri.lt
    have hzr' := hro.lt
    by_cases hlt : k < l.length
    · obtain ⟨b, off, rfl, hb, c0, c1, c2⟩ := hA1 k hlt
      have c0 := later hB c0 hb
      have c1 := later hB c1 hb
      have c2 := later hB c2 hb
      have hbz : b < wr.heap.size := by omega
      have hmem := at3_mem l k hlt
      have hsn := take_snoc3 l k hlt
      generalize ha : at3 l k = a at *
      obtain ⟨f, t, c⟩ := a
      obtain ⟨⟨p1, p2⟩, ⟨p3, p4⟩, _⟩ := HAll.out _ hmem
      simp only at p1 p2 p3 p4 c0 c1 c2
      obtain ⟨f, rfl⟩ := Int.eq_ofNat_of_zero_le p1
      obtain ⟨t, rfl⟩ := Int.eq_ofNat_of_zero_le p3
      have HO : Hid (∀ v, outDeg (l.take (k + 1)) v = if v = f then outDeg (l.take k) v + 1 else outDeg (l.take k) v) := fun v => by rw [hsn, outDeg_snoc]
      have HI : Hid (∀ v, inDeg (l.take (k + 1)) v = if v = t then inDeg (l.take k) v + 1 else inDeg (l.take k) v) := fun v => by rw [hsn, inDeg_snoc]
      clear ha hmem hsn
      have r0 := hro.cell (i := f) (by omega)
      have r1 := hri.cell (i := t) (by omega)
      have f0 := hro.frozen f
      have f1 := hri.frozen t
      have q0 := outDeg_le (l.take k) f
      have q1 := inDeg_le (l.take k) t
      have q2 : (l.take k).length ≤ 60 := by rw [List.length_take]; omega
      generalize hx : outDeg (l.take k) f = x at *
      generalize hy : inDeg (l.take k) t = y at *
      have HX : Hid (outDeg (l.take k) f = x) := hx
      have HY : Hid (inDeg (l.take k) t = y) := hy
      clear hx hy
      go_wp2
      go_roundw
      case rel =>
        refine ⟨k + 1, by omega, by go_num, (((hro.set f _).setOther (by simp) _).alloc _).congr fun j hj => ?_, (((hri.setOther (by simp) _).set t _).alloc _).congr fun j hj => ?_, ((hB.setCell (by simp) _).setCell (by simp) _).alloc (by simp; omega) _⟩
        · rw [HO.out j]
          by_cases e : j = f
          · subst e; simp [HX.out]
          · simp [e]
        · rw [HI.out j]
          by_cases e : j = t
          · subst e; simp [HY.out]
          · simp [e]
      case measure => simp [intOf]; omega
    · have hkl : k = l.length := by omega
      subst hkl
      rw [List.take_length] at hro hri
      have h1 := row_ints hro
      have h2 := row_ints hri
      go_wp2
      go_ret3
      exact ⟨below_in (hb1.trans (hB.mono (by omega))) (by omega), w1.heap.size, w1.heap.size + 1, by omega, by omega, rfl, h1, h2⟩

set_option maxHeartbeats 400000 in
theorem Degrees_err (n : Int) (ao : Option Addr) (cap : Nat) (l : List Arc3) (w : World) (hm : l.length ≤ maxLen) (hA : ArcsAt w ao l) (he0 : graphErr n (-10000) l ≠ 0) :
    Calls Try.prog 6 #[.agg #[.int .i64 n, .slice ao l.length cap]] w fun e w' => Below w.heap.size w w' ∧
      e = .returned (.tuple #[.slice none 0 0, .slice none 0 0, .int .i64 (graphErr n (-10000) l)]) := by
  have hne : (graphErr n (-10000) l != 0) = true := by simpa using he0
  clear he0
  go_enter Try.func6, Try.ntmps6
  go_wp2_with (go_at_call 14; refine (CheckLong_any _ _ _ _ _ hm (hA.alloc _)).mono ?_; rintro e w1 ⟨rfl, hb1⟩)
  go_ret3
  exact ⟨below_in hb1 (by simp), rfl⟩

end Go.Proofs.Ytamckjbddnocpab
