/- Package flow: how much more goes from each node than to it. -/
import Derived.Test.YtmneajmfoljflaaJoinedA
import Derived.BigRegion
namespace Go.Proofs.Ytmneajmfoljflaa
open Go.RowKit
set_option linter.unusedVariables false

set_option maxHeartbeats 4000000 in
theorem surplus_any (N : Nat) (s t : Int) (ao af : Option Addr) (cap capf : Nat) (l : List Arc3) (f : List Int) (w : World) (hN : N ≤ 12) (hl60 : l.length ≤ 60) (hl : ∀ a ∈ l, (0 ≤ a.1 ∧ a.1 < (N : Int)) ∧ (0 ≤ a.2.1 ∧ a.2.1 < (N : Int))) (hfl : f.length = l.length)
    (hA : ArcsAt w ao l) (hF : IntsAt w af f) (hb : ∀ k, k < l.length → 0 ≤ ati f k ∧ ati f k ≤ 10000) :
    Calls Try.prog 29 #[.agg #[.int .i64 (N : Int), .int .i64 s, .int .i64 t, .slice ao l.length cap], .slice af l.length capf] w fun e w' => Below w.heap.size w w' ∧
      ∃ b, w.heap.size ≤ b ∧ e = .returned (.slice (some ⟨b, 0, none⟩) N N) ∧ w'.rowIs b 3 N (fun j => .int .i64 (gone l (ati f) (j : Int))) := by
  have hmk := make_ints N (by omega)
  have HA : Hid (ArcsAt w ao l) := hA
  have HF : Hid (IntsAt w af f) := hF
  have HL : Hid (∀ a ∈ l, (0 ≤ a.1 ∧ a.1 < (N : Int)) ∧ (0 ≤ a.2.1 ∧ a.2.1 < (N : Int))) := hl
  have Hfl : Hid (f.length = l.length) := hfl
  have HBd : Hid (∀ k, k < l.length → 0 ≤ ati f k ∧ ati f k ≤ 10000) := hb
  have HD : Hid (∀ (v : Int) k, k ≤ l.length → -600000 ≤ goneK l (ati f) v k ∧ goneK l (ati f) v k ≤ 600000) := fun v k hk => by
    have := goneK_bound (l := l) (f := ati f) (v := v) (C := 10000) (by omega) k fun i hi => hb i (by omega)
    omega
  clear hA hF hl hfl hb
  go_enter Try.func29, Try.ntmps29
  go_wp2
  go_loopw [14] (fun i wr => ∃ k : Nat, k ≤ l.length ∧ i = .int .i64 k ∧ wr.rowIs (w.heap.size + 1) 3 N (fun j => .int .i64 (goneK l (ati f) (j : Int) k)) ∧ Below (w.heap.size + 1) (w.alloc (.cells #[.int .i64 (N : Int), .int .i64 s, .int .i64 t, .slice ao l.length cap] 43)) wr) (fun i _ => l.length - (intOf i).toNat)
  case atStart => exact ⟨0, Nat.zero_le _, rfl, by have := zeri_row (w.alloc (.cells #[.int .i64 (N : Int), .int .i64 s, .int .i64 t, .slice ao l.length cap] 43)) N 3; rw [World.size_alloc] at this; exact this, (Below.refl _ _).alloc (by simp) _⟩
  case round =>
    obtain ⟨k, hk, rfl, hrow, hB⟩ := hrel
    have hz := hB.size
    simp only [World.size_alloc] at hz
    have hzr := hrow.lt
    by_cases hlt : k < l.length
    · obtain ⟨b, off, rfl, hbb, c0, c1, c2⟩ := (HA.out.alloc (.cells #[.int .i64 (N : Int), .int .i64 s, .int .i64 t, .slice ao l.length cap] 43)).below hB (by simp) k hlt
      obtain ⟨b2, o2, rfl, hb2, d0⟩ := (HF.out.alloc (.cells #[.int .i64 (N : Int), .int .i64 s, .int .i64 t, .slice (some ⟨b, off, none⟩) l.length cap] 43)).below hB (by simp) k (by rw [Hfl.out]; exact hlt)
      obtain ⟨b', off', e1, hbb', _⟩ := HA.out k hlt
      obtain ⟨b2', o2', e2, hb2', _⟩ := HF.out k (by rw [Hfl.out]; exact hlt)
      cases e1
      cases e2
      have hne1 : b ≠ w.heap.size + 1 := by omega
      have hne2 : b2 ≠ w.heap.size + 1 := by omega
      have hbd := HBd.out k hlt
      obtain ⟨⟨p1, p2⟩, ⟨p3, p4⟩⟩ := HL.out _ (at3_mem l k hlt)
      have HN : Hid (∀ v, goneK l (ati f) v (k + 1) = goneK l (ati f) v k + ((if (at3 l k).1 = v then ati f k else 0) - (if (at3 l k).2.1 = v then ati f k else 0))) := fun v => goneK_succ _ _ _ _
      generalize (at3 l k).1 = p at *
      generalize (at3 l k).2.1 = q at *
      generalize (at3 l k).2.2 = c at *
      generalize ati f k = y at *
      obtain ⟨p, rfl⟩ := Int.eq_ofNat_of_zero_le p1
      obtain ⟨q, rfl⟩ := Int.eq_ofNat_of_zero_le p3
      have r0 := hrow.cell (i := p) (by omega)
      have r1 := hrow.cell (i := q) (by omega)
      have f0 := hrow.frozen p
      have f1 := hrow.frozen q
      have hD0 := HD.out p k hk
      have hD1 := HD.out q k hk
      have HR : Hid (wr.rowIs (w.heap.size + 1) 3 N (fun j => .int .i64 (goneK l (ati f) (j : Int) k))) := hrow
      have hpN : p < N := by omega
      have hqN : q < N := by omega
      have HX : Hid (goneK l (ati f) p k = goneK l (ati f) p k) := rfl
      obtain ⟨x, hx⟩ : ∃ x, goneK l (ati f) p k = x := ⟨_, rfl⟩
      obtain ⟨z, hzz⟩ : ∃ z, goneK l (ati f) q k = z := ⟨_, rfl⟩
      rw [hx] at r0 hD0
      rw [hzz] at r1 hD1
      have HXx : Hid (goneK l (ati f) p k = x) := hx
      have HZz : Hid (goneK l (ati f) q k = z) := hzz
      clear hx hzz HX hrow p1 p2 p3 p4
      have w1 : IntKind.i64.wrap (x + y) = x + y := by rw [IntKind.wrap_i64]; omega
      have w2 : IntKind.i64.wrap (z - y) = z - y := by rw [IntKind.wrap_i64]; omega
      by_cases e : p = q
      · subst e
        have hxz : x = z := HXx.out.symm.trans HZz.out
        subst hxz
        have w3 : IntKind.i64.wrap (x + y - y) = x + y - y := by rw [IntKind.wrap_i64]; omega
        go_wp2
        go_region
        go_wp2
        go_region
        go_wp2
        go_roundw
        case rel =>
          refine ⟨k + 1, by omega, by go_num, ((((HR.out.set p _).set p _).alloc _).drew.drew).congr fun j hj => ?_, ((((hB.setCell (by simp) _).setCell (by simp) _).alloc (by simp; omega) _).drew).drew⟩
          rw [HN.out]
          by_cases ej : j = p
          · subst ej
            rw [if_pos rfl, HXx.out, if_pos rfl, Int.sub_self, Int.add_zero]
          · rw [if_neg ej, if_neg ej, if_neg (by omega), Int.sub_self, Int.add_zero]
        case measure => simp [intOf]; omega
      · go_wp2
        go_region
        go_wp2
        go_region
        go_wp2
        go_roundw
        case rel =>
          refine ⟨k + 1, by omega, by go_num, ((((HR.out.set p _).set q _).alloc _).drew.drew).congr fun j hj => ?_, ((((hB.setCell (by simp) _).setCell (by simp) _).alloc (by simp; omega) _).drew).drew⟩
          rw [HN.out]
          by_cases ej : j = q
          · subst ej
            rw [if_pos rfl, HZz.out, if_neg (by omega), if_pos rfl]
            congr 1; omega
          · rw [if_neg ej]
            by_cases ep : j = p
            · subst ep
              rw [if_pos rfl, HXx.out, if_pos rfl, if_neg (by omega), Int.sub_zero]
            · rw [if_neg ep, if_neg (by omega), if_neg (by omega), Int.sub_self, Int.add_zero]
        case measure => simp [intOf]; omega
    · have hkk : k = l.length := by omega
      subst hkk
      go_wp2
      go_ret
      exact ⟨below_in hB (by omega), w.heap.size + 1, by omega, rfl, hrow⟩

end Go.Proofs.Ytmneajmfoljflaa
