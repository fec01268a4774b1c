/- Package need: all of it: Check, Round, Fault. -/
import Derived.Test.YtmneajmfoljflaaNRnd
import Derived.Test.YtmneajmfoljflaaCutK
namespace Go.Proofs.Ytmneajmfoljflaa
open Go.RowKit
set_option linter.unusedVariables false

theorem NRound_any : NRoundC := NRound_of MOf_any

/-- the source taken out of a side -/
theorem side_out {N x : Nat} (hN : N ≤ 10) (hx : x < 2 ^ (N + 2)) (hs : SideN N (N + 1) x) : x &&& (65535 - 2 ^ N) < 2 ^ N ∧ ∀ v, v < N → Nat.testBit (x &&& (65535 - 2 ^ N)) v = Nat.testBit x v := by
  have h1 : 2 ^ N ≤ 2 ^ 10 := Nat.pow_le_pow_right (by omega) hN
  have h2 : 2 ^ (N + 2) ≤ 2 ^ 12 := Nat.pow_le_pow_right (by omega) (by omega)
  have hb := fun i => testBit_without x (2 ^ N) i (by omega) (by omega)
  refine ⟨Nat.lt_pow_two_of_testBit _ fun i hi => ?_, fun v hv => ?_⟩
  · rw [hb, Nat.testBit_two_pow]
    by_cases e : N = i
    · simp [e]
    · by_cases e1 : i = N + 1
      · subst e1; rw [hs.2]; rfl
      · have : x < 2 ^ i := Nat.lt_of_lt_of_le hx (Nat.pow_le_pow_right (by omega) (by omega))
        rw [Nat.testBit_lt_two_pow this]; rfl
  · rw [hb, Nat.testBit_two_pow]
    simp [show ¬ N = v by omega]

set_option maxHeartbeats 4000000 in
set_option maxRecDepth 100000 in
theorem NFault_of (hM : MOfC) (hL : CLeastC) : NFaultC := by
  intro n ao cap l w hX
  have hq := NCheck_any n ao cap l w hX
  obtain ⟨E, hE⟩ : ∃ E, needErr n l = E := ⟨_, rfl⟩
  have HE : Hid (needErr n l = E) := hE
  rw [hE] at hq
  have HX : Hid (NeedsIn w ao cap l) := hX
  clear hX hE
  go_enter Try.func9, Try.ntmps9
  go_wp2_with fail
  refine hq.mono ?_
  clear hq
  rintro e w1 ⟨hb1, rfl⟩
  have hz1 := hb1.size
  have HB1 : Hid (Below w.heap.size w w1) := hb1
  have HX1 : Hid (NeedsIn w1 ao cap l) := HX.out.below hb1 (Nat.le_refl _)
  clear hb1 HX
  by_cases h0 : E = 0
  · subst h0
    have e0 : ((0 : Int) != 0) = false := rfl
    obtain ⟨hn, hl30, hall⟩ := need_ok HE.out
    obtain ⟨N, rfl⟩ := Int.eq_ofNat_of_zero_le (show 0 ≤ n by omega)
    have hN10 : N ≤ 10 := by omega
    have hq := beside_any N ao cap l w1 HE.out HX1.out
    clear hn hall
    go_wp2_with fail
    refine hq.mono ?_
    clear hq
    rintro e w2 ⟨hb2, a2, c2, rfl, hG2⟩
    have hz2 := hb2.size
    have HB2 : Hid (Below w.heap.size w w2) := HB1.out.trans (hb2.mono hz1)
    have hG3 := hG2.alloc (.cells #[.int .i64 ((N : Int) + 2), .int .i64 (N : Int), .int .i64 ((N : Int) + 1), .slice a2 (besideL N l).length c2] 43)
    have x3 := blk_new w2 (.cells #[.int .i64 ((N : Int) + 2), .int .i64 (N : Int), .int .i64 ((N : Int) + 1), .slice a2 (besideL N l).length c2] 43)
    have hmx : ∃ m, MaxIs (N + 2) N ((N : Int) + 1) (besideL N l) m := by
      obtain ⟨_, _, _, ⟨_, _, _, _, m, _, _, hT⟩, _⟩ := hM ((N : Int) + 2) N ((N : Int) + 1) a2 c2 (besideL N l) _ hG3 []
      have := hT.most (beside_err HE.out)
      rw [show ((N : Int) + 2).toNat = N + 2 by omega] at this
      exact ⟨m, this⟩
    have hq := hL ((N : Int) + 2) N ((N : Int) + 1) a2 c2 (besideL N l) _ hG3
    rw [beside_err HE.out] at hq
    obtain ⟨r0, r1, r2, r3⟩ := blk4 x3
    obtain ⟨mx, hmx⟩ := hmx
    have hNet : netErr ((N + 2 : Nat) : Int) (N : Nat) ((N + 1 : Nat) : Int) (besideL N l) = 0 := by simpa using beside_err HE.out
    have HErr : Hid (needErr N l = 0) := HE
    have HFin : Hid (∀ (x : Nat) (v : Int), LeastTells ((N : Int) + 2) N ((N : Int) + 1) (besideL N l) x v → (v = owedN N l → ∃ F, RoundIs N l F) ∧ (v ≠ owedN N l → x &&& (65535 - 2 ^ N) < 2 ^ N ∧ Strains l ((x &&& (65535 - 2 ^ N) : Nat) : Int))) := fun x v hT => by
      obtain ⟨hi, hp⟩ := hT.some (beside_err HE.out)
      rw [show ((N : Int) + 2).toNat = N + 2 by omega, Int.toNat_natCast, show ((N : Int) + 1).toNat = N + 1 by omega] at hp
      have hev : v = mx := MaxIs.part hNet (by rw [Int.natCast_add]; exact hmx) hp
      subst hev
      have hle : v ≤ owedN N l := by
        obtain ⟨f, hf, e⟩ := hmx.flow
        rw [← e]; exact round_le HE.out hf
      refine ⟨fun e => ?_, fun e => ?_⟩
      · obtain ⟨f, hf, e'⟩ := hmx.flow
        exact ⟨roundF l f, round_of HE.out hf (by rw [e', e]) (roundF_len l f) (fun k hk => roundF_at f hk)⟩
      · have hen := (part_ends (fun k hk => (err_ok (net_ok hNet).1).2.2 _ (at3_mem _ k hk) |>.2.2.1) hp).1
        have ho := side_out hN10 hen.lt hen.side
        exact ⟨ho.1, strains_of HE.out hen.side (by rw [hen.val]; omega) ho.2⟩
    have h4 : (2 : Nat) ^ N ≤ 4096 := pow_small (show N < 13 by omega) rfl
    have hsh : IntKind.u16.wrap (2 ^ N) = ((2 ^ N : Nat) : Int) := shl_u16 (show N < 13 by omega) rfl
    obtain ⟨M, hMm⟩ : ∃ M, 2 ^ N = M := ⟨_, rfl⟩
    rw [hMm] at HFin h4 hsh
    obtain ⟨o, ho⟩ : ∃ o, owedN N l = o := ⟨_, rfl⟩
    rw [ho] at HFin
    rw [ho]
    have HM2 : Hid ((2 : Nat) ^ N = M) := hMm
    clear hG2 hG3 hb2 HE HB1 HX1 x3 ho hmx hNet hMm
    generalize besideL N l = L at *
    go_wp2_with fail
    refine hq.mono ?_
    clear hq
    rintro e w3 ⟨hb3, x, v, rfl, hT⟩
    simp only [World.size_alloc] at hb3
    have hz3 := hb3.size
    simp only [World.size_alloc] at hz3
    have HB3 : Hid (Below w.heap.size w w3) := (HB2.out.alloc (by omega) _).trans (hb3.mono (by omega))
    have y3 := blk_below hb3 (blk_new w2 (.cells #[.int .i64 ((N : Int) + 2), .int .i64 (N : Int), .int .i64 ((N : Int) + 1), .slice a2 L.length c2] 43)) (by omega)
    have hwz : w2.heap.size < w3.heap.size := by omega
    have hx16 := hT.small
    obtain ⟨hf1, hf2⟩ := HFin.out x v hT
    have u1 := andNot_u16_nat x M hx16 (by omega)
    clear hb3 hT HB2 r0 r1 r2 r3 HFin
    obtain ⟨r0, r1, r2, r3⟩ := blk4 y3
    clear y3
    by_cases c : v = o
    · have HR : Hid (∃ F, RoundIs N l F) := hf1 c
      have g1 : (v == o) = true := by simpa using c
      clear hf1 hf2
      go_wp2
      go_ret2
      refine ⟨HB3.out, 0, 5, rfl, fun h => absurd HErr.out h, fun _ => Or.inl ⟨rfl, rfl, ?_⟩⟩
      rw [Int.toNat_natCast]; exact HR.out
    · obtain ⟨hy1, hy2⟩ := hf2 c
      have g1 : (v == o) = false := by simpa using c
      obtain ⟨y, hy⟩ : ∃ y, x &&& (65535 - M) = y := ⟨_, rfl⟩
      rw [hy] at u1 hy1 hy2
      have HY : Hid (y < M ∧ Strains l (y : Int)) := ⟨hy1, hy2⟩
      clear hf1 hf2 hy hy1 hy2
      go_wp2
      go_ret2
      refine ⟨HB3.out, y, 0, rfl, fun h => absurd HErr.out h, fun _ => Or.inr ⟨rfl, ?_, HY.out.2⟩⟩
      rw [Int.toNat_natCast, HM2.out]; exact HY.out.1
  · have e0 : (E != 0) = true := by simpa using h0
    have HN : Hid (E ≠ 0) := h0
    clear h0
    go_wp2
    go_ret2
    exact ⟨HB1.out, 0, E, rfl, fun _ => ⟨HE.out.symm, rfl⟩, fun h => absurd (HE.out.symm.trans h) HN.out⟩

theorem NFault_any : NFaultC := NFault_of MOf_any CLeast_any

end Go.Proofs.Ytmneajmfoljflaa
