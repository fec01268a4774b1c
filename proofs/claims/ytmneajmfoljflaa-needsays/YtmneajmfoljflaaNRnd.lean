/- Package need: Round. -/
import Derived.Test.YtmneajmfoljflaaNBes
import Derived.Test.YtmneajmfoljflaaMostC
import Derived.Test.YtmneajmfoljflaaCloneI
namespace Go.Proofs.Ytmneajmfoljflaa
open Go.RowKit
set_option linter.unusedVariables false

/-- no round: less goes than is owed -/
theorem round_less_side {N : Nat} {l : List Need4} {v : Int} (hE : needErr N l = 0) (hm : MaxIs (N + 2) N ((N : Int) + 1) (besideL N l) v) (hv : v < owedN N l) : ∃ x : Nat, x < 2 ^ N ∧ Strains l x := by
  obtain ⟨side, hs, e⟩ := hm.side
  have hs' : SideIs (N + 2) (N : Nat) ((N + 1 : Nat) : Int) side := by rw [Int.natCast_add]; exact hs
  obtain ⟨x, rfl, hx, hn⟩ := hs'.nat
  obtain ⟨y, hy, hb⟩ := side_of (fun v => Nat.testBit x v) N
  exact ⟨y, hy, strains_of hE hn (by rw [e]; exact hv) hb⟩
/-- no more goes than is owed -/
theorem round_le {N : Nat} {l : List Need4} {f : List Int} (hE : needErr N l = 0) (hf : FlowIs (N + 2) N ((N : Int) + 1) (besideL N l) f) : gone (besideL N l) (ati f) N ≤ owedN N l := by
  obtain ⟨h1, h2, h3⟩ := need_ok hE
  have hN := beside_err hE
  have hN' : netErr ((N + 2 : Nat) : Int) N ((N : Int) + 1) (besideL N l) = 0 := by simpa using hN
  obtain ⟨x1, hx1, b1⟩ := side_of (fun v => decide (v = N)) (N + 2)
  have c1 : ∀ v : Nat, v < N + 2 → bt (x1 : Int) (v : Int) = if v = N then 1 else 0 := fun v hv => by rw [bt_bit, b1 v hv]; simp
  have s1 : bt (x1 : Int) (N : Int) = 1 := by rw [c1 N (by omega), if_pos rfl]
  have t1 : bt (x1 : Int) ((N : Int) + 1) = 0 := by have := c1 (N + 1) (by omega); rw [if_neg (by omega)] at this; simpa using this
  have n1 : ∀ v : Int, 0 ≤ v ∧ v < (N : Int) → bt (x1 : Int) v = 0 := fun v hv => by
    obtain ⟨v, rfl⟩ := Int.eq_ofNat_of_zero_le hv.1
    rw [c1 v (by omega), if_neg (by omega)]
  have := weak hN' hf s1 t1
  rw [cap_beside hE s1 t1, none_may (Or.inl fun i hi => ⟨n1 _ (h3 i hi).1, n1 _ (h3 i hi).2.1⟩)] at this
  omega

/-- Lows, and what goes beside them -/
def roundF (l : List Need4) (f : List Int) : List Int := (List.range l.length).map fun k => (at4 l k).2.2.1 + ati f k
theorem roundF_len (l : List Need4) (f : List Int) : (roundF l f).length = l.length := by simp [roundF]
theorem roundF_at {l : List Need4} (f : List Int) {k : Nat} (hk : k < l.length) : ati (roundF l f) k = (at4 l k).2.2.1 + ati f k := by
  rw [ati_lt _ _ (by rw [roundF_len]; exact hk)]
  simp [roundF]

set_option maxHeartbeats 4000000 in
set_option maxRecDepth 100000 in
theorem NRound_of (hM : MOfC) : NRoundC := by
  intro n ao cap l w hX
  have hq := NCheck_any n ao cap l w hX
  obtain ⟨E, hE⟩ : ∃ E, needErr n l = E := ⟨_, rfl⟩
  have HE : Hid (needErr n l = E) := hE
  rw [hE] at hq
  have HX : Hid (NeedsIn w ao cap l) := hX
  clear hX hE
  go_enter Try.func8, Try.ntmps8
  go_wp2_with fail
  refine hq.mono ?_
  clear hq
  rintro e w1 ⟨hb1, rfl⟩
  have hz1 := hb1.size
  have HB1 : Hid (Below w.heap.size w w1) := hb1
  have HX1 : Hid (NeedsIn w1 ao cap l) := HX.out.below hb1 (Nat.le_refl _)
  clear hb1 HX
  by_cases h0 : E = 0
  · subst h0
    have e0 : ((0 : Int) != 0) = false := rfl
    obtain ⟨hn, hl30, hall⟩ := need_ok HE.out
    obtain ⟨N, rfl⟩ := Int.eq_ofNat_of_zero_le (show 0 ≤ n by omega)
    have hN10 : N ≤ 10 := by omega
    have hq := beside_any N ao cap l w1 HE.out HX1.out
    have HAll : Hid (∀ k, k < l.length → 0 ≤ (at4 l k).2.2.1 ∧ (at4 l k).2.2.2 ≤ 333 ∧ (at4 l k).2.2.1 ≤ (at4 l k).2.2.2) := fun k hk => by have := hall k hk; omega
    clear hn hall
    go_wp2_with fail
    refine hq.mono ?_
    clear hq
    rintro e w2 ⟨hb2, a2, c2, rfl, hG2⟩
    have hz2 := hb2.size
    have HB2 : Hid (Below w.heap.size w w2) := HB1.out.trans (hb2.mono hz1)
    have HX2 : Hid (NeedsIn w2 ao cap l) := HX1.out.below hb2 (Nat.le_refl _)
    have hG3 := hG2.alloc (.cells #[.int .i64 ((N : Int) + 2), .int .i64 (N : Int), .int .i64 ((N : Int) + 1), .slice a2 (besideL N l).length c2] 43)
    have x3 := blk_new w2 (.cells #[.int .i64 ((N : Int) + 2), .int .i64 (N : Int), .int .i64 ((N : Int) + 1), .slice a2 (besideL N l).length c2] 43)
    have hq := hM ((N : Int) + 2) N ((N : Int) + 1) a2 c2 (besideL N l) _ hG3
    rw [beside_err HE.out] at hq
    obtain ⟨r0, r1, r2, r3⟩ := blk4 x3
    have HErr : Hid (needErr N l = 0) := HE
    have HLe : Hid (∀ f, FlowIs (N + 2) N ((N : Int) + 1) (besideL N l) f → gone (besideL N l) (ati f) N ≤ owedN N l) := fun f hf => round_le HE.out hf
    have HLs : Hid (∀ v, MaxIs (N + 2) N ((N : Int) + 1) (besideL N l) v → v < owedN N l → ∃ x : Nat, x < 2 ^ N ∧ Strains l x) := fun v h1 h2 => round_less_side HE.out h1 h2
    have HRo : Hid (∀ f, FlowIs (N + 2) N ((N : Int) + 1) (besideL N l) f → gone (besideL N l) (ati f) N = owedN N l → RoundIs N l (roundF l f)) := fun f hf hv => round_of HE.out hf hv (roundF_len l f) (fun k hk => roundF_at f hk)
    have HBl : Hid (l.length ≤ (besideL N l).length) := by unfold besideL; rw [Hid, List.length_append, restA_len]; omega
    have HCp : Hid (∀ k, k < (besideL N l).length → (at3 (besideL N l) k).2.2 ≤ 10000) := fun k hk => (err_ok (net_ok (beside_err HE.out)).1).2.2 _ (at3_mem _ k hk) |>.2.2.2
    obtain ⟨o, ho⟩ : ∃ o, owedN N l = o := ⟨_, rfl⟩
    rw [ho] at HLe HLs HRo
    rw [ho]
    clear hG2 hG3 hb2 HE HB1 HX1 x3 ho
    generalize besideL N l = L at *
    go_wp2_with fail
    refine hq.mono ?_
    clear hq
    rintro e w3 ⟨hb3, a3, c3, F, v, rfl, hI, hT⟩
    simp only [World.size_alloc] at hb3
    have hz3 := hb3.size
    simp only [World.size_alloc] at hz3
    have HB3 : Hid (Below w.heap.size w w3) := (HB2.out.alloc (by omega) _).trans (hb3.mono (by omega))
    have HX3 : Hid (NeedsIn w3 ao cap l) := (HX2.out.alloc _).below hb3 (by simp)
    have hfl := hT.flow rfl
    have hmx := hT.most rfl
    rw [show ((N : Int) + 2).toNat = N + 2 by omega] at hfl hmx
    have HI : Hid (IntsIn w3 a3 c3 F) := hI
    clear hb3 hI hT HB2 HX2 r0 r1 r2 r3
    by_cases c : v < o
    · have HSt : Hid (∃ x : Nat, x < 2 ^ N ∧ Strains l x) := HLs.out v hmx c
      have g1 : decide (v < o) = true := decide_eq_true c
      clear hfl hmx HLs HRo HLe
      go_wp2
      go_ret2
      refine ⟨HB3.out, none, 0, [], 5, rfl, Or.inl ⟨rfl, rfl, rfl⟩, fun h => absurd HErr.out h, fun _ => Or.inr ⟨rfl, rfl, ?_⟩⟩
      rw [Int.toNat_natCast]; exact HSt.out
    · have g1 : decide (v < o) = false := decide_eq_false c
      have hv : gone L (ati F) N = o := by have := HLe.out F hfl.1; have := hfl.2; omega
      have HR : Hid (RoundIs N l (roundF l F)) := HRo.out F hfl.1 hv
      have HFl : Hid (F.length = L.length ∧ ∀ k, k < L.length → 0 ≤ ati F k ∧ ati F k ≤ 10000) := ⟨hfl.1.len, fun k hk => by have := hfl.1.bnd k hk; have := HCp.out k hk; omega⟩
      have hmk := make_ints l.length (by omega)
      clear hfl hmx HLs HRo HLe hv
      go_wp2
      go_loopw [41] (fun i wr => ∃ k : Nat, k ≤ l.length ∧ i = .int .i64 k ∧ wr.rowIs w3.heap.size 3 l.length (fun j => .int .i64 (if j < k then ati (roundF l F) j else 0)) ∧ Hid (Below w3.heap.size w3 wr)) (fun i _ => l.length - (intOf i).toNat)
      case atStart => exact ⟨0, Nat.zero_le _, rfl, (zeri_row w3 l.length 3).congr fun j hj => by rw [if_neg (by omega)], below_one _ _⟩
      case round =>
        obtain ⟨k, hk, rfl, hrow, HBr⟩ := hrel
        have hz := HBr.out.size
        have hzr := hrow.lt
        by_cases hlt : k < l.length
        · have HK : Hid (k + 1 ≤ l.length) := hlt
          have hkL : k < L.length := by have := HBl.out; omega
          obtain ⟨b, off, rfl, hbb, d0, d1, d2, d3⟩ := HX3.out.needs.below HBr.out (Nat.le_refl _) k hlt
          obtain ⟨b', off', e1, hbb', _⟩ := HX3.out.needs k hlt
          cases e1
          obtain ⟨b2, o2, rfl, hb2, q0⟩ := HI.out.ints.below HBr.out (Nat.le_refl _) k (by rw [HFl.out.1]; exact hkL)
          obtain ⟨b2', o2', e2, hb2', _⟩ := HI.out.ints k (by rw [HFl.out.1]; exact hkL)
          cases e2
          have hne1 : b ≠ w3.heap.size := by omega
          have hne2 : b2 ≠ w3.heap.size := by omega
          have hkF : k < F.length := by rw [HFl.out.1]; exact hkL
          have hfb := HFl.out.2 k hkL
          have hlo := HAll.out k hlt
          have HVal : Hid (ati (roundF l F) k = (at4 l k).2.2.1 + ati F k) := roundF_at F hlt
          have r0 := hrow.cell (i := k) hlt
          have f0 := hrow.frozen k
          have HR2 : Hid (wr.rowIs w3.heap.size 3 l.length (fun j => .int .i64 (if j < k then ati (roundF l F) j else 0))) := hrow
          generalize (at4 l k).1 = p at *
          generalize (at4 l k).2.1 = q at *
          generalize (at4 l k).2.2.1 = lo at *
          generalize (at4 l k).2.2.2 = c at *
          obtain ⟨y, hy⟩ : ∃ y, ati F k = y := ⟨_, rfl⟩
          rw [hy] at q0 hfb HVal
          have wy : IntKind.i64.wrap (lo + y) = lo + y := by rw [IntKind.wrap_i64]; omega
          clear hrow hy
          go_wp2
          go_region
          go_wp2
          go_roundw
          case rel =>
            refine ⟨k + 1, HK.out, by go_num, (((HR2.out.set k _).alloc _).drew).congr fun j hj => ?_, ((HBr.out.setCell (Nat.le_refl _) _).alloc (by simp; omega) _).drew⟩
            by_cases ej : j = k
            · subst ej
              rw [if_pos rfl, if_pos (Nat.lt_succ_self _), HVal.out]
            · rw [if_neg ej]
              by_cases el : j < k
              · rw [if_pos el, if_pos (by omega)]
              · rw [if_neg el, if_neg (by omega)]
          case measure => have := HK.out; simp [intOf]; omega
        · have hkk : l.length = k := by omega
          subst hkk
          have HRr : Hid (wr.rowIs w3.heap.size 3 (roundF l F).length (fun j => .int .i64 (ati (roundF l F) j))) := by
            rw [Hid, roundF_len]; exact hrow.congr fun j hj => by rw [if_pos hj]
          clear hrow
          go_wp2
          go_ret2
          refine ⟨HB3.out.trans (HBr.out.mono HB3.out.size), some ⟨w3.heap.size, 0, none⟩, l.length, roundF l F, 0, by rw [roundF_len]; rfl, Or.inr ⟨w3.heap.size, rfl, HB3.out.size, by unfold maxLen; omega, _, ?_, by rw [roundF_len]; exact Nat.le_refl _, fun j _ => rfl⟩, fun h => absurd HErr.out h, fun _ => Or.inl ⟨rfl, ?_⟩⟩
          · have := HRr.out
            rw [roundF_len] at this
            exact this
          · rw [Int.toNat_natCast]; exact HR.out
  · have e0 : (E != 0) = true := by simpa using h0
    have HN : Hid (E ≠ 0) := h0
    clear h0
    go_wp2
    go_ret2
    exact ⟨HB1.out, none, 0, [], E, rfl, Or.inl ⟨rfl, rfl, rfl⟩, fun _ => ⟨HE.out.symm, rfl⟩, fun h => absurd (HE.out.symm.trans h) HN.out⟩

end Go.Proofs.Ytmneajmfoljflaa
