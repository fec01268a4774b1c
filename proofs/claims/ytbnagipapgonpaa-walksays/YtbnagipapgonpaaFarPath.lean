/- Contracts of package walk: Far and Path, as the laws ask them. -/
import Derived.Test.YtbnagipapgonpaaSpread
import Derived.Test.YtbnagipapgonpaaWalkC
import Derived.BigRegion
namespace Go.Proofs.Ytbnagipapgonpaa
open Go.RowKit
set_option linter.unusedVariables false

set_option maxHeartbeats 400000 in
theorem wIsNode_any (n v : Int) (x : Value) (w : World) :
    Calls Try.prog 26 #[.agg #[.int .i64 n, x], .int .i64 v] w fun e w' => e = .returned (.bool (isN n v)) ∧ Below w.heap.size w w' := by
  by_cases h0 : 0 ≤ v
  · by_cases h1 : v < n
    · go_enter Try.func26, Try.ntmps26
      go_wp2
      go_ret
      exact ⟨by simp [isN, h0, h1], below_one _ _⟩
    · go_enter Try.func26, Try.ntmps26
      go_wp2
      go_ret
      exact ⟨by simp [isN]; omega, below_one _ _⟩
  · go_enter Try.func26, Try.ntmps26
    go_wp2
    go_ret
    exact ⟨by simp [isN]; omega, below_one _ _⟩

set_option maxHeartbeats 400000 in
theorem checkStart_any (n s : Int) (ao : Option Addr) (cap : Nat) (l : List Arc3) (w : World) (hG : GraphIn w ao cap l) :
    Calls Try.prog 24 #[.agg #[.int .i64 n, .slice ao l.length cap], .int .i64 s] w fun e w' => e = .returned (.int .i64 (farErr n l s)) ∧ Below w.heap.size w w' := by
  have hm := hG.len
  have hA0 := hG.arcs.alloc (.cells #[.int .i64 n, .slice ao l.length cap] 24)
  have x0 := blk_new w (.cells #[.int .i64 n, .slice ao l.length cap] 24)
  go_enter Try.func24, Try.ntmps24
  go_wp2_with fail
  refine (CheckLong_any _ _ _ _ _ hm hA0).mono ?_
  rintro e w1 ⟨rfl, hb1⟩
  simp only [World.size_alloc] at hb1
  have hz1 := hb1.size
  simp only [World.size_alloc] at hz1
  have x1 := blk_below hb1 x0 (by omega)
  have hbb1 := below_in hb1 (by omega)
  obtain ⟨r0, r1, f0, f1⟩ := blk2 x1
  have HFE : Hid (farErr n l s = if graphErr n (-10000) l = 0 then (if 0 ≤ s ∧ s < n then 0 else 4) else graphErr n (-10000) l) := rfl
  clear hb1 hA0 x0
  by_cases hE : graphErr n (-10000) l = 0
  · rw [hE]
    have h00 : ((0 : Int) != 0) = false := rfl
    have HE : Hid (graphErr n (-10000) l = 0) := hE
    clear hE
    go_wp2_with fail
    refine (wIsNode_any _ _ _ _).mono ?_
    rintro e w2 ⟨rfl, hb2⟩
    have hbb2 := hbb1.trans (hb2.mono (by omega))
    clear hb2 hbb1
    by_cases hs : 0 ≤ s ∧ s < n
    · have hi : isN n s = true := by simpa [isN] using hs
      rw [hi]
      go_wp2
      go_ret
      exact ⟨by rw [farErr_mk HE.out hs]; rfl, hbb2⟩
    · have hi : isN n s = false := by simpa [isN] using hs
      rw [hi]
      go_wp2
      go_ret
      exact ⟨by rw [HFE.out, if_pos HE.out, if_neg hs]; rfl, hbb2⟩
  · have hE' : (graphErr n (-10000) l != 0) = true := by simpa using hE
    have HE : Hid (graphErr n (-10000) l ≠ 0) := hE
    clear hE
    go_wp2
    go_ret
    exact ⟨by rw [HFE.out, if_neg HE.out]; rfl, hbb1⟩

set_option maxHeartbeats 400000 in
theorem Far_any : FarC := by
  intro n s ao cap l w hG
  have hm := hG.len
  have hG0 := hG.alloc (.cells #[.int .i64 n, .slice ao l.length cap] 24)
  have x0 := blk_new w (.cells #[.int .i64 n, .slice ao l.length cap] 24)
  go_enter Try.func9, Try.ntmps9
  go_wp2_with fail
  refine (checkStart_any _ _ _ _ _ _ hG0).mono ?_
  rintro e w1 ⟨rfl, hb1⟩
  simp only [World.size_alloc] at hb1
  have hz1 := hb1.size
  simp only [World.size_alloc] at hz1
  have x1 := blk_below hb1 x0 (by omega)
  have hG1 := hG0.below hb1 (by simp)
  have hbb1 := below_in hb1 (by omega)
  obtain ⟨r0, r1, f0, f1⟩ := blk2 x1
  clear hb1 hG0 x0
  by_cases hE : farErr n l s = 0
  · obtain ⟨hg, hs0, hs1⟩ := farErr_ok hE
    obtain ⟨⟨hn1, hn2⟩, hlen, hnodes⟩ := err_ok hg
    obtain ⟨N, rfl⟩ := Int.eq_ofNat_of_zero_le (show 0 ≤ n by omega)
    obtain ⟨s, rfl⟩ := Int.eq_ofNat_of_zero_le hs0
    have hl : ∀ a ∈ l, (0 ≤ a.1 ∧ a.1 < (N : Int)) ∧ (0 ≤ a.2.1 ∧ a.2.1 < (N : Int)) := fun a ha => ⟨(hnodes a ha).1, (hnodes a ha).2.1⟩
    have HL : Hid (∀ a ∈ l, (0 ≤ a.1 ∧ a.1 < (N : Int)) ∧ (0 ≤ a.2.1 ∧ a.2.1 < (N : Int))) := hl
    have HE : Hid (farErr N l s = 0) := hE
    rw [hE]
    have h00 : ((0 : Int) != 0) = false := rfl
    clear hE hl hnodes hg
    go_wp2_with fail
    refine (spread_any N s ao cap l w1 hG1.arcs (by omega) (by omega) (by omega) (by omega) HL.out).mono ?_
    rintro e w2 ⟨hb2, b, c, F, B, hb, hc, hbc, rfl, hF, hB, hFar, hBy⟩
    have HF : Hid (IntsAt w2 (some ⟨b, 0, none⟩) ((List.range N).map F)) := row_ints hF
    have HFar : Hid (FarIs N l s ((List.range N).map F)) := hFar
    have hbb2 := hbb1.trans (hb2.mono (by omega))
    clear hF hB hFar hBy hb2
    go_wp2
    go_ret2
    exact ⟨hbb2, some ⟨b, 0, none⟩, N, (List.range N).map F, by rw [HE.out]; simp, HF.out, fun h => absurd HE.out h, fun _ => by rw [Int.toNat_natCast]; exact HFar.out⟩
  · have hE' : (farErr n l s != 0) = true := by simpa using hE
    have HE : Hid (farErr n l s ≠ 0) := hE
    clear hE
    go_wp2
    go_ret2
    exact ⟨hbb1, none, 0, [], rfl, fun i hi => absurd hi (Nat.not_lt_zero _), fun _ => rfl, fun h => absurd h HE.out⟩

set_option maxHeartbeats 2000000 in
set_option maxRecDepth 100000 in
theorem Path_any : PathC := by
  intro n s t ao cap l w hG
  have hm := hG.len
  have hG0 := hG.alloc (.cells #[.int .i64 n, .slice ao l.length cap] 24)
  have x0 := blk_new w (.cells #[.int .i64 n, .slice ao l.length cap] 24)
  go_enter Try.func10, Try.ntmps10
  go_wp2_with fail
  refine (checkStart_any _ _ _ _ _ _ hG0).mono ?_
  rintro e w1 ⟨rfl, hb1⟩
  simp only [World.size_alloc] at hb1
  have hz1 := hb1.size
  simp only [World.size_alloc] at hz1
  have x1 := blk_below hb1 x0 (by omega)
  have hG1 := hG0.below hb1 (by simp)
  have hbb1 := below_in hb1 (by omega)
  obtain ⟨r0, r1, f0, f1⟩ := blk2 x1
  clear hb1 hG0 x0
  have hno : ∀ (x : World), IntsAt x none [] := fun x i hi => absurd hi (Nat.not_lt_zero _)
  have HNo : Hid (∀ (x : World), IntsAt x none []) := hno
  clear hno
  by_cases hE : farErr n l s = 0
  · have HE : Hid (farErr n l s = 0) := hE
    rw [hE]
    have h00 : ((0 : Int) != 0) = false := rfl
    go_wp2_with fail
    refine (wIsNode_any _ _ _ _).mono ?_
    rintro e w2 ⟨rfl, hb2⟩
    have hz2 := hb2.size
    have x2 := blk_below hb2 x1 (by omega)
    have hG2 := hG1.below hb2 (by omega)
    have hbb2 := hbb1.trans (hb2.mono (by omega))
    clear hb2 hbb1 x1 hG1 r0 r1 f0 f1
    obtain ⟨r0, r1, f0, f1⟩ := blk2 x2
    by_cases ht : 0 ≤ t ∧ t < n
    · have hi : isN n t = true := by simpa [isN] using ht
      rw [hi]
      obtain ⟨hg, hs0, hs1⟩ := farErr_ok hE
      obtain ⟨⟨hn1, hn2⟩, hlen, hnodes⟩ := err_ok hg
      obtain ⟨N, rfl⟩ := Int.eq_ofNat_of_zero_le (show 0 ≤ n by omega)
      obtain ⟨s, rfl⟩ := Int.eq_ofNat_of_zero_le hs0
      obtain ⟨t, rfl⟩ := Int.eq_ofNat_of_zero_le ht.1
      have htN : t < N := by omega
      have hsN : s < N := by omega
      have hl : ∀ a ∈ l, (0 ≤ a.1 ∧ a.1 < (N : Int)) ∧ (0 ≤ a.2.1 ∧ a.2.1 < (N : Int)) := fun a ha => ⟨(hnodes a ha).1, (hnodes a ha).2.1⟩
      have HL : Hid (∀ a ∈ l, (0 ≤ a.1 ∧ a.1 < (N : Int)) ∧ (0 ≤ a.2.1 ∧ a.2.1 < (N : Int))) := hl
      clear hE hl hnodes hg hi
      go_wp2_with fail
      refine (spread_any N s ao cap l w2 hG2.arcs (by omega) (by omega) (by omega) (by omega) HL.out).mono ?_
      rintro e w3 ⟨hb3, b, c, F, B, hb, hc, hbc, rfl, hF, hB, hFar, hBy⟩
      have hz3 := hb3.size
      have x3 := blk_below hb3 x2 (by omega)
      have hG3 := hG2.below hb3 (by omega)
      have hbb3 := hbb2.trans (hb3.mono (by omega))
      have hbl := hF.lt
      have hcl := hB.lt
      have t0 := hF.cell (i := t) htN
      have HFar : Hid (FarIs N l s ((List.range N).map F)) := hFar
      have HBy : Hid (ByA N l F B) := hBy
      have HF : Hid (w3.rowIs b 3 N (fun j => .int .i64 (F j))) := hF
      have HB : Hid (w3.rowIs c 3 N (fun j => .int .i64 (B j))) := hB
      clear hb3 x2 hG2 hbb2 r0 r1 f0 f1 hF hB hFar hBy
      have hFt := HFar.out.all t htN
      rw [ati_range N F htN] at hFt
      rcases hFt with ⟨et, hnone⟩ | ⟨D, et, hw, hmin⟩
      · rw [et] at t0
        have HNn : Hid (∀ k, ¬ Wk l s k t) := hnone
        clear hnone et
        go_wp2
        go_ret2
        exact ⟨hbb3, none, 0, [], 5, rfl, HNo.out _, Nat.zero_le _, fun _ => rfl, fun h => absurd HE.out h, fun _ h => absurd ht h, fun _ _ _ => rfl, fun _ _ ⟨k, hk⟩ => absurd hk (HNn.out k)⟩
      · rw [et] at t0
        have HW : Hid (Wk l s D t) := hw
        have HMin : Hid (∀ k, Wk l s k t → D ≤ k) := hmin
        have hDN : D < N := by
          have := HFar.out.lt HL.out htN
          rw [ati_range N F htN, et] at this
          omega
        have HEt : Hid (F t = D) := et
        have HG3 : Hid (ArcsAt w3 ao l) := hG3.arcs
        have HX3 : Hid (w3.heap[w.heap.size]? = some (.cells #[.int .i64 (N : Int), .slice ao l.length cap] 24 (0, 0))) := x3
        have hmk := make_ints D (by omega)
        have hDn : ¬ (D : Int) < 0 := by omega
        have hw3 : w.heap.size < w3.heap.size := by omega
        clear hw hmin et x3 hG3
        go_wp2
        go_loopw [12] (fun i wr => ∃ (v m : Nat) (Q : List Int), i = .int .i64 v ∧ v < N ∧ F v = m ∧ m ≤ D ∧ Q.length = D - m ∧ Chain l v Q t ∧ wr.rowIs w3.heap.size 3 D (fun j => .int .i64 (backRow m Q j)) ∧ Below w3.heap.size w3 wr) (fun i _ => (F (intOf i).toNat).toNat)
        case atStart => exact ⟨t, D, [], rfl, htN, HEt.out, Nat.le_refl _, by simp, rfl, (zeri_row _ _ _).congr fun j hj => by simp [backRow, hj], below_one _ _⟩
        case round =>
          obtain ⟨v, m, Q, rfl, hv, em, hmD, hQ, hch, hrow, hbel⟩ := hrel
          have hz := hbel.size
          have hpl := hrow.lt
          by_cases hvs : v = s
          · subst hvs
            have hm0 : m = 0 := by
              have := HFar.out.first hv
              rw [ati_range N F hv] at this
              omega
            subst hm0
            have hQD : Q.length = D := by omega
            subst hQD
            have hI := row_ints hrow
            rw [backRow_zero] at hI
            have HI : Hid (IntsAt wr (some ⟨w3.heap.size, 0, none⟩) Q) := hI
            have HCh : Hid (Chain l v Q t) := hch
            have e1 : ((v : Int) != (v : Int)) = false := by simp
            have HX : Hid (Below w3.heap.size w3 wr) := hbel
            clear hI hrow hch hbel t0 hmk
            go_wp2
            go_ret2
            exact ⟨hbb3.trans (HX.out.mono (by omega)), some ⟨w3.heap.size, 0, none⟩, Q.length, Q, 0, rfl, HI.out, by unfold maxLen; omega, fun h => absurd rfl h, fun h => absurd HE.out h, fun _ h => absurd ht h, fun _ _ h => absurd HW.out (h _), fun _ _ _ => ⟨rfl, HCh.out, HMin.out⟩⟩
          · have hpos : 0 < F v := by
              rcases Nat.eq_zero_or_pos m with h | h
              · exfalso
                have := HFar.out.zero hv (by rw [ati_range N F hv, em, h]; rfl)
                omega
              · omega
            obtain ⟨k, u, ek, hk, e1, e2, hu, eu, hu0⟩ := HBy.out v hv hpos
            obtain ⟨m', rfl⟩ : ∃ m', m = m' + 1 := ⟨m - 1, by omega⟩
            have eu' : F u = m' := by omega
            have x4 := blk_below hbel HX3.out (by omega)
            obtain ⟨r0, r1, f0, f1⟩ := blk2 x4
            obtain ⟨ba, off, rfl, hba, c0, c1, c2⟩ := HG3.out k hk
            have c0 := later hbel c0 hba
            have hne : ba ≠ w3.heap.size := by omega
            rw [e1] at c0
            clear c1 c2
            have q0 := (HF.out.of_block (hbel.block b hbl)).cell (i := v) hv
            have q1 := (HB.out.of_block (hbel.block c hcl)).cell (i := v) hv
            rw [em] at q0
            rw [ek] at q1
            have q2 := hrow.cell (i := m') (by omega)
            have q3 := hrow.frozen m'
            have hvs' : ((v : Int) != (s : Int)) = true := by
              have : ¬ (v : Int) = s := by omega
              simpa using this
            have HCh : Hid (Chain l u ((k : Int) :: Q) t) := ⟨k, rfl, hk, e1, by rw [e2]; exact hch⟩
            have HRow : Hid (wr.rowIs w3.heap.size 3 D (fun j => .int .i64 (backRow (m' + 1) Q j))) := hrow
            have HX : Hid (Below w3.heap.size w3 wr) := hbel
            have HEu : Hid (F u = m' ∧ F v = (m' : Int) + 1) := ⟨eu', by rw [em]; rfl⟩
            generalize backRow (m' + 1) Q m' = z at *
            have hmw : IntKind.i64.wrap (((m' + 1 : Nat) : Int) - 1) = (m' : Int) := by rw [IntKind.wrap_i64]; omega
            clear hrow hbel hch ek e1 e2 eu em eu' hpos hu0 x4 t0 hmk
            go_wp2
            go_region
            go_wp2
            go_region
            go_wp2
            go_roundw
            case rel =>
              refine ⟨u, m', (k : Int) :: Q, by go_num, hu, HEu.out.1, by omega, by simp; omega, HCh.out, ?_, ?_⟩
              · refine ((HRow.out.set m' _).drew.drew).congr fun j hj => ?_
                rw [backRow_cons]
                by_cases e : j = m' <;> simp [e]
              · exact ((HX.out.setCell (by simp) _).drew).drew
            case measure =>
              have h1 := HEu.out.1
              have h2 := HEu.out.2
              simp [intOf, h1, h2]
    · have hi : isN n t = false := by simpa [isN] using ht
      rw [hi]
      clear hi
      go_wp2
      go_ret2
      exact ⟨hbb2, none, 0, [], 4, rfl, HNo.out _, Nat.zero_le _, fun _ => rfl, fun h => absurd HE.out h, fun _ _ => rfl, fun _ h => absurd h ht, fun _ h => absurd h ht⟩
  · have hE' : (farErr n l s != 0) = true := by simpa using hE
    have HE : Hid (farErr n l s ≠ 0) := hE
    clear hE
    go_wp2
    go_ret2
    exact ⟨hbb1, none, 0, [], farErr n l s, rfl, HNo.out _, Nat.zero_le _, fun _ => rfl, fun _ => rfl, fun h => absurd h HE.out, fun h => absurd h HE.out, fun h => absurd h HE.out⟩

end Go.Proofs.Ytbnagipapgonpaa
