/- The law ShortSteps, walked, out of the contract of From. -/
import Derived.Test.YtakemienlmlgkaaShortC
import Derived.Test.YtakemienlmlgkaaMkB
import Derived.Test.YtakemienlmlgkaaRowK
import Derived.BigRegion
namespace Go.Proofs.Ytakemienlmlgkaa
open Go.RowKit
set_option linter.unusedVariables false

/-- who has been hit by the first k arcs -/
def HitS (F : List Int) (K : List Bool) (l : List Arc3) (k : Nat) (H : Nat → Bool) : Prop :=
  ∀ (u v : Nat) (c : Int), ((u : Int), (v : Int), c) ∈ l.take k → atb K u = true → ati F v = ati F u + c → H v = true

theorem hitS_next {F : List Int} {K : List Bool} {l : List Arc3} {k : Nat} {H : Nat → Bool} (h : HitS F K l k H) (hk : k < l.length) {f t : Nat} {c : Int} (ha : at3 l k = ((f : Int), (t : Int), c)) {b : Bool}
    (h1 : H t = true → b = true) (h2 : atb K f = true → ati F t = ati F f + c → b = true) : HitS F K l (k + 1) (fun v => if v = t then b else H v) := by
  intro u v c' hm h3 h4
  rw [take_snoc3 l k hk] at hm
  rcases List.mem_append.1 hm with hm | hm
  · have hv := h u v c' hm h3 h4
    by_cases e : v = t
    · subst e; simp [h1 hv]
    · simp [e, hv]
  · have e := List.mem_singleton.1 hm
    rw [ha] at e
    simp only [Prod.mk.injEq] at e
    obtain ⟨e1, e2, e3⟩ := e
    obtain rfl : u = f := by omega
    obtain rfl : v = t := by omega
    subst e3
    simp [h2 h3 h4]

set_option maxHeartbeats 4000000 in
set_option maxRecDepth 100000 in
theorem ShortSteps_any (hC : FromC) (n s : Int) (ao : Option Addr) (cap : Nat) (l : List Arc3) (w : World) (hG : GraphIn w ao cap l) :
    Calls Try.prog 4 #[.agg #[.int .i64 n, .slice ao l.length cap], .int .i64 s] w fun e w' => e = .returned (.bool true) ∧ Below w.heap.size w w' := by
  have hm := hG.len
  have hG0 := hG.alloc (.cells #[.int .i64 n, .slice ao l.length cap] 24)
  have x0 := blk_new w (.cells #[.int .i64 n, .slice ao l.length cap] 24)
  have h00 : ((0 : Int) != 0) = false := rfl
  go_enter Try.func4, Try.ntmps4
  go_wp2_with fail
  refine (shorts_any hC _).mono ?_
  rintro e w1 ⟨rfl, hb1⟩
  simp only [World.size_alloc] at hb1
  have hz1 := hb1.size
  simp only [World.size_alloc] at hz1
  have x1 := blk_below hb1 x0 (by omega)
  have hG1 := hG0.below hb1 (by simp)
  have hbb1 := below_in hb1 (by omega)
  clear hb1 x0 hG0
  obtain ⟨r0, r1, f0, f1⟩ := blk2 x1
  go_wp2_with fail
  refine (hC n s ao cap l _ hG1).mono ?_
  rintro e w2 ⟨hb2, a1, c1, F, a2, c2, K, err, rfl, hF2, hK2, hS2⟩
  have hz2 := hb2.size
  have x2 := blk_below hb2 x1 (by omega)
  have hG2 := hG1.below hb2 (by omega)
  have hbb2 := hbb1.trans (hb2.mono (by omega))
  clear hb2 x1 hG1 hbb1 r0 r1 f0 f1
  obtain ⟨r0, r1, f0, f1⟩ := blk2 x2
  by_cases hE : err = 0
  · subst hE
    obtain ⟨hg, ⟨hs0, hs1⟩, _, hFr⟩ := hS2.right
    obtain ⟨⟨hn1, hn2'⟩, hlen, hnodes⟩ := err_ok hg
    obtain ⟨N, rfl⟩ := Int.eq_ofNat_of_zero_le (show 0 ≤ n by omega)
    obtain ⟨s, rfl⟩ := Int.eq_ofNat_of_zero_le hs0
    rw [Int.toNat_natCast] at hFr
    have hsN : s < N := by omega
    have HL3 : Hid (∀ a ∈ l, (0 ≤ a.1 ∧ a.1 < (N : Int)) ∧ (0 ≤ a.2.1 ∧ a.2.1 < (N : Int)) ∧ -10000 ≤ a.2.2 ∧ a.2.2 ≤ 10000) := hnodes
    have HL : Hid (∀ a ∈ l, (0 ≤ a.1 ∧ a.1 < (N : Int)) ∧ (0 ≤ a.2.1 ∧ a.2.1 < (N : Int))) := fun a ha => ⟨(hnodes a ha).1, (hnodes a ha).2.1⟩
    have HFr : Hid (FromIs N l s F K) := hFr
    have HFl : Hid (F.length = N) := hFr.lenF
    have HKl : Hid (K.length = N) := hFr.lenK
    have HBd : Hid (∀ v, v < N → -120000 ≤ ati F v ∧ ati F v ≤ 120000) := fun v hv => hFr.bound (by omega) (by omega) hnodes hv
    obtain ⟨e1, e2⟩ := hFr.first hsN HL.out
    obtain ⟨bF, oF, rfl, hbF, q0⟩ := hF2 s (by rw [HFl.out]; exact hsN)
    obtain ⟨bK, oK, rfl, hbK, q1⟩ := hK2 s (by rw [HKl.out]; exact hsN)
    rw [e2] at q0
    rw [e1] at q1
    have HF2 : Hid (∀ v, v < N → w2.cell? ⟨bF, oF + v, none⟩ = some (.int .i64 (ati F v))) := fun v hv => by
      obtain ⟨b', o', e', _, c⟩ := hF2 v (by rw [HFl.out]; exact hv)
      cases e'
      exact c
    have HK2 : Hid (∀ v, v < N → w2.cell? ⟨bK, oK + v, none⟩ = some (.bool (atb K v))) := fun v hv => by
      obtain ⟨b', o', e', _, c⟩ := hK2 v (by rw [HKl.out]; exact hv)
      cases e'
      exact c
    have HG2 : Hid (ArcsAt w2 ao l) := hG2.arcs
    have hmk := make_bools N (by omega)
    have hzb := zerb_at w N s hsN
    have hNN : ((N : Int) != (N : Int)) = false := by simp
    have hs0' : decide ((s : Int) < 0) = false := by simp
    have hs1' : decide ((N : Int) ≤ (s : Int)) = false := by simp; omega
    have hs1n : decide (N ≤ s) = false := by simp; omega
    have hw2 : w.heap.size < w2.heap.size := by omega
    rw [HFl.out, HKl.out]
    clear hFr hF2 hK2 hG2 x2 hnodes hg hS2 e1 e2
    go_wp2
    have HH : Hid ((w2.alloc (.cells ((zerb N).setIfInBounds s (.bool true)) 4)).rowIs w2.heap.size 4 N (fun v => .bool (decide (v = s)))) := zerb_one w2 N s _
    have HBl : Hid (Below w2.heap.size w2 (w2.alloc (.cells ((zerb N).setIfInBounds s (.bool true)) 4))) := below_one _ _
    clear hmk hzb q0 q1
    go_loopw [74] (fun i wr => ∃ k : Nat, k ≤ l.length ∧ i = .int .i64 k ∧ (∃ H, wr.rowIs w2.heap.size 4 N (fun v => .bool (H v)) ∧ HitS F K l k H ∧ H s = true) ∧ Below w2.heap.size w2 wr) (fun i _ => l.length - (intOf i).toNat)
    case atStart => exact ⟨0, Nat.zero_le _, rfl, ⟨_, HH.out, (fun u v c h => by simp at h), by simp⟩, HBl.out⟩
    case round =>
      obtain ⟨k, hk, rfl, ⟨H, hH, hHit, hHs⟩, hB⟩ := hrel
      clear HH HBl r0 r1 f0 f1
      have hz := hB.size
      have hHl := hH.lt
      by_cases hkl : k < l.length
      · obtain ⟨ba, off, rfl, hba, c0, c1, c2⟩ := HG2.out.below hB (by omega) k hkl
        have hmem := at3_mem l k hkl
        obtain ⟨a, ha⟩ : ∃ a, at3 l k = a := ⟨_, rfl⟩
        rw [ha] at c0 c1 c2 hmem
        obtain ⟨f, t, x⟩ := a
        obtain ⟨⟨p1, p2⟩, ⟨p3, p4⟩, p5, p6⟩ := HL3.out _ hmem
        simp only at c0 c1 c2 p1 p2 p3 p4 p5 p6
        obtain ⟨f, rfl⟩ := Int.eq_ofNat_of_zero_le p1
        obtain ⟨t, rfl⟩ := Int.eq_ofNat_of_zero_le p3
        have hf : f < N := by omega
        have ht : t < N := by omega
        have d0 := later hB (HF2.out f hf) hbF
        have d1 := later hB (HF2.out t ht) hbF
        have b0 := later hB (HK2.out f hf) hbK
        have b1 := later hB (HK2.out t ht) hbK
        have d2 := hH.cell (i := t) ht
        have d3 := hH.frozen t
        have hbFr : bF < wr.heap.size := by omega
        have hbFn : bF ≠ w2.heap.size := by omega
        have hbKr : bK < wr.heap.size := by omega
        have hbKn : bK ≠ w2.heap.size := by omega
        have HHr : Hid (wr.rowIs w2.heap.size 4 N (fun v => .bool (H v))) := hH
        have HBr : Hid (Below w2.heap.size w2 wr) := hB
        have hbd := HBd.out f hf
        have harc := fun h => HFr.out.arc hmem hf ht h
        have HNx : Hid (∀ b : Bool, (H t = true → b = true) → (atb K f = true → ati F t = ati F f + x → b = true) → HitS F K l (k + 1) (fun v => if v = t then b else H v) ∧ (if s = t then b else H s) = true) := fun b h1 h2 => ⟨hitS_next hHit hkl ha h1 h2, by
          by_cases e : s = t
          · subst e; simp [h1 hHs]
          · simp [e, hHs]⟩
        obtain ⟨xf, hxf⟩ : ∃ x, ati F f = x := ⟨_, rfl⟩
        obtain ⟨xt, hxt⟩ : ∃ x, ati F t = x := ⟨_, rfl⟩
        obtain ⟨kf, hkf⟩ : ∃ x, atb K f = x := ⟨_, rfl⟩
        obtain ⟨kt, hkt⟩ : ∃ x, atb K t = x := ⟨_, rfl⟩
        obtain ⟨h, hh⟩ : ∃ h, H t = h := ⟨_, rfl⟩
        rw [hxf] at d0 hbd harc HNx
        rw [hxt] at d1 harc HNx
        rw [hkf] at b0 harc HNx
        rw [hkt] at b1 harc
        rw [hh] at d2 HNx
        clear hH hHit hB ha hmem hxf hxt hh hkf hkt hHs
        cases kf
        · clear harc
          cases h
          · go_wp2
            go_quiet (fail)
            go_wp2
            go_region
            go_wp2
            go_roundw
            case rel => exact ⟨k + 1, by omega, by go_num, ⟨_, ((row_drewN (HHr.out.alloc _) _).set t _).congr (fun v hv => by by_cases e : v = t <;> simp [e]), HNx.out false (by simp) (by simp)⟩, (below_drewN (HBr.out.alloc (by omega) _) _).setCell (Nat.le_refl _) _⟩
            case measure => simp [intOf]; omega
          · go_wp2
            go_quiet (fail)
            go_wp2
            go_region
            go_wp2
            go_roundw
            case rel => exact ⟨k + 1, by omega, by go_num, ⟨_, ((row_drewN (HHr.out.alloc _) _).set t _).congr (fun v hv => by by_cases e : v = t <;> simp [e]), HNx.out true (by simp) (by simp)⟩, (below_drewN (HBr.out.alloc (by omega) _) _).setCell (Nat.le_refl _) _⟩
            case measure => simp [intOf]; omega
        · obtain ⟨rfl, hle⟩ := harc rfl
          have g3 : decide (xf + x < xt) = false := by simpa using hle
          have hwr : IntKind.i64.wrap (xf + x) = xf + x := by rw [IntKind.wrap_i64]; omega
          clear harc
          by_cases hxy : xt = xf + x
          · have g4 : (xt == xf + x) = true := by simpa using hxy
            clear hxy hle
            cases h
            · go_wp2
              go_quiet (fail)
              go_wp2
              go_region
              go_wp2
              go_roundw
              case rel => exact ⟨k + 1, by omega, by go_num, ⟨_, ((row_drewN (HHr.out.alloc _) _).set t _).congr (fun v hv => by by_cases e : v = t <;> simp [e]), HNx.out true (by simp) (by simp)⟩, (below_drewN (HBr.out.alloc (by omega) _) _).setCell (Nat.le_refl _) _⟩
              case measure => simp [intOf]; omega
            · go_wp2
              go_quiet (fail)
              go_wp2
              go_region
              go_wp2
              go_roundw
              case rel => exact ⟨k + 1, by omega, by go_num, ⟨_, ((row_drewN (HHr.out.alloc _) _).set t _).congr (fun v hv => by by_cases e : v = t <;> simp [e]), HNx.out true (by simp) (by simp)⟩, (below_drewN (HBr.out.alloc (by omega) _) _).setCell (Nat.le_refl _) _⟩
              case measure => simp [intOf]; omega
          · have g4 : (xt == xf + x) = false := by simpa using hxy
            have HXY : Hid (xt ≠ xf + x) := hxy
            clear hxy hle
            cases h
            · go_wp2
              go_quiet (fail)
              go_wp2
              go_region
              go_wp2
              go_roundw
              case rel => exact ⟨k + 1, by omega, by go_num, ⟨_, ((row_drewN (HHr.out.alloc _) _).set t _).congr (fun v hv => by by_cases e : v = t <;> simp [e]), HNx.out false (by simp) (fun _ h2 => absurd h2 HXY.out)⟩, (below_drewN (HBr.out.alloc (by omega) _) _).setCell (Nat.le_refl _) _⟩
              case measure => simp [intOf]; omega
            · go_wp2
              go_quiet (fail)
              go_wp2
              go_region
              go_wp2
              go_roundw
              case rel => exact ⟨k + 1, by omega, by go_num, ⟨_, ((row_drewN (HHr.out.alloc _) _).set t _).congr (fun v hv => by by_cases e : v = t <;> simp [e]), HNx.out true (by simp) (by simp)⟩, (below_drewN (HBr.out.alloc (by omega) _) _).setCell (Nat.le_refl _) _⟩
              case measure => simp [intOf]; omega
      · have hkk : k = l.length := by omega
        subst hkk
        have HHr : Hid (wr.rowIs w2.heap.size 4 N (fun v => .bool (H v))) := hH
        have HBr : Hid (Below w2.heap.size w2 wr) := hB
        have HT : Hid (∀ v, v < N → atb K v = true → H v = true) := fun v hv h0 => by
          by_cases e : v = s
          · rw [e]; exact hHs
          · obtain ⟨u, c, hm, _, h1, h2⟩ := HFr.out.hit HL.out hv h0 e
            exact hHit u v c (by rw [List.take_length]; exact hm) h1 h2
        clear hH hHit hB hHs
        go_wp2
        go_loopw [149] (fun i wr => ∃ v : Nat, v ≤ N ∧ i = .int .i64 v ∧ wr.rowIs w2.heap.size 4 N (fun v => .bool (H v)) ∧ Below w2.heap.size w2 wr) (fun i _ => N - (intOf i).toNat)
        case atStart => exact ⟨0, Nat.zero_le _, rfl, HHr.out, HBr.out⟩
        case round =>
          obtain ⟨v, hv, rfl, hH, hB⟩ := hrel
          clear HHr HBr
          have hz := hB.size
          have hHl := hH.lt
          by_cases hvN : v < N
          · have d1 := later hB (HK2.out v hvN) hbK
            have d2 := hH.cell (i := v) hvN
            have hbKr : bK < wr.heap.size := by omega
            have ht := HT.out v hvN
            generalize atb K v = x at *
            cases x
            · clear ht
              go_wp2
              go_roundw
              case rel => exact ⟨v + 1, by omega, by go_num, hH, hB⟩
              case measure => simp [intOf]; omega
            · rw [ht rfl] at d2
              clear ht
              go_wp2
              go_roundw
              case rel => exact ⟨v + 1, by omega, by go_num, hH, hB⟩
              case measure => simp [intOf]; omega
          · have hvv : N = v := by omega
            subst hvv
            have hbb3 := hbb2.trans (hB.mono (by omega))
            clear hH hB
            go_wp2
            go_ret
            exact ⟨rfl, hbb3⟩
  · have hE' : (err != 0) = true := by simpa using hE
    obtain ⟨rfl, rfl⟩ := hS2.none hE
    clear hE hS2
    go_wp2
    go_ret
    exact ⟨rfl, hbb2⟩

end Go.Proofs.Ytakemienlmlgkaa
