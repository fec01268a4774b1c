/- The law WalkSteps, walked, out of the contract of Far. -/
import Derived.Test.YtbnagipapgonpaaWalks
import Derived.Test.YtbnagipapgonpaaRowK
import Derived.BigRegion
namespace Go.Proofs.Ytbnagipapgonpaa
open Go.RowKit
set_option linter.unusedVariables false

theorem infoBool : (Try.prog.info? 4).map (fun i => (i.zero, i.size, i.bytes)) = some (some (.bool false), 1, 1) := by kernel_rfl

def zerb (k : Nat) : Array Value := madeCells #[.bool false] k

theorem make_bools (n : Nat) (hn : n * 8 ≤ 281474976710656) (w : World) :
    (Instr.makeSlice 42 (.int .i64 (n : Int)) (.int .i64 (n : Int))).run Try.prog w = .ok (.slice (some ⟨w.heap.size, 0, none⟩) n n) (w.alloc (.cells (zerb n) 4)) :=
  run_make_row' 42 4 (.bool false) 1 Try.underlying42 infoBool rfl .i64 .i64 n (by omega) (by omega) w

theorem zerb_row (w : World) (n : Nat) (t : TypeId) : (w.alloc (.cells (zerb n) t)).rowIs w.heap.size t n (fun _ => .bool false) := World.rowIs_made w (.bool false) n t

theorem zerb_at (w : World) (k j : Nat) (h : j < k) : (zerb k)[j]? = some (.bool false) := by
  have := (zerb_row w k 0).cell (i := j) h
  rwa [newest] at this

theorem zerb_one (w : World) (N s : Nat) (t : TypeId) : (w.alloc (.cells ((zerb N).setIfInBounds s (.bool true)) t)).rowIs w.heap.size t N (fun v => .bool (decide (v = s))) := by
  have hs : (zerb N).size = N := by simp [zerb, size_madeCells]
  have q := World.rowIs_alloc w ((zerb N).setIfInBounds s (.bool true)) t (fun v => .bool (decide (v = s))) (fun i hi => by
    have hi' : i < N := by simpa [hs] using hi
    rw [Array.getElem?_setIfInBounds]
    by_cases e : s = i
    · subst e; simp [hs, hi']
    · rw [if_neg e, zerb_at w N i hi']; simp [show ¬ i = s from fun h => e h.symm])
  simpa [hs] using q

/-- who has been hit by the first k arcs -/
def HitTo (F : List Int) (l : List Arc3) (k : Nat) (H : Nat → Bool) : Prop :=
  ∀ (u v : Nat) (c : Int), ((u : Int), (v : Int), c) ∈ l.take k → 0 ≤ ati F u → ati F v = ati F u + 1 → H v = true

theorem hit_next {F : List Int} {l : List Arc3} {k : Nat} {H : Nat → Bool} (h : HitTo F l k H) (hk : k < l.length) {f t : Nat} {c : Int} (ha : at3 l k = ((f : Int), (t : Int), c)) {b : Bool}
    (h1 : H t = true → b = true) (h2 : 0 ≤ ati F f → ati F t = ati F f + 1 → b = true) : HitTo F l (k + 1) (fun v => if v = t then b else H v) := by
  intro u v c' hm h3 h4
  rw [take_snoc3 l k hk] at hm
  rcases List.mem_append.1 hm with hm | hm
  · have := h u v c' hm h3 h4
    by_cases e : v = t
    · subst e; simp [h1 this]
    · simp [e, this]
  · rw [List.mem_singleton, ha, Prod.mk.injEq, Prod.mk.injEq] at hm
    obtain ⟨e1, e2, _⟩ := hm
    obtain rfl : u = f := by omega
    obtain rfl : v = t := by omega
    simp [h2 h3 h4]

set_option maxHeartbeats 4000000 in
set_option maxRecDepth 100000 in
theorem WalkSteps_any (hC : FarC) (n s : Int) (ao : Option Addr) (cap : Nat) (l : List Arc3) (w : World) (hG : GraphIn w ao cap l) :
    Calls Try.prog 5 #[.agg #[.int .i64 n, .slice ao l.length cap], .int .i64 s] w fun e w' => e = .returned (.bool true) ∧ Below w.heap.size w w' := by
  have hm := hG.len
  have hG0 := hG.alloc (.cells #[.int .i64 n, .slice ao l.length cap] 24)
  have x0 := blk_new w (.cells #[.int .i64 n, .slice ao l.length cap] 24)
  have h00 : ((0 : Int) != 0) = false := rfl
  go_enter Try.func5, Try.ntmps5
  go_wp2_with fail
  refine (walks_any hC _).mono ?_
  rintro e w1 ⟨rfl, hb1⟩
  simp only [World.size_alloc] at hb1
  have hz1 := hb1.size
  simp only [World.size_alloc] at hz1
  have x1 := blk_below hb1 x0 (by omega)
  have hG1 := hG0.below hb1 (by simp)
  have hbb1 := below_in hb1 (by omega)
  clear hb1 x0 hG0
  obtain ⟨r0, r1, f0, f1⟩ := blk2 x1
  go_wp2_with fail
  refine (hC n s ao cap l _ hG1).mono ?_
  rintro e w2 ⟨hb2, ao2, cap2, F, rfl, hF2, hn2, hy2⟩
  have hz2 := hb2.size
  have x2 := blk_below hb2 x1 (by omega)
  have hG2 := hG1.below hb2 (by omega)
  have hbb2 := hbb1.trans (hb2.mono (by omega))
  clear hb2 x1 hG1 hbb1 r0 r1 f0 f1
  obtain ⟨r0, r1, f0, f1⟩ := blk2 x2
  by_cases hE : farErr n l s = 0
  · have hFar := hy2 hE
    obtain ⟨hg, hs0, hs1⟩ := farErr_ok hE
    obtain ⟨⟨hn1, hn2'⟩, hlen, hnodes⟩ := err_ok hg
    obtain ⟨N, rfl⟩ := Int.eq_ofNat_of_zero_le (show 0 ≤ n by omega)
    obtain ⟨s, rfl⟩ := Int.eq_ofNat_of_zero_le hs0
    rw [Int.toNat_natCast] at hFar
    have hsN : s < N := by omega
    have HL : Hid (∀ a ∈ l, (0 ≤ a.1 ∧ a.1 < (N : Int)) ∧ (0 ≤ a.2.1 ∧ a.2.1 < (N : Int))) := fun a ha => ⟨(hnodes a ha).1, (hnodes a ha).2.1⟩
    have HFar : Hid (FarIs N l s F) := hFar
    have HFl : Hid (F.length = N) := hFar.len
    obtain ⟨bF, oF, rfl, hbF, q0⟩ := hF2 s (by rw [HFl.out]; exact hsN)
    rw [hFar.first hsN] at q0
    have HF2 : Hid (∀ v, v < N → w2.cell? ⟨bF, oF + v, none⟩ = some (.int .i64 (ati F v))) := fun v hv => by
      obtain ⟨b', o', e', _, c⟩ := hF2 v (by rw [HFl.out]; exact hv)
      cases e'
      exact c
    have HG2 : Hid (ArcsAt w2 ao l) := hG2.arcs
    have HX2 : Hid (w2.heap[w.heap.size]? = some (.cells #[.int .i64 (N : Int), .slice ao l.length cap] 24 (0, 0))) := x2
    have hmk := make_bools N (by omega)
    have hzb := zerb_at w N s hsN
    have hNN : ((N : Int) != (N : Int)) = false := by simp
    have hw2 : w.heap.size < w2.heap.size := by omega
    rw [hE, HFl.out]
    clear hn2 hy2 hE hFar hF2 hG2 x2 hnodes hg
    go_wp2
    have HH : Hid ((w2.alloc (.cells ((zerb N).setIfInBounds s (.bool true)) 4)).rowIs w2.heap.size 4 N (fun v => .bool (decide (v = s)))) := zerb_one w2 N s _
    have HBl : Hid (Below w2.heap.size w2 (w2.alloc (.cells ((zerb N).setIfInBounds s (.bool true)) 4))) := below_one _ _
    clear hmk hzb q0
    go_loopw [46] (fun i wr => ∃ k : Nat, k ≤ l.length ∧ i = .int .i64 k ∧ (∃ H, wr.rowIs w2.heap.size 4 N (fun v => .bool (H v)) ∧ HitTo F l k H) ∧ Below w2.heap.size w2 wr) (fun i _ => l.length - (intOf i).toNat)
    case atStart => exact ⟨0, Nat.zero_le _, rfl, ⟨_, HH.out, fun u v c h => by simp at h⟩, HBl.out⟩
    case round =>
      obtain ⟨k, hk, rfl, ⟨H, hH, hHit⟩, hB⟩ := hrel
      clear HH HBl r0 r1 f0 f1
      have hz := hB.size
      have hHl := hH.lt
      by_cases hkl : k < l.length
      · obtain ⟨ba, off, rfl, hba, c0, c1, c2⟩ := HG2.out.below hB (by omega) k hkl
        have hmem := at3_mem l k hkl
        obtain ⟨a, ha⟩ : ∃ a, at3 l k = a := ⟨_, rfl⟩
        rw [ha] at c0 c1 c2 hmem
        obtain ⟨f, t, x⟩ := a
        obtain ⟨⟨p1, p2⟩, p3, p4⟩ := HL.out _ hmem
        simp only at c0 c1 c2 p1 p2 p3 p4
        obtain ⟨f, rfl⟩ := Int.eq_ofNat_of_zero_le p1
        obtain ⟨t, rfl⟩ := Int.eq_ofNat_of_zero_le p3
        have hf : f < N := by omega
        have ht : t < N := by omega
        have d0 := later hB (HF2.out f hf) hbF
        have d1 := later hB (HF2.out t ht) hbF
        have d2 := hH.cell (i := t) ht
        have d3 := hH.frozen t
        have hbFr : bF < wr.heap.size := by omega
        have hbFn : bF ≠ w2.heap.size := by omega
        have HHr : Hid (wr.rowIs w2.heap.size 4 N (fun v => .bool (H v))) := hH
        have HBr : Hid (Below w2.heap.size w2 wr) := hB
        have hxb := HFar.out.bounds hf
        have hxl := HFar.out.lt HL.out hf
        have harc := fun h => HFar.out.arc hmem hf ht h
        have HNx : Hid (∀ b : Bool, (H t = true → b = true) → (0 ≤ ati F f → ati F t = ati F f + 1 → b = true) → HitTo F l (k + 1) (fun v => if v = t then b else H v)) := fun b h1 h2 => hit_next hHit hkl ha h1 h2
        obtain ⟨xf, hxf⟩ : ∃ x, ati F f = x := ⟨_, rfl⟩
        obtain ⟨xt, hxt⟩ : ∃ x, ati F t = x := ⟨_, rfl⟩
        obtain ⟨h, hh⟩ : ∃ h, H t = h := ⟨_, rfl⟩
        rw [hxf] at d0 hxb hxl harc HNx
        rw [hxt] at d1 harc HNx
        rw [hh] at d2 HNx
        clear hH hHit hB ha hmem hxf hxt hh
        by_cases hx0 : 0 ≤ xf
        · obtain ⟨hy0, hy1⟩ := harc hx0
          have g1 : decide (0 ≤ xf) = true := by simpa using hx0
          have g2 : decide (xt < 0) = false := by simpa using hy0
          have g3 : decide (xf + 1 < xt) = false := by simpa using hy1
          clear harc
          by_cases hxy : xt = xf + 1
          · have g4 : (xt == xf + 1) = true := by simpa using hxy
            clear hxy hy0 hy1
            cases h
            · go_wp2
              go_quiet (fail)
              go_wp2
              go_region
              go_wp2
              go_roundw
              case rel => exact ⟨k + 1, by omega, by go_num, ⟨_, ((row_drewN (HHr.out.alloc _) _).set t _).congr fun v hv => by by_cases e : v = t <;> simp [e], HNx.out true (by simp) (by simp)⟩, (below_drewN (HBr.out.alloc (by omega) _) _).setCell (Nat.le_refl _) _⟩
              case measure => simp [intOf]; omega
            · go_wp2
              go_quiet (fail)
              go_wp2
              go_region
              go_wp2
              go_roundw
              case rel => exact ⟨k + 1, by omega, by go_num, ⟨_, ((row_drewN (HHr.out.alloc _) _).set t _).congr fun v hv => by by_cases e : v = t <;> simp [e], HNx.out true (by simp) (by simp)⟩, (below_drewN (HBr.out.alloc (by omega) _) _).setCell (Nat.le_refl _) _⟩
              case measure => simp [intOf]; omega
          · have g4 : (xt == xf + 1) = false := by simpa using hxy
            have HXY : Hid (¬ (0 ≤ xf ∧ xt = xf + 1)) := fun h => hxy h.2
            clear hxy hy0 hy1
            cases h
            · go_wp2
              go_quiet (fail)
              go_wp2
              go_region
              go_wp2
              go_roundw
              case rel => exact ⟨k + 1, by omega, by go_num, ⟨_, ((row_drewN (HHr.out.alloc _) _).set t _).congr fun v hv => by by_cases e : v = t <;> simp [e], HNx.out false (by simp) (fun h1 h2 => absurd ⟨h1, h2⟩ HXY.out)⟩, (below_drewN (HBr.out.alloc (by omega) _) _).setCell (Nat.le_refl _) _⟩
              case measure => simp [intOf]; omega
            · go_wp2
              go_quiet (fail)
              go_wp2
              go_region
              go_wp2
              go_roundw
              case rel => exact ⟨k + 1, by omega, by go_num, ⟨_, ((row_drewN (HHr.out.alloc _) _).set t _).congr fun v hv => by by_cases e : v = t <;> simp [e], HNx.out true (by simp) (by simp)⟩, (below_drewN (HBr.out.alloc (by omega) _) _).setCell (Nat.le_refl _) _⟩
              case measure => simp [intOf]; omega
        · have g1 : decide (0 ≤ xf) = false := by simpa using hx0
          have HXY : Hid (¬ (0 ≤ xf ∧ xt = xf + 1)) := fun h => hx0 h.1
          clear harc
          cases h
          · go_wp2
            go_quiet (fail)
            go_wp2
            go_region
            go_wp2
            go_roundw
            case rel => exact ⟨k + 1, by omega, by go_num, ⟨_, ((row_drewN (HHr.out.alloc _) _).set t _).congr fun v hv => by by_cases e : v = t <;> simp [e], HNx.out false (by simp) (fun h1 h2 => absurd ⟨h1, h2⟩ HXY.out)⟩, (below_drewN (HBr.out.alloc (by omega) _) _).setCell (Nat.le_refl _) _⟩
            case measure => simp [intOf]; omega
          · go_wp2
            go_quiet (fail)
            go_wp2
            go_region
            go_wp2
            go_roundw
            case rel => exact ⟨k + 1, by omega, by go_num, ⟨_, ((row_drewN (HHr.out.alloc _) _).set t _).congr fun v hv => by by_cases e : v = t <;> simp [e], HNx.out true (by simp) (by simp)⟩, (below_drewN (HBr.out.alloc (by omega) _) _).setCell (Nat.le_refl _) _⟩
            case measure => simp [intOf]; omega
      · have hkk : k = l.length := by omega
        subst hkk
        have HHr : Hid (wr.rowIs w2.heap.size 4 N (fun v => .bool (H v))) := hH
        have HBr : Hid (Below w2.heap.size w2 wr) := hB
        have HT : Hid (∀ v, v < N → 0 < ati F v → H v = true) := fun v hv h0 => by
          obtain ⟨u, c, hm, _, h1, h2⟩ := HFar.out.hit HL.out hv h0
          exact hHit u v c (by rw [List.take_length]; exact hm) h1 h2
        clear hH hHit hB
        go_wp2
        go_loopw [112] (fun i wr => ∃ v : Nat, v ≤ N ∧ i = .int .i64 v ∧ wr.rowIs w2.heap.size 4 N (fun v => .bool (H v)) ∧ Below w2.heap.size w2 wr) (fun i _ => N - (intOf i).toNat)
        case atStart => exact ⟨0, Nat.zero_le _, rfl, HHr.out, HBr.out⟩
        case round =>
          obtain ⟨v, hv, rfl, hH, hB⟩ := hrel
          clear HHr HBr
          have hz := hB.size
          have hHl := hH.lt
          by_cases hvN : v < N
          · have d1 := later hB (HF2.out v hvN) hbF
            have d2 := hH.cell (i := v) hvN
            have hbFr : bF < wr.heap.size := by omega
            have hxb := HFar.out.bounds hvN
            have hxl := HFar.out.lt HL.out hvN
            have hz0 := HFar.out.zero hvN
            have ht := HT.out v hvN
            have x4 := blk_below hB HX2.out (by omega)
            obtain ⟨r0, r1, f0, f1⟩ := blk2 x4
            have hwr : w.heap.size < wr.heap.size := by omega
            generalize ati F v = x at *
            have g1 : decide ((N : Int) ≤ x) = false := by simpa using hxl
            clear x4
            rcases (by omega : x < 0 ∨ x = 0 ∨ 0 < x) with hx | hx | hx
            · clear hz0 ht
              go_wp2
              go_roundw
              case rel => exact ⟨v + 1, by omega, by go_num, hH, hB⟩
              case measure => simp [intOf]; omega
            · have hvs := hz0 hx
              subst hx
              obtain rfl : v = s := by omega
              have g2 : ((v : Int) != (v : Int)) = false := by simp
              clear hz0 ht hvs
              go_wp2
              go_roundw
              case rel => exact ⟨v + 1, by omega, by go_num, hH, hB⟩
              case measure => simp [intOf]; omega
            · rw [ht hx] at d2
              have g3 : (x == 0) = false := by simp; omega
              clear hz0 ht
              go_wp2
              go_roundw
              case rel => exact ⟨v + 1, by omega, by go_num, hH, hB⟩
              case measure => simp [intOf]; omega
          · have hvv : N = v := by omega
            subst hvv
            have hbb3 := hbb2.trans (hB.mono (by omega))
            clear hH hB
            go_wp2
            go_ret
            exact ⟨rfl, hbb3⟩
  · have hE' : (farErr n l s != 0) = true := by simpa using hE
    have hFn := hn2 hE
    subst hFn
    clear hn2 hy2 hE hF2
    go_wp2
    go_ret
    exact ⟨rfl, hbb2⟩

end Go.Proofs.Ytbnagipapgonpaa
