/- The laws' own helper shorts; and what follows of what From tells. -/
import Derived.Test.YtakemienlmlgkaaBools
import Derived.Test.YtakemienlmlgkaaLits
namespace Go.Proofs.Ytakemienlmlgkaa
open Go.RowKit
set_option linter.unusedVariables false

/-- by heights: no walk is shorter than its ends tell -/
theorem Wl.pot {l : List Arc3} {p : Int → Int} (hp : ∀ a ∈ l, p a.2.1 ≤ p a.1 + a.2.2) {s : Int} : ∀ {k : Nat} {x v : Int}, Wl l s k x v → p v ≤ p s + x
  | 0, x, v, h => by rw [h.1, h.2]; omega
  | k + 1, x, v, ⟨a, ha, hk, hv⟩ => by
    have h1 := Wl.pot hp hk
    have h2 := hp a ha
    rw [← hv]
    omega
theorem noLoop_pot {l : List Arc3} {p : Int → Int} (hp : ∀ a ∈ l, p a.2.1 ≤ p a.1 + a.2.2) (s : Int) : ¬ LoopFrom l s := by
  rintro ⟨v, _, k, x, h, hx⟩
  have := h.pot hp
  omega

theorem ext_atb {F G : List Bool} (hl : F.length = G.length) (h : ∀ v, v < F.length → atb F v = atb G v) : F = G := by
  apply List.ext_getElem hl
  intro i h1 h2
  have := h i h1
  rwa [atb_lt _ _ h1, atb_lt _ _ h2] at this

theorem FromIs.unique {N : Nat} {l : List Arc3} {s : Int} {F G : List Int} {K L : List Bool} (h : FromIs N l s F K) (h2 : FromIs N l s G L) : F = G ∧ K = L := by
  constructor
  · refine ext_ati (by rw [h.lenF, h2.lenF]) fun v hv => ?_
    rw [h.lenF] at hv
    rcases h.all v hv with ⟨_, e1, n1⟩ | ⟨_, ⟨k1, w1⟩, m1⟩ <;> rcases h2.all v hv with ⟨_, e2, n2⟩ | ⟨_, ⟨k2, w2⟩, m2⟩
    · rw [e1, e2]
    · exact absurd ⟨_, _, w2⟩ n1
    · exact absurd ⟨_, _, w1⟩ n2
    · have a1 := m1 _ _ w2
      have a2 := m2 _ _ w1
      omega
  · refine ext_atb (by rw [h.lenK, h2.lenK]) fun v hv => ?_
    rw [h.lenK] at hv
    exact Bool.eq_iff_iff.2 ((h.known hv).trans (h2.known hv).symm)

theorem FromIs.bound {N : Nat} {l : List Arc3} {s : Int} {F : List Int} {K : List Bool} (h : FromIs N l s F K) (hN : N ≤ 12) (hs : 0 ≤ s ∧ s < (N : Int))
    (hl : ∀ a ∈ l, (0 ≤ a.1 ∧ a.1 < (N : Int)) ∧ (0 ≤ a.2.1 ∧ a.2.1 < (N : Int)) ∧ -10000 ≤ a.2.2 ∧ a.2.2 ≤ 10000) {v : Nat} (hv : v < N) : -120000 ≤ ati F v ∧ ati F v ≤ 120000 := by
  have hl1 : ∀ a ∈ l, (0 ≤ a.1 ∧ a.1 < (N : Int)) ∧ (0 ≤ a.2.1 ∧ a.2.1 < (N : Int)) := fun a ha => ⟨(hl a ha).1, (hl a ha).2.1⟩
  rcases h.all v hv with ⟨_, e, _⟩ | ⟨_, ⟨k, hw⟩, hm⟩
  · omega
  · obtain ⟨k', x', h1, h2, h3⟩ := Wl.few hl1 hs (h.noLoop hl1 hs) hw
    have h4 := hm _ _ h3
    have h5 := h3.bound (M := 10000) fun a ha => (hl a ha).2.2
    omega

/-! ### shorts -/

def shL : List Arc3 := [(0, 1, 5), (0, 2, 4), (2, 1, -2)]
def shP (v : Int) : Int := if v = 1 then 2 else if v = 2 then 4 else 0
theorem shL_pot : ∀ a ∈ shL, shP a.2.1 ≤ shP a.1 + a.2.2 := by
  intro a ha
  simp only [shL, List.mem_cons, List.not_mem_nil, or_false] at ha
  rcases ha with rfl | rfl | rfl <;> decide
theorem shL_from : FromIs 3 shL 0 [0, 2, 4] [true, true, true] := by
  refine ⟨rfl, rfl, fun v hv => Or.inr ⟨?_, ?_, fun k x h => ?_⟩⟩
  · rcases (by omega : v = 0 ∨ v = 1 ∨ v = 2) with rfl | rfl | rfl <;> rfl
  · rcases (by omega : v = 0 ∨ v = 1 ∨ v = 2) with rfl | rfl | rfl
    · exact ⟨0, Wl.start _ _⟩
    · exact ⟨2, (((Wl.start shL 0).step (a := (0, 2, 4)) (by simp [shL])).step (a := (2, 1, -2)) (by simp [shL])).eq rfl (by decide)⟩
    · exact ⟨1, ((Wl.start shL 0).step (a := (0, 2, 4)) (by simp [shL])).eq rfl (by decide)⟩
  · have hp := h.pot shL_pot
    have h0 : shP 0 = 0 := by decide
    rcases (by omega : v = 0 ∨ v = 1 ∨ v = 2) with rfl | rfl | rfl
    · have h1 : shP ((0 : Nat) : Int) = 0 := by decide
      have h2 : ati [0, 2, 4] 0 = 0 := rfl
      omega
    · have h1 : shP ((1 : Nat) : Int) = 2 := by decide
      have h2 : ati [0, 2, 4] 1 = 2 := rfl
      omega
    · have h1 : shP ((2 : Nat) : Int) = 4 := by decide
      have h2 : ati [0, 2, 4] 2 = 4 := rfl
      omega

theorem shL_in {w : World} {ao : Option Addr} {cap : Nat} (hA : ArcsAt w ao shL) (h1 : 3 ≤ cap) (h2 : cap ≤ maxLen) : GraphIn w ao cap shL := by
  refine ⟨hA, h1, h2, fun e => ?_⟩
  obtain ⟨b, off, e', _⟩ := hA 0 (by decide)
  rw [e] at e'; cases e'

set_option maxHeartbeats 1000000 in
theorem shorts_any (hC : FromC) (w : World) : Calls Try.prog 18 #[] w fun e w' => e = .returned (.bool true) ∧ Below w.heap.size w w' := by
  have hE : graphErr 3 (-10000) shL = 0 := by decide
  go_enter Try.func18, Try.ntmps18
  go_wp2_with fail
  have hL := arcs_new w shL 53
  refine (arcs_any _ 3 shL _ hL (by decide)).mono ?_
  rintro e w1 ⟨hb1, ao', cap', rfl, hA', hfr, hcl, hcm⟩
  have hz := hb1.size
  simp only [World.size_alloc] at hz hb1 hfr
  have hll : shL.length = 3 := rfl
  rw [hll] at hcl ⊢
  have hbb1 := below_in hb1 (by omega)
  clear hL hb1 hfr
  have hG1 := shL_in hA' hcl hcm
  go_wp2_with fail
  refine (hC 3 0 ao' cap' shL _ hG1).mono ?_
  rintro e w2 ⟨hb2, a1, c1, F, a2, c2, K, err, rfl, hI, hK, hS⟩
  obtain ⟨rfl, hF⟩ := hS.ok hE (by decide) (noLoop_pot shL_pot 0)
  obtain ⟨rfl, rfl⟩ := FromIs.unique hF shL_from
  have hz2 := hb2.size
  have hbb2 := hbb1.trans (hb2.mono (by omega))
  have HI : Hid (IntsAt w2 a1 [0, 2, 4]) := hI
  have HK : Hid (BoolsAt w2 a2 [true, true, true]) := hK
  have HB : Hid (Below w.heap.size w w2) := hbb2
  have h00 : ((0 : Int) == 0) = true := rfl
  have hq := equalIntsB a1 (some ⟨w2.heap.size, 0, none⟩) c1 3 [0, 2, 4] [0, 2, 4] (w2.alloc (.cells #[.int .i64 0, .int .i64 2, .int .i64 4] 3)) (by decide) (by decide) (HI.out.alloc _) (ints_new w2 [0, 2, 4] 3)
  rw [decide_eq_true (rfl : ([0, 2, 4] : List Int) = [0, 2, 4])] at hq
  simp only [List.length_cons, List.length_nil, Nat.zero_add] at hq
  clear hI hK hS hF hb2 hbb2 hbb1 hG1 hA'
  go_wp2_with fail
  refine hq.mono ?_
  rintro e w3 ⟨rfl, hb3⟩
  have hz3 := hb3.size
  simp only [World.size_alloc] at hz3
  have HB3 : Hid (Below w.heap.size w w3) := (HB.out.alloc HB.out.size _).trans (hb3.mono (by have := HB.out.size; simp; omega))
  have HK3 : Hid (BoolsAt w3 a2 [true, true, true]) := (HK.out.alloc _).below hb3 (Nat.le_refl _)
  have hq2 := equalBools a2 (some ⟨w3.heap.size, 0, none⟩) c2 3 [true, true, true] [true, true, true] (w3.alloc (.cells #[.bool true, .bool true, .bool true] 4)) (by decide) (by decide) (HK3.out.alloc _) (bools_new w3 [true, true, true] 4)
  rw [decide_eq_true (rfl : ([true, true, true] : List Bool) = [true, true, true])] at hq2
  simp only [List.length_cons, List.length_nil, Nat.zero_add] at hq2
  clear hq hb3
  go_wp2_with fail
  refine hq2.mono ?_
  rintro e w4 ⟨rfl, q, rfl⟩
  go_wp2_with fail
  go_ret
  exact ⟨rfl, below_drewN (HB3.out.alloc HB3.out.size _) _⟩

end Go.Proofs.Ytakemienlmlgkaa
