/- What each law of the whole asks first: a net of two arcs, what goes through it, and its least side. -/
import Derived.Test.YtmneajmfoljflaaCutC
import Derived.Test.YtmneajmfoljflaaJoinedA
namespace Go.Proofs.Ytmneajmfoljflaa
open Go.RowKit
set_option linter.unusedVariables false

def topL : List Arc3 := [(0, 1, 4), (1, 2, 3)]
theorem top_net : netErr 3 0 2 topL = 0 := by decide
theorem top_part : PartIs 3 0 2 topL 3 3 3 := by
  have hone : ∀ x : Nat, x < 8 → (Nat.testBit x 0 = true ∧ Nat.testBit x 2 = false) → capS (x : Int) topL = 3 → x = 3 := by decide
  have hle : ∀ x : Nat, x < 8 → (Nat.testBit x 0 = true ∧ Nat.testBit x 2 = false) → 3 ≤ capS (x : Int) topL := by decide
  have h7 : SideN 0 2 3 := ⟨by decide, by decide⟩
  have v7 : capS ((3 : Nat) : Int) topL = 3 := by decide
  exact ⟨⟨3, by decide, h7, v7⟩, fun x hx hs => hle x hx hs, fun v => ⟨fun a x hx hs hv => by rw [hone x hx hs hv]; exact a, fun a => a 3 (by decide) h7 v7⟩,
    fun v => ⟨fun a => ⟨3, by decide, h7, v7, a⟩, fun ⟨x, hx, hs, hv, a⟩ => by rw [hone x hx hs hv] at a; exact a⟩⟩

set_option maxHeartbeats 4000000 in
set_option maxRecDepth 100000 in
theorem works_any (hM : MOfC) (hL : CLeastC) (w : World) : Calls Try.prog 19 #[] w fun e w' => e = .returned (.bool true) ∧ Below w.heap.size w w' := by
  have hA := arcs_new w topL 47
  have hB0 := below_one w (.cells (flat topL).toArray 47)
  have hf : (flat topL).toArray = #[.int .i64 0, .int .i64 1, .int .i64 4, .int .i64 1, .int .i64 2, .int .i64 3] := rfl
  have hlen : topL.length = 2 := rfl
  have HG : Hid (∀ x : World, Below (w.heap.size + 1) (w.alloc (.cells (flat topL).toArray 47)) x → GraphIn x (some ⟨w.heap.size, 0, none⟩) 2 topL) := fun x h =>
    ⟨hA.below h (by simp), by rw [hlen]; exact Nat.le_refl _, by unfold maxLen; omega, fun e => by cases e⟩
  rw [hf] at hB0
  have HX : Hid ((flat topL).toArray = #[.int .i64 0, .int .i64 1, .int .i64 4, .int .i64 1, .int .i64 2, .int .i64 3]) := hf
  have HG2 : Hid (∀ x : World, Below (w.heap.size + 1) (w.alloc (.cells #[.int .i64 0, .int .i64 1, .int .i64 4, .int .i64 1, .int .i64 2, .int .i64 3] 47)) x → GraphIn x (some ⟨w.heap.size, 0, none⟩) 2 topL) := by
    rw [← HX.out]; exact HG.out
  have HB0 : Hid (Below w.heap.size w (w.alloc (.cells #[.int .i64 0, .int .i64 1, .int .i64 4, .int .i64 1, .int .i64 2, .int .i64 3] 47))) := hB0
  clear hA hf HG HX hB0 hlen
  go_enter Try.func19, Try.ntmps19
  go_wp2_with fail
  obtain ⟨W, hW⟩ : ∃ W, (w.alloc (.cells #[.int .i64 0, .int .i64 1, .int .i64 4, .int .i64 1, .int .i64 2, .int .i64 3] 47)).alloc (.cells #[.int .i64 3, .int .i64 0, .int .i64 2, .slice (some ⟨w.heap.size, 0, none⟩) 2 2] 43) = W := ⟨_, rfl⟩
  rw [hW]
  have hBW : Below (w.heap.size + 1) (w.alloc (.cells #[.int .i64 0, .int .i64 1, .int .i64 4, .int .i64 1, .int .i64 2, .int .i64 3] 47)) W := by
    rw [← hW]
    have := below_one (w.alloc (.cells #[.int .i64 0, .int .i64 1, .int .i64 4, .int .i64 1, .int .i64 2, .int .i64 3] 47)) (.cells #[.int .i64 3, .int .i64 0, .int .i64 2, .slice (some ⟨w.heap.size, 0, none⟩) 2 2] 43)
    rw [World.size_alloc] at this
    exact this
  have x0 : W.heap[w.heap.size + 1]? = some (.cells #[.int .i64 3, .int .i64 0, .int .i64 2, .slice (some ⟨w.heap.size, 0, none⟩) 2 2] 43 (0, 0)) := by
    rw [← hW]
    have := blk_new (w.alloc (.cells #[.int .i64 0, .int .i64 1, .int .i64 4, .int .i64 1, .int .i64 2, .int .i64 3] 47)) (.cells #[.int .i64 3, .int .i64 0, .int .i64 2, .slice (some ⟨w.heap.size, 0, none⟩) 2 2] 43)
    rw [World.size_alloc] at this
    exact this
  have HBW : Hid (Below w.heap.size w W) := HB0.out.trans (hBW.mono (by omega))
  have HGW : Hid (GraphIn W (some ⟨w.heap.size, 0, none⟩) 2 topL) := HG2.out W hBW
  have hz0 : w.heap.size + 1 < W.heap.size := by rw [← hW]; simp
  have hq := hM 3 0 2 (some ⟨w.heap.size, 0, none⟩) 2 topL W HGW.out
  rw [top_net] at hq
  clear hW hBW HG2 HB0
  refine Calls.mono hq ?_
  clear hq
  rintro e w2 ⟨hb2, a2, c2, F2, v, rfl, _, hT2⟩
  have hz2 := hb2.size
  have hmx : MaxIs 3 0 2 topL v := hT2.most rfl
  have hv : (3 : Int) = v := MaxIs.part (N := 3) (s := 0) (t := 2) top_net hmx top_part
  subst hv
  have x2 := blk_below hb2 x0 hz0
  obtain ⟨r0, r1, r2, r3⟩ := blk4 x2
  have HB2 : Hid (Below w.heap.size w w2) := HBW.out.trans (hb2.mono (by omega))
  have hq := hL 3 0 2 (some ⟨w.heap.size, 0, none⟩) 2 topL w2 (HGW.out.below hb2 (Nat.le_refl _))
  rw [top_net] at hq
  clear hT2 hmx hb2 HBW HGW x0 x2
  go_wp2_with fail
  refine Calls.mono hq ?_
  clear hq
  rintro e w3 ⟨hb3, x, v, rfl, hT⟩
  have HB3 : Hid (Below w.heap.size w w3) := HB2.out.trans (hb3.mono (by omega))
  obtain ⟨hi, hp⟩ := hT.some top_net
  obtain ⟨e1, e2, _⟩ := PartIs.unique hp top_part
  subst e1
  subst e2
  clear hb3 hp hT HB2 r0 r1 r2 r3
  have g1 : ((0 : Int) == 0) = true := rfl
  have g2 : ((3 : Int) == 3) = true := rfl
  go_wp2
  go_ret
  exact ⟨rfl, HB3.out⟩

end Go.Proofs.Ytmneajmfoljflaa
