/- Contracts of the document's own Value, and of the law's own helper 'right': is it a flow of that Value, and is that the greatest? -/
import Derived.Test.YtlfhnhfhaifchaaCapR
import Derived.Test.YtlfhnhfhaifchaaFlowRef
import Derived.Test.YtlfhnhfhaifchaaFlowC
namespace Go.Proofs.Ytlfhnhfhaifchaa
open Go.RowKit
set_option linter.unusedVariables false

set_option maxHeartbeats 400000 in
theorem refValue_any (N s t : Nat) (ao : Option Addr) (cap : Nat) (l : List Arc3) (w : World) (v : Int) (hE : netErr N s t l = 0) (hM : MaxIs N s t l v) (hA : ArcsAt w ao l) :
    Calls Try.prog 22 #[.agg #[.int .i64 (N : Int), .int .i64 (s : Int), .int .i64 (t : Int), .slice ao l.length cap]] w fun e w' => e = .returned (.int .i64 v) ∧ Below w.heap.size w w' := by
  have x0 := blk_new w (.cells #[.int .i64 (N : Int), .int .i64 (s : Int), .int .i64 (t : Int), .slice ao l.length cap] 24)
  have hq := refParted_any N s t ao cap l _ hE (hA.alloc (.cells #[.int .i64 (N : Int), .int .i64 (s : Int), .int .i64 (t : Int), .slice ao l.length cap] 24))
  have HM : Hid (∀ best lo hi, PartIs N s t l best lo hi → best = v) := fun best lo hi h => hM.part hE h
  clear hE hM hA
  obtain ⟨r0, r1, r2, r3⟩ := blk4 x0
  go_enter Try.func22, Try.ntmps22
  go_wp2_with fail
  refine hq.mono ?_
  clear hq
  rintro e w1 ⟨hb1, best, lo, hi, rfl, hP, _, _⟩
  obtain rfl := HM.out _ _ _ hP
  go_wp2
  go_ret
  exact ⟨rfl, below_in hb1 (by simp)⟩

/-- a right answer -/
structure RightIs (N s t : Nat) (l : List Arc3) (F : List Int) (v : Int) : Prop where
  net : netErr N s t l = 0
  flow : FlowIs N s t l F
  val : gone l (ati F) s = v
  most : MaxIs N s t l v

set_option maxHeartbeats 2000000 in
theorem right_any (N s t : Nat) (ao af : Option Addr) (cap capf : Nat) (l : List Arc3) (F : List Int) (v : Int) (w : World) (hR : RightIs N s t l F v) (hA : ArcsAt w ao l) (hF : IntsAt w af F) :
    Calls Try.prog 9 #[.agg #[.int .i64 (N : Int), .int .i64 (s : Int), .int .i64 (t : Int), .slice ao l.length cap], .slice af F.length capf, .int .i64 v] w fun e w' => e = .returned (.bool true) ∧ Below w.heap.size w w' := by
  obtain ⟨hE, hFl, hV, hM⟩ := hR
  obtain ⟨hge, hs, ht, hst⟩ := net_ok hE
  obtain ⟨⟨hn1, hn2⟩, hl60, hall⟩ := err_ok hge
  have x0 := blk_new w (.cells #[.int .i64 (N : Int), .int .i64 (s : Int), .int .i64 (t : Int), .slice ao l.length cap] 24)
  have hA0 := hA.alloc (.cells #[.int .i64 (N : Int), .int .i64 (s : Int), .int .i64 (t : Int), .slice ao l.length cap] 24)
  have hF0 := hF.alloc (.cells #[.int .i64 (N : Int), .int .i64 (s : Int), .int .i64 (t : Int), .slice ao l.length cap] 24)
  have hmx : l.length ≤ maxLen := by unfold maxLen; omega
  have h1 : flowErr N s t l F = 0 := flow_mk hE (by rw [Int.toNat_natCast]; exact hFl)
  have hq1 := refFlowErr_any N s t ao af cap capf l F _ hmx (by rw [hFl.len]; exact hmx) hA0 hF0
  rw [h1, hFl.len] at hq1
  have HQ2 : Hid (∀ W : World, ArcsAt W ao l → IntsAt W af F → Calls Try.prog 21 #[.agg #[.int .i64 (N : Int), .int .i64 (s : Int), .int .i64 (t : Int), .slice ao l.length cap], .slice af l.length capf, .int .i64 (s : Int)] W fun e w' => e = .returned (.int .i64 v) ∧ Below W.heap.size W w') := fun W hA hF => by
    have := refGone_any N s t s ao af cap capf l F W hl60 hFl.len hA hF (fun k hk => by
      have a1 := hFl.bnd k hk
      have a2 := (hall _ (at3_mem l k hk)).2.2
      omega)
    rwa [hV] at this
  have HQ3 : Hid (∀ W : World, ArcsAt W ao l → Calls Try.prog 22 #[.agg #[.int .i64 (N : Int), .int .i64 (s : Int), .int .i64 (t : Int), .slice ao l.length cap]] W fun e w' => e = .returned (.int .i64 v) ∧ Below W.heap.size W w') := fun W hA => refValue_any N s t ao cap l W v hE hM hA
  rw [hFl.len]
  have e1 : ((0 : Int) == 0) = true := rfl
  have e2 : (v == v) = true := by simp
  clear hE hFl hV hM hge hs ht hst hn1 hn2 hall hA hF h1
  obtain ⟨r0, r1, r2, r3⟩ := blk4 x0
  go_enter Try.func9, Try.ntmps9
  go_wp2_with fail
  refine hq1.mono ?_
  clear hq1
  rintro e w1 ⟨rfl, hb1⟩
  have hz1 := hb1.size
  simp only [World.size_alloc] at hz1 hb1
  have x1 := blk_below hb1 x0 (by omega)
  have hA1 := hA0.below hb1 (by simp)
  have hF1 := hF0.below hb1 (by simp)
  have hB1 : Below w.heap.size w w1 := below_in hb1 (by omega)
  clear r0 r1 r2 r3 x0 hb1 hA0 hF0
  obtain ⟨r0, r1, r2, r3⟩ := blk4 x1
  have hq2 := HQ2.out w1 hA1 hF1
  go_wp2_with fail
  refine hq2.mono ?_
  clear hq2
  rintro e w2 ⟨rfl, hb2⟩
  have hz2 := hb2.size
  have x2 := blk_below hb2 x1 (by omega)
  have hA2 := hA1.below hb2 (Nat.le_refl _)
  have hB2 : Below w.heap.size w w2 := hB1.trans (hb2.mono (by omega))
  clear r0 r1 r2 r3 x1 hb2 hA1 hF1 hB1
  obtain ⟨r0, r1, r2, r3⟩ := blk4 x2
  have hq3 := HQ3.out w2 hA2
  go_wp2_with fail
  refine hq3.mono ?_
  clear hq3
  rintro e w3 ⟨rfl, hb3⟩
  have HB : Hid (Below w.heap.size w w3) := hB2.trans (hb3.mono (by omega))
  clear r0 r1 r2 r3 x2 hb3 hA2 hB2
  go_wp2
  go_ret
  exact ⟨rfl, HB.out⟩

end Go.Proofs.Ytlfhnhfhaifchaa
