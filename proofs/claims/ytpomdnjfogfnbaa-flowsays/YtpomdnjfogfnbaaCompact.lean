/- The library's compact of integers, laid at this program out of the library's own contract. -/
import Derived.Shelf.Slices.CompactI
import Derived.Sort.OwnSortedInts
import Derived.Test.YtpomdnjfogfnbaaRows
import Derived.Test.YtpomdnjfogfnbaaOwns
namespace Go.Proofs.Ytpomdnjfogfnbaa
open Go.Shelf Go.RowKit
set_option linter.unusedVariables false

def laysNm220_ren : Go.Shelf.Ren := ⟨fun | 20 => 29 | n => n, fun | 22 => 25 | 3 => 3 | 4 => 4 | 0 => 0 | n => n, fun | n => n⟩
theorem laysNm220 : Go.Proofs.Lays2.n20 Try.prog laysNm220_ren := {
  mixed := by kernel_rfl
  f20 := Try.func29.trans (congrArg some (by kernel_rfl))
  t0 := Try.underlying0
  a0 := Try.isAgg0
  z0 := Try.sizeOf0
  v0 := Try.zeroValue0
  t3 := Try.underlying3
  a3 := Try.isAgg3
  z3 := Try.sizeOf3
  v3 := Try.zeroValue3
  t4 := Try.underlying4
  a4 := Try.isAgg4
  z4 := Try.sizeOf4
  v4 := Try.zeroValue4
  t22 := Try.underlying25
  a22 := Try.isAgg25
  z22 := Try.sizeOf25
  v22 := Try.zeroValue25
  i3 := by kernel_rfl }

theorem grownBy_compact {w : World} {g n : Nat} (d : Array Int) : w.grownBy (Sort.putRow (Value.int .i64) (Sort.ahead w n) g 0 d) (some g) := by
  refine ⟨rfl, rfl, rfl, by simp [Sort.putRow, Sort.mapBlock, Sort.ahead], fun k hk hne => ?_⟩
  have : g ≠ k := fun e => hne (by rw [e])
  simp [Sort.putRow, Sort.mapBlock, Sort.ahead, Array.getElem?_modify, this]

theorem compactInts (B : Nat) (v : Value) (zs : List Int) (w : World) (hown : w.ownsRow B 3 1 v zs.length (flati zs)) (hB : B ≤ w.heap.size) (h0 : 0 < zs.length) (hlen : zs.length ≤ 60) :
    Calls Try.prog 29 #[v] w fun e w' => ∃ ao cap, e = .returned (.slice ao (Lib.compact zs).length cap) ∧ Below B w w' := by
  rcases hown.2 with ⟨_, h⟩ | ⟨g, cap, cur, rfl, hb, hcur, hn, hc, hsz, htk⟩
  · omega
  · rw [Nat.mul_one] at htk
    refine (Any.slices_Compact_int laysNm220 g 0 cap zs w (holds_of_blockI hcur htk) (by omega) hn).mono ?_
    rintro e w' ⟨rfl, q, rfl⟩
    exact ⟨_, _, rfl, (Below.refl B w).grown (grownBy_compact _) hB (fun k e => by cases e; exact hb)⟩

end Go.Proofs.Ytpomdnjfogfnbaa
