/- The law MostCut returns true for every net, every side and every list of numbers, and leaves them as they were: no more goes than any side takes, and no flow has more. No condition. -/
import Derived.Test.YtfmlgepoiaehgaaMostCut
import Derived.Test.YtfmlgepoiaehgaaMMore
import Derived.Test.YtfmlgepoiaehgaaCutK
import Derived.Test.YtfmlgepoiaehgaaOpen
import Derived.Test.YtfmlgepoiaehgaaOpenInts
import Derived.Test.YtfmlgepoiaehgaaOpenNet
namespace Go.Proofs.Ytfmlgepoiaehgaa.mostCut
open Go.ChangeShapes Go.WideShapes Go.ChangeAt Go.RowKit
set_option linter.unusedVariables false

set_option maxRecDepth 100000 in
theorem lifted (os : Os) (started : os.Started) (H : Type) (enc : TypeId × Value → H) :
    ReturnsInHanded {} Try.checked os 4 .any (Rows.mostCutSpec.pre6 enc Try.prog Try.f4 Rows.mostCutRow.domain false) (Rows.mostCutSpec.post enc Try.prog Try.f4 false true false false) := by
  refine returnsInHanded_of_change_sized (C := Try.checked) own started (by kernel_rfl) Try.func4
    (ChangeSpec.witness6 (enc := enc) (C := Try.checked) false ⟨#[], #[.agg #[.int .i64 0, .int .i64 0, .int .i64 0, .slice none 0 0], .int .u16 0, .slice none 0 0], []⟩ 8 (by kernel_rfl) (by kernel_rfl) (by kernel_rfl) (by kernel_rfl)) ?_
  intro W base args ds gs before hval0 hW hcnd hsz0 _
  have hval : ∀ (j : Nat) t v, Try.f4.params[j]? = some t → args[j]? = some v → Value.okWide Try.prog W .any base t v := hval0
  have hW' := hW
  obtain ⟨p, q, hA0, hV, rfl, hfz, hnd⟩ := hW
  have hA : DataW.TrodAll enc Try.prog W 0 (fun _ => true) true Try.f4.params.toList args.toList ds p := hA0
  have hsz : (DataW.weightsEach Try.prog (Try.f4.params.toList ++ Rows.mostCutSpec.plain.varTypes Try.prog) (ds ++ gs)).all (· ≤ reachBytes) = true := hsz0
  rw [Try.params4] at hA hval hsz
  obtain ⟨v0, vs0, d0, ds0, p0, q0, hargs, rfl, rfl, h0, r0⟩ := trodAll_cons hA
  obtain ⟨v1, vs1, d1, ds1, p1, q1, rfl, rfl, rfl, h1, r1⟩ := trodAll_cons r0
  obtain ⟨v2, vs2, d2, ds2, p2, q2, rfl, rfl, rfl, h2, r2⟩ := trodAll_cons r1
  obtain ⟨rfl, rfl, rfl⟩ := trodAll_nil r2
  obtain rfl : args = #[v0, v1, v2] := by cases args; simp_all
  obtain ⟨rfl, rfl⟩ := trodVars_none hV
  have wz0 : ∀ x ∈ d0.weights Try.prog 24, x ≤ reachBytes := fun x hx => by simpa using List.all_eq_true.1 hsz x (DataW.weights_mem_each (j := 0) (t := 24) (d := d0) rfl rfl x hx)
  have wz2 : ∀ x ∈ d2.weights Try.prog 36, x ≤ reachBytes := fun x hx => by simpa using List.all_eq_true.1 hsz x (DataW.weights_mem_each (j := 2) (t := 36) (d := d2) rfl rfl x hx)
  have kk0 := h0
  have lt0 : ∀ x ∈ p0, x.block < W.heap.size := by obtain ⟨m, hm⟩ := kk0; exact DataW.trod_lt m _ _ _ hm
  obtain ⟨n0, s0, t0, ao0, cap0, l0, rfl, hA0_, hl0, hc0, hn0, hs0⟩ := open_netW (hval 0 24 v0 rfl rfl) h0
  have hs0 := hs0 wz0
  unfold reachBytes at hs0
  obtain ⟨k1, rfl, rfl, rfl, wk1⟩ := open_int Try.underlying25 (hval 1 25 v1 rfl rfl) h1
  have kk2 := h2
  have lt2 : ∀ x ∈ p2, x.block < W.heap.size := by obtain ⟨m, hm⟩ := kk2; exact DataW.trod_lt m _ _ _ hm
  obtain ⟨ao2, cap2, l2, rfl, hI2, hl2, hc2, hn2⟩ := open_ints (hval 2 36 v2 rfl rfl) h2
  clear hA0 hval0 hsz0 hsz
  refine (MostCut_any MOf_any FCheck_any CCap_any FValue_any n0 s0 t0 k1 (by have h := wk1; rw [Lit.wf, Bool.and_eq_true] at h; have h1 := of_decide_eq_true h.1; have h2 := of_decide_eq_true h.2; exact ⟨h1, Int.lt_of_le_of_lt h2 (by decide)⟩) ao0 ao2 cap0 cap2 l0 l2 W ⟨hA0_, hl0, hc0, hn0⟩ ⟨hI2, hl2, hc2, hn2⟩).mono fun e W' ⟨he, bel⟩ => ?_
  subst he
  exact ⟨_, rfl, _, _, _, [], _, [], hW', trodAll_mk1 (shut_bool Try.underlying4 _), (trodAll_cons_mk (Below.trod laidOut (by kernel_rfl) (of_decide_eq_true (by kernel_rfl)) kk0 bel lt0) (trodAll_cons_mk (shut_int Try.underlying25 wk1) (trodAll_cons_mk (Below.trod laidOut (by kernel_rfl) (of_decide_eq_true (by kernel_rfl)) kk2 bel lt2) trodAll_mk0))), rfl, bel.frame _, fun h => by cases h⟩

theorem over : Rows.mostCutRow.holds Try.pinned (OpenSpec.ofChange Rows.mostCutSpec) :=
  OpenClaim.holds_of_wide 4 Try.f4 rfl rfl rfl rfl rfl rfl rfl ⟨rfl, rfl, rfl, rfl, rfl⟩ rfl rfl rfl rfl rfl (by kernel_rfl) Try.func4 (by kernel_rfl)
    (of_decide_eq_true (by kernel_rfl)) (by unfold Func.isWrapper; first | (rw [if_pos (by decide +kernel)]; kernel_rfl) | (rw [if_neg (by decide +kernel)]; exact ⟨rfl, rfl⟩))
    (fun os started H enc _ => lifted os started H enc)

end Go.Proofs.Ytfmlgepoiaehgaa.mostCut
namespace Go.Proofs.Ytfmlgepoiaehgaa
theorem mostCut_holds : Rows.MostCutSaid := mostCut.over
#print axioms mostCut_holds
end Go.Proofs.Ytfmlgepoiaehgaa
