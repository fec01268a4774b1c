/- The law TopRound returns true for every net, and leaves it as it was: what a net takes is what it takes as a round, and no set of nodes strains it. No condition. -/
import Derived.Test.YtmneajmfoljflaaTopRound
import Derived.Test.YtmneajmfoljflaaNeedK
import Derived.Test.YtmneajmfoljflaaMMore
import Derived.Test.YtmneajmfoljflaaCutK
import Derived.Test.YtmneajmfoljflaaFCheck
import Derived.Test.YtmneajmfoljflaaOpen
import Derived.Test.YtmneajmfoljflaaOpenNet
namespace Go.Proofs.Ytmneajmfoljflaa.topRound
open Go.ChangeShapes Go.WideShapes Go.ChangeAt Go.RowKit
set_option linter.unusedVariables false

set_option maxRecDepth 100000 in
theorem lifted (os : Os) (started : os.Started) (H : Type) (enc : TypeId × Value → H) :
    ReturnsInHanded {} Try.checked os 7 .any (Rows.topRoundSpec.pre6 enc Try.prog Try.f7 Rows.topRoundRow.domain false) (Rows.topRoundSpec.post enc Try.prog Try.f7 false true false false) := by
  refine returnsInHanded_of_change_sized (C := Try.checked) own started (by kernel_rfl) Try.func7
    (ChangeSpec.witness6 (enc := enc) (C := Try.checked) false ⟨#[], #[.agg #[.int .i64 0, .int .i64 0, .int .i64 0, .slice none 0 0]], []⟩ 8 (by kernel_rfl) (by kernel_rfl) (by kernel_rfl) (by kernel_rfl)) ?_
  intro W base args ds gs before hval0 hW hcnd hsz0 _
  have hval : ∀ (j : Nat) t v, Try.f7.params[j]? = some t → args[j]? = some v → Value.okWide Try.prog W .any base t v := hval0
  have hW' := hW
  obtain ⟨p, q, hA0, hV, rfl, hfz, hnd⟩ := hW
  have hA : DataW.TrodAll enc Try.prog W 0 (fun _ => true) true Try.f7.params.toList args.toList ds p := hA0
  have hsz : (DataW.weightsEach Try.prog (Try.f7.params.toList ++ Rows.topRoundSpec.plain.varTypes Try.prog) (ds ++ gs)).all (· ≤ reachBytes) = true := hsz0
  rw [Try.params7] at hA hval hsz
  obtain ⟨v0, vs0, d0, ds0, p0, q0, hargs, rfl, rfl, h0, r0⟩ := trodAll_cons hA
  obtain ⟨rfl, rfl, rfl⟩ := trodAll_nil r0
  obtain rfl : args = #[v0] := by cases args; simp_all
  obtain ⟨rfl, rfl⟩ := trodVars_none hV
  have wz0 : ∀ x ∈ d0.weights Try.prog 43, x ≤ reachBytes := fun x hx => by simpa using List.all_eq_true.1 hsz x (DataW.weights_mem_each (j := 0) (t := 43) (d := d0) rfl rfl x hx)
  have kk0 := h0
  have lt0 : ∀ x ∈ p0, x.block < W.heap.size := by obtain ⟨m, hm⟩ := kk0; exact DataW.trod_lt m _ _ _ hm
  obtain ⟨n0, s0, t0, ao0, cap0, l0, rfl, hA0_, hl0, hc0, hn0, hs0⟩ := open_netW (hval 0 43 v0 rfl rfl) h0
  have hs0 := hs0 wz0
  unfold reachBytes at hs0
  clear hA0 hval0 hsz0 hsz
  refine (TopRound_any NRound_any NFault_any MOf_any CLeast_any FValue_any n0 s0 t0 ao0 cap0 l0 W ⟨hA0_, hl0, hc0, hn0⟩).mono fun e W' ⟨he, bel⟩ => ?_
  subst he
  exact ⟨_, rfl, _, _, _, [], _, [], hW', trodAll_mk1 (shut_bool Try.underlying4 _), (trodAll_cons_mk (Below.trod laidOut (by kernel_rfl) (of_decide_eq_true (by kernel_rfl)) kk0 bel lt0) trodAll_mk0), rfl, bel.frame _, fun h => by cases h⟩

theorem over : Rows.topRoundRow.holds Try.pinned (OpenSpec.ofChange Rows.topRoundSpec) :=
  OpenClaim.holds_of_wide 7 Try.f7 rfl rfl rfl rfl rfl rfl rfl ⟨rfl, rfl, rfl, rfl, rfl⟩ rfl rfl rfl rfl rfl (by kernel_rfl) Try.func7 (by kernel_rfl)
    (of_decide_eq_true (by kernel_rfl)) (by unfold Func.isWrapper; first | (rw [if_pos (by decide +kernel)]; kernel_rfl) | (rw [if_neg (by decide +kernel)]; exact ⟨rfl, rfl⟩))
    (fun os started H enc _ => lifted os started H enc)

end Go.Proofs.Ytmneajmfoljflaa.topRound
namespace Go.Proofs.Ytmneajmfoljflaa
theorem topRound_holds : Rows.TopRoundSaid := topRound.over
#print axioms topRound_holds
end Go.Proofs.Ytmneajmfoljflaa
