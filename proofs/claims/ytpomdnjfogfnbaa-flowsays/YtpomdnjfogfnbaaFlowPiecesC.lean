/- What both laws ask of pieces that are summed up. -/
import Derived.Test.YtpomdnjfogfnbaaSplitC
namespace Go.Proofs.Ytpomdnjfogfnbaa
open Go.RowKit
set_option linter.unusedVariables false

/-- what the closure asks of the pieces -/
structure SumOk (L wl : Nat) (P : List PcV) : Prop where
  once : ∀ i, i < P.length → (atp P i).k.Nodup
  lt : ∀ i, i < P.length → ∀ k ∈ (atp P i).k, k < L
  pos : ∀ i, i < P.length → 1 ≤ (atp P i).a ∧ (atp P i).a ≤ 10000
  amt : ∀ i, i ≤ P.length → ∀ k, k < L → 0 ≤ amtV P i k ∧ amtV P i k ≤ 10000
  tot : ∀ i, i ≤ P.length → 0 ≤ totV P (min i wl) ∧ totV P (min i wl) ≤ 600000

theorem atp_pc (P : List PcV) {i : Nat} (h : i < P.length) : (P.map PcV.pc)[i]? = some ((atp P i).a, (atp P i).k) := by
  rw [List.getElem?_map, List.getElem?_eq_getElem h, atp_lt P i h]; rfl
theorem atp_mem (P : List PcV) {i : Nat} (h : i < P.length) : ((atp P i).a, (atp P i).k) ∈ P.map PcV.pc := List.mem_of_getElem? (atp_pc P h)

/-- what Split tells can be summed up -/
theorem sum_ok {N : Nat} {s t : Int} {l : List Arc3} {f : List Int} {W R : List PcV} (hE : netErr N s t l = 0) (hf : FlowIs N s t l f) (h : SplitIs s t l f (W.map PcV.pc) (R.map PcV.pc)) (m : Nat) : SumOk l.length W.length ((W ++ R).take m) := by
  have hall := (err_ok (net_ok hE).1).2.2
  have hcap : ∀ k, k < l.length → ati f k ≤ 10000 := fun k hk => by
    have := hf.bnd k hk
    have := (hall _ (at3_mem l k hk)).2.2
    omega
  have hmem : ∀ i, i < ((W ++ R).take m).length → ((atp ((W ++ R).take m) i).a, (atp ((W ++ R).take m) i).k) ∈ W.map PcV.pc ++ R.map PcV.pc := fun i hi => by
    have := atp_mem _ hi
    rw [List.map_take] at this
    have := List.mem_of_mem_take this
    rwa [List.map_append] at this
  have hbnd : ∀ (Q S : List Pc), Q ++ S = W.map PcV.pc ++ R.map PcV.pc → ∀ k, k < l.length → 0 ≤ amtAt Q k ∧ amtAt Q k ≤ 10000 := fun Q S e k hk => by
    have hs := h.sum k hk
    have hp := h.pos
    rw [← e] at hs hp
    rw [amt_append] at hs
    have p1 := amt_nonneg (P := Q) (fun p hp' => hp p (List.mem_append_left _ hp')) k
    have p2 := amt_nonneg (P := S) (fun p hp' => hp p (List.mem_append_right _ hp')) k
    have := hcap k hk
    omega
  have hsome : ∀ i, i < ((W ++ R).take m).length → (atp ((W ++ R).take m) i).k ≠ [] ∧ (atp ((W ++ R).take m) i).k.Nodup := fun i hi => by
    rcases List.mem_append.1 (hmem i hi) with hp | hp
    · exact ⟨(h.ways _ hp).some, (h.ways _ hp).once⟩
    · obtain ⟨u, hu⟩ := h.rounds _ hp; exact ⟨hu.some, hu.once⟩
  have hpre : ∀ i, ∃ S, (((W ++ R).take m).take i).map PcV.pc ++ S = W.map PcV.pc ++ R.map PcV.pc := fun i => by
    refine ⟨((W ++ R).drop (min i m)).map PcV.pc, ?_⟩
    rw [List.take_take, ← List.map_append, List.take_append_drop, List.map_append]
  refine ⟨fun i hi => (hsome i hi).2, fun i hi k hk => h.lt _ (hmem i hi) k hk, fun i hi => ⟨h.pos _ (hmem i hi), ?_⟩, fun i hi k hk => ?_, fun i hi => ?_⟩
  · obtain ⟨k, K, e⟩ := List.exists_cons_of_ne_nil (hsome i hi).1
    have hk : k < l.length := h.lt _ (hmem i hi) k (by simp [e])
    obtain ⟨S, hS⟩ := hpre (i + 1)
    have h1 := (hbnd _ S hS k hk).2
    have h2 := amtV_succ ((W ++ R).take m) hi k
    obtain ⟨S', hS'⟩ := hpre i
    have h3 := (hbnd _ S' hS' k hk).1
    have h4 : along (atp ((W ++ R).take m) i).a (atp ((W ++ R).take m) i).k k = (atp ((W ++ R).take m) i).a := by unfold along; rw [if_pos (by simp [e])]
    unfold amtV at h2
    omega
  · obtain ⟨S, hS⟩ := hpre i
    exact hbnd _ S hS k hk
  · unfold totV
    rw [List.take_take, List.take_append_of_le_length (by omega), List.map_take]
    have e := total_append ((W.map PcV.pc).take (min (min i W.length) m)) ((W.map PcV.pc).drop (min (min i W.length) m))
    rw [List.take_append_drop, h.val] at e
    have p1 := total_nonneg (P := (W.map PcV.pc).take (min (min i W.length) m)) fun p hp => (h.ways p (List.mem_of_mem_take hp)).pos
    have p2 := total_nonneg (P := (W.map PcV.pc).drop (min (min i W.length) m)) fun p hp => (h.ways p (List.mem_of_mem_drop hp)).pos
    have b := goneK_bound (l := l) (f := ati f) (v := s) (C := 10000) (by omega) l.length fun k hk => ⟨(hf.bnd k hk).1, hcap k hk⟩
    have hl60 := (err_ok (net_ok hE).1).2.1
    have e2 : goneK l (ati f) s l.length = gone l (ati f) s := rfl
    rw [e2] at b
    omega

end Go.Proofs.Ytpomdnjfogfnbaa
