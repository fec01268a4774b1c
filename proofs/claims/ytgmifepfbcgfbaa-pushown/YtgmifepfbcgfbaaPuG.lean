/- Plain facts on package push: the heights leave a gap; a busy node stands below twice the number of nodes; nothing gets from the source to the sink; a busy node can be lifted, or something can go from it. -/
import Derived.Test.YtgmifepfbcgfbaaPuM
namespace Go.Proofs.Ytgmifepfbcgfbaa
set_option linter.unusedVariables false

/-- where there are too few nodes for so many heights one has none -/
theorem gap {N : Nat} {h : List Int} (a : Int) (m : Nat) (E : List Nat) (hE : E.Nodup) (hlt : ∀ v ∈ E, v < N) (hout : ∀ v ∈ E, ati h v < a ∨ a + m ≤ ati h v) (hm : N < m + E.length) : ∃ g : Nat, g < m ∧ ∀ v, v < N → ati h v ≠ a + g := by
  refine Classical.byContradiction fun c => ?_
  have hex : ∀ g : Nat, ∃ v : Nat, g < m → v < N ∧ ati h v = a + g := fun g => by
    by_cases hg : g < m
    · refine Classical.byContradiction fun d => c ⟨g, hg, fun v hv e => d ⟨v, fun _ => ⟨hv, e⟩⟩⟩
    · exact ⟨0, fun k => absurd k hg⟩
  obtain ⟨F, hF⟩ := Classical.axiomOfChoice hex
  have hn : ((List.range m).map F ++ E).Nodup := by
    rw [List.nodup_append]
    refine ⟨?_, hE, fun x hx y hy e => ?_⟩
    · rw [List.nodup_iff_pairwise_ne, List.pairwise_map]
      refine List.Pairwise.imp_of_mem ?_ (List.nodup_iff_pairwise_ne.1 List.nodup_range)
      intro i j hi hj hne e
      have h1 := (hF i (List.mem_range.1 hi)).2
      have h2 := (hF j (List.mem_range.1 hj)).2
      rw [e] at h1
      exact hne (by omega)
    · obtain ⟨i, hi, rfl⟩ := List.mem_map.1 hx
      have h1 := (hF i (List.mem_range.1 hi)).2
      have h2 := hout y hy
      rw [← e] at h2
      have := List.mem_range.1 hi
      omega
  have := List.Nodup.length_le_of_subset (l₂ := List.range N) hn (fun x hx => by
    rcases List.mem_append.1 hx with hx | hx
    · obtain ⟨i, hi, rfl⟩ := List.mem_map.1 hx
      exact List.mem_range.2 (hF i (List.mem_range.1 hi)).1
    · exact List.mem_range.2 (hlt x hx))
  simp at this
  omega

/-- across a gap nothing can go -/
theorem gap_shut {N s t : Nat} {l : List Arc3} {f h : List Int} (H : PushOk N s t l f h) {G : Int} (hG : ∀ v, v < N → ati h v ≠ G) {k : Nat} {b : Bool} (hk : k < l.length) (hr : 0 < room l f k b) (h1 : G < ati h (frmN l k b)) : G < ati h (towN l k b) := by
  have h2 := H.down k b hk hr
  have h3 := hG _ (ends_lt H.net hk b).2
  omega

theorem busy_low {N s t : Nat} {l : List Arc3} {f h : List Int} (H : PushOk N s t l f h) {v : Nat} (hv : v < N) (hB : BusyN s t l f v) : ati h v < 2 * (N : Int) := by
  refine Classical.byContradiction fun hge => ?_
  obtain ⟨hs, ht, hst, hN, _⟩ := H.st
  have hsrc := H.src
  obtain ⟨g, hg, hgap⟩ := gap (N := N) (h := h) ((N : Int) + 1) (N - 1) [s, v] (by simp [Ne.symm hB.1]) (fun u hu => by simp at hu; omega) (fun u hu => by
    simp at hu
    rcases hu with rfl | rfl
    · omega
    · omega) (by simp; omega)
  have e := gone_sum (N := N) (net_nodes H.net) (ati f) (fun u => if (N : Int) + 1 + g < ati h u.toNat then 1 else 0)
  have hr : 0 ≤ sumN (fun i => (if (N : Int) + 1 + g < ati h (at3 l i).1.toNat then (1 : Int) else 0) * ati f i - (if (N : Int) + 1 + g < ati h (at3 l i).2.1.toNat then (1 : Int) else 0) * ati f i) l.length := sumN_nonneg fun i hi => by
    have hb := H.bnd i hi
    have f1 : (at3 l i).1.toNat = frmN l i false := rfl
    have f2 : (at3 l i).2.1.toNat = towN l i false := rfl
    rw [f1, f2]
    by_cases c1 : (N : Int) + 1 + g < ati h (frmN l i false)
    · rw [if_pos c1]; split <;> omega
    · rw [if_neg c1]
      by_cases c2 : (N : Int) + 1 + g < ati h (towN l i false)
      · have : ¬ 0 < room l f i true := fun c => c1 (gap_shut H hgap (b := true) hi c c2)
        unfold room at this
        simp only [if_true] at this
        rw [if_pos c2]; omega
      · rw [if_neg c2]; omega
  have hl : sumN (fun u => -((if (N : Int) + 1 + g < ati h u then (1 : Int) else 0) * gone l (ati f) u)) N ≥ - gone l (ati f) v := by
    have := sumN_le (f := fun u => -((if (N : Int) + 1 + g < ati h u then (1 : Int) else 0) * gone l (ati f) u)) (n := N) (fun u hu => by
      by_cases c : (N : Int) + 1 + g < ati h u
      · rw [if_pos c]
        have := H.wait u hu (fun e => by subst e; omega)
        omega
      · rw [if_neg c]; simp) hv
    rw [if_pos (by omega)] at this
    omega
  rw [sumN_neg] at hl
  have hw := hB.2.2
  simp only [Int.toNat_natCast] at e
  omega

/-- by what is left there is no way from the source to the sink -/
theorem no_way {N s t : Nat} {l : List Arc3} {f h : List Int} (H : PushOk N s t l f h) : ∃ P : Nat → Bool, P s = true ∧ P t = false ∧ ∀ (k : Nat) (b : Bool), k < l.length → 0 < room l f k b → P (frmN l k b) = true → P (towN l k b) = true := by
  obtain ⟨hs, ht, hst, hN, _⟩ := H.st
  have hsrc := H.src
  have hsnk := H.snk
  obtain ⟨g, hg, hgap⟩ := gap (N := N) (h := h) 1 (N - 1) [s, t] (by simp [hst]) (fun u hu => by simp at hu; omega) (fun u hu => by
    simp at hu
    rcases hu with rfl | rfl
    · omega
    · omega) (by simp; omega)
  refine ⟨fun v => decide ((1 : Int) + g < ati h v), decide_eq_true (by omega), decide_eq_false (by omega), fun k b hk hr h1 => ?_⟩
  exact decide_eq_true (gap_shut H hgap hk hr (of_decide_eq_true h1))

/-- where no node is busy as much goes as can -/
theorem end_flow {N s t : Nat} {l : List Arc3} {f h : List Int} (H : PushOk N s t l f h) (hno : ∀ v, v < N → ¬ BusyN s t l f v) : FlowIs N s t l f ∧ MaxIs N s t l (gone l (ati f) s) := by
  have hf : FlowIs N s t l f := ⟨H.flen, H.bnd, fun v hv h1 h2 => by
    have a := H.wait v hv (by omega)
    have b := hno v hv
    unfold BusyN at b
    have : ¬ gone l (ati f) v < 0 := fun c => b ⟨by omega, by omega, c⟩
    omega⟩
  refine ⟨hf, ⟨f, hf, rfl⟩, ?_⟩
  obtain ⟨P, p1, p2, p3⟩ := no_way H
  obtain ⟨hs, ht, hst, _⟩ := H.st
  obtain ⟨x, hx, hb⟩ := side_of P N
  have hbt : ∀ v : Nat, v < N → bt (x : Int) (v : Int) = if P v then 1 else 0 := fun v hv => by rw [bt_bit, hb v hv]
  have h1 : bt (x : Int) (s : Int) = 1 := by rw [hbt s hs, p1]; rfl
  have h2 : bt (x : Int) (t : Int) = 0 := by rw [hbt t ht, p2]; rfl
  refine ⟨x, ⟨by omega, by exact_mod_cast hx, h1, h2⟩, ?_⟩
  have e := hf.side H.net (bt x)
  rw [h1, h2] at e
  have e2 : sumN (fun i => bt x (at3 l i).1 * ati f i - bt x (at3 l i).2.1 * ati f i) l.length = capS x l := by
    refine sumN_congr fun i hi => ?_
    obtain ⟨q1, q2, q3, q4, _⟩ := arc_at H.net hi
    have hb := H.bnd i hi
    rw [q1, q2, hbt _ q3, hbt _ q4]
    have r1 := p3 i false hi
    have r2 := p3 i true hi
    have f1 : frmN l i true = towN l i false := rfl
    have f2 : towN l i true = frmN l i false := rfl
    rw [f1, f2] at r2
    unfold room at r1 r2
    simp only [Bool.false_eq_true, if_false] at r1
    simp only [if_true] at r2
    cases e1 : P (frmN l i false) <;> cases e3 : P (towN l i false)
    · simp
    · rw [e1, e3] at r2
      have : ¬ 0 < ati f i := fun c => by cases r2 c rfl
      have : ati f i = 0 := by omega
      simp [this]
    · rw [e1, e3] at r1
      have : ¬ 0 < (at3 l i).2.2 - ati f i := fun c => by cases r1 c rfl
      have : ati f i = (at3 l i).2.2 := by omega
      simp [this]
    · simp
  rw [e2] at e
  omega

/-! ### What is reached -/

structure Reach (N s t : Nat) (l : List Arc3) (f h : List Int) : Prop where
  ok : PushOk N s t l f h
  low : ∀ v, v < N → ati h v < 2 * (N : Int)
theorem reach_new {N s t : Nat} {l : List Arc3} (hE : netErr N s t l = 0) : Reach N s t l (newF s l) (newH N s) := by
  have H := new_ok hE
  obtain ⟨hs, _, _, hN, _⟩ := H.st
  refine ⟨H, fun v hv => ?_⟩
  rw [newH_at hs]; split <;> omega
theorem reach_send {N s t : Nat} {l : List Arc3} {f h : List Int} (H : Reach N s t l f h) {k : Nat} {b : Bool} (C : CanSend s t l f h k b) : Reach N s t l (sentF f k b (amtN l f k b)) h := ⟨send_ok H.ok C, H.low⟩
theorem reach_lift {N s t : Nat} {l : List Arc3} {f h : List Int} (H : Reach N s t l f h) {v : Nat} {x : Int} (C : CanLift N s t l f h v x) : Reach N s t l f (h.set v x) := by
  have K := lift_ok H.ok C
  have hvh : v < h.length := by rw [H.ok.hlen]; exact C.lt
  refine ⟨K, fun u hu => ?_⟩
  by_cases e : u = v
  · subst e; exact busy_low K hu C.busy
  · rw [ati_set hvh, if_neg e]; exact H.low u hu
/-- heights don't fall -/
theorem lift_up {N s t : Nat} {l : List Arc3} {f h : List Int} (H : PushOk N s t l f h) {v : Nat} {x : Int} (C : CanLift N s t l f h v x) (u : Nat) : ati h u ≤ ati (h.set v x) u := by
  have hvh : v < h.length := by rw [H.hlen]; exact C.lt
  rw [ati_set hvh]
  split
  · rename_i e; subst e; have := C.up; omega
  · omega

theorem least_step {l : List Arc3} {f h : List Int} {v : Nat} (h0 : ∀ u, StepTo l f v u → 0 ≤ ati h u) : ∀ (m : Nat) (u : Nat), StepTo l f v u → (ati h u).toNat ≤ m → ∃ x, LiftIs l f h v x
  | 0, u, hu, hm => ⟨ati h u + 1, ⟨u, hu, rfl⟩, fun u' hu' => by have := h0 u' hu'; have := h0 u hu; omega⟩
  | m + 1, u, hu, hm => by
    by_cases c : ∃ u', StepTo l f v u' ∧ ati h u' < ati h u
    · obtain ⟨u', h1, h2⟩ := c
      exact least_step h0 m u' h1 (by have := h0 u' h1; omega)
    · exact ⟨ati h u + 1, ⟨u, hu, rfl⟩, fun u' hu' => by
        have : ¬ ati h u' < ati h u := fun d => c ⟨u', hu', d⟩
        omega⟩
/-- a busy node can be lifted, or something can go from it -/
theorem busy_on {N s t : Nat} {l : List Arc3} {f h : List Int} (H : Reach N s t l f h) {v : Nat} (hv : v < N) (hB : BusyN s t l f v) : (∃ x, CanLift N s t l f h v x) ∨ ∃ (k : Nat) (b : Bool), frmN l k b = v ∧ CanSend s t l f h k b := by
  have hst : ∀ u, StepTo l f v u → u < N := fun u ⟨k, b, hk, _, e, _⟩ => by rw [← e]; exact (ends_lt H.ok.net hk b).2
  have hex : ∃ u, StepTo l f v u := by
    refine Classical.byContradiction fun c => ?_
    have : 0 ≤ gone l (ati f) v := sumN_nonneg fun i hi => by
      obtain ⟨q1, q2, _⟩ := arc_at H.ok.net hi
      have hb := H.ok.bnd i hi
      rw [q1, q2]
      by_cases e : towN l i false = v
      · have : ¬ 0 < ati f i := fun d => c ⟨towN l i true, i, true, hi, e, rfl, by unfold room; simpa using d⟩
        have h0 : ati f i = 0 := by omega
        rw [h0]; simp
      · rw [if_neg (show ¬ (towN l i false : Int) = (v : Int) by omega)]
        split <;> omega
    have := hB.2.2
    omega
  obtain ⟨u, hu⟩ := hex
  obtain ⟨x, hx⟩ := least_step (h := h) (fun u hu => (H.ok.high u (hst u hu)).1) _ u hu (Nat.le_refl _)
  by_cases c : ati h v < x
  · obtain ⟨u', h1, h2⟩ := hx.some
    have := H.low u' (hst u' h1)
    exact Or.inl ⟨x, hv, hB, hx, c, by omega⟩
  · obtain ⟨u', ⟨k, b, hk, e1, e2, hr⟩, h2⟩ := hx.some
    have h3 := H.ok.down k b hk hr
    rw [e1, e2] at h3
    exact Or.inr ⟨k, b, e1, hk, by rw [e1]; exact hB, by rw [e1, e2]; omega, hr⟩

end Go.Proofs.Ytgmifepfbcgfbaa
