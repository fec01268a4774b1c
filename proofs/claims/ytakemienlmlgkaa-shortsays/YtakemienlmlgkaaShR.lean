/- Plain facts on going each arc once, round by round. -/
import Derived.Test.YtakemienlmlgkaaShM
namespace Go.Proofs.Ytakemienlmlgkaa
set_option linter.unusedVariables false

/-- after r rounds: what is told are ways, and none of at most r arcs is shorter -/
structure Rx (N : Nat) (l : List Arc3) (S : Nat → Prop) (r m : Nat) (F : Nat → Int) (K : Nat → Bool) : Prop where
  zero : ∀ v, v < N → K v = false → F v = 0
  walk : ∀ v, v < N → K v = true → ∃ s j : Nat, s < N ∧ S s ∧ Wl l s j (F v) v
  few : ∀ (s j : Nat) (x : Int) (v : Nat), s < N → S s → j ≤ r → v < N → Wl l s j x v → K v = true ∧ F v ≤ x
  bnd : ∀ v, v < N → -(10000 * (m : Int)) ≤ F v ∧ F v ≤ 10000 * (m : Int)

/-- a way that is shorter than all of at most r arcs -/
def Wit (N : Nat) (l : List Arc3) (S : Nat → Prop) (r : Nat) : Prop :=
  ∃ (s j : Nat) (x : Int) (t : Nat), s < N ∧ S s ∧ t < N ∧ Wl l s j x t ∧ ∀ (s' j' : Nat) (x' : Int), s' < N → S s' → j' ≤ r → Wl l s' j' x' t → x < x'

/-- the arc makes nothing shorter -/
def Slack (F : Nat → Int) (K : Nat → Bool) (a : Arc3) : Prop := K a.1.toNat = true → K a.2.1.toNat = true ∧ F a.2.1.toNat ≤ F a.1.toNat + a.2.2

/-- within round r, the first k arcs gone -/
structure RxK (N : Nat) (l : List Arc3) (S : Nat → Prop) (r k m : Nat) (ch : Bool) (F : Nat → Int) (K : Nat → Bool) : Prop where
  rx : Rx N l S r m F K
  more : ∀ (s : Nat) (x : Int) (v i : Nat), s < N → S s → v < N → i < k → (at3 l i).2.1 = v → Wl l s r (x - (at3 l i).2.2) (at3 l i).1 → K v = true ∧ F v ≤ x
  still : ch = false → ∀ i, i < k → Slack F K (at3 l i)
  wit : ch = true → Wit N l S r

theorem rx_start (N : Nat) (l : List Arc3) (S : Nat → Prop) (K : Nat → Bool) (hK : ∀ v, v < N → (K v = true ↔ S v)) : Rx N l S 0 0 (fun _ => 0) K := by
  refine ⟨fun _ _ _ => rfl, fun v hv h => ⟨v, 0, hv, (hK v hv).1 h, Wl.start l v⟩, fun s j x v hs hS hj hv hw => ?_, fun v hv => by simp⟩
  obtain rfl : j = 0 := by omega
  have h1 := hw.1
  have h2 := hw.2
  have : v = s := by omega
  subst this
  exact ⟨(hK v hv).2 hS, by omega⟩

theorem rx_begin {N : Nat} {l : List Arc3} {S : Nat → Prop} {r m : Nat} {F : Nat → Int} {K : Nat → Bool} (h : Rx N l S r m F K) : RxK N l S r 0 m false F K :=
  ⟨h, fun _ _ _ i _ _ _ hi => absurd hi (by omega), fun _ i hi => absurd hi (by omega), fun h => absurd h (by decide)⟩

theorem rx_hit {N : Nat} {l : List Arc3} {S : Nat → Prop} {r k m : Nat} {ch : Bool} {F : Nat → Int} {K : Nat → Bool} {f t : Nat} {c : Int} (h : RxK N l S r k m ch F K) (hk : k < l.length) (ha : at3 l k = ((f : Int), (t : Int), c)) (hf : f < N) (ht : t < N) (hc : -10000 ≤ c ∧ c ≤ 10000)
    (h1 : K f = true) (h2 : K t = false ∨ F f + c < F t) : RxK N l S r (k + 1) (m + 1) true (fun v => if v = t then F f + c else F v) (fun v => if v = t then true else K v) := by
  have hmem : ((f : Int), (t : Int), c) ∈ l := by rw [← ha]; exact at3_mem l k hk
  obtain ⟨s0, j0, hs0, hS0, hw0⟩ := h.rx.walk f hf h1
  have hw1 : Wl l s0 (j0 + 1) (F f + c) t := hw0.step (a := ((f : Int), (t : Int), c)) hmem
  -- what is told grows no longer
  have hle : ∀ v x, (K v = true ∧ F v ≤ x) → ((if v = t then true else K v) = true ∧ (if v = t then F f + c else F v) ≤ x) := by
    rintro v x ⟨e1, e2⟩
    by_cases e : v = t
    · subst e
      rcases h2 with h2 | h2
      · rw [h2] at e1; cases e1
      · simp; omega
    · simp [e, e1, e2]
  refine ⟨⟨fun v hv he => ?_, fun v hv he => ?_, fun s j x v hs hS hj hv hw => hle v x (h.rx.few s j x v hs hS hj hv hw), fun v hv => ?_⟩, fun s x v i hs hS hv hi he hw => ?_, fun e => absurd e (by decide), fun _ => ?_⟩
  · by_cases e : v = t
    · simp [e] at he
    · simp only [e, if_false] at he ⊢
      exact h.rx.zero v hv he
  · by_cases e : v = t
    · subst e
      simp only [if_true]
      exact ⟨s0, _, hs0, hS0, hw1⟩
    · simp only [e, if_false] at he ⊢
      exact h.rx.walk v hv he
  · have b1 := h.rx.bnd f hf
    have b2 := h.rx.bnd v hv
    by_cases e : v = t
    · simp only [e, if_true]; omega
    · simp only [e, if_false]; omega
  · by_cases e : i = k
    · subst e
      rw [ha] at he hw
      simp only at he hw
      have : v = t := by omega
      subst this
      have := h.rx.few s r _ f hs hS (Nat.le_refl _) hf hw
      simp; omega
    · exact hle v x (h.more s x v i hs hS hv (by omega) he hw)
  · refine ⟨s0, _, F f + c, t, hs0, hS0, ht, hw1, fun s' j' x' hs' hS' hj' hw' => ?_⟩
    have := h.rx.few s' j' x' t hs' hS' hj' ht hw'
    rcases h2 with h2 | h2
    · rw [h2] at this; exact absurd this.1 (by decide)
    · omega

theorem rx_miss {N : Nat} {l : List Arc3} {S : Nat → Prop} {r k m : Nat} {ch : Bool} {F : Nat → Int} {K : Nat → Bool} {f t : Nat} {c : Int} (h : RxK N l S r k m ch F K) (hk : k < l.length) (ha : at3 l k = ((f : Int), (t : Int), c)) (hf : f < N) (ht : t < N)
    (h1 : K f = false ∨ (K t = true ∧ F t ≤ F f + c)) : RxK N l S r (k + 1) (m + 1) ch F K := by
  refine ⟨⟨h.rx.zero, h.rx.walk, h.rx.few, fun v hv => ?_⟩, fun s x v i hs hS hv hi he hw => ?_, fun e i hi => ?_, h.wit⟩
  · have := h.rx.bnd v hv; omega
  · by_cases e : i = k
    · subst e
      rw [ha] at he hw
      simp only at he hw
      have : v = t := by omega
      subst this
      have := h.rx.few s r _ f hs hS (Nat.le_refl _) hf hw
      rcases h1 with h1 | h1
      · rw [h1] at this; exact absurd this.1 (by decide)
      · exact ⟨h1.1, by omega⟩
    · exact h.more s x v i hs hS hv (by omega) he hw
  · by_cases e' : i = k
    · subst e'
      rw [ha]
      intro hK
      simp only [Int.toNat_natCast] at hK ⊢
      rcases h1 with h1 | h1
      · rw [h1] at hK; cases hK
      · exact h1
    · exact h.still e i (by omega)

theorem rx_next {N : Nat} {l : List Arc3} {S : Nat → Prop} {r m : Nat} {ch : Bool} {F : Nat → Int} {K : Nat → Bool} (h : RxK N l S r l.length m ch F K) : Rx N l S (r + 1) m F K := by
  refine ⟨h.rx.zero, h.rx.walk, fun s j x v hs hS hj hv hw => ?_, h.rx.bnd⟩
  by_cases e : j ≤ r
  · exact h.rx.few s j x v hs hS e hv hw
  · obtain rfl : j = r + 1 := by omega
    obtain ⟨a, ha, hk, he⟩ := hw
    obtain ⟨i, hi, rfl⟩ := List.mem_iff_getElem.1 ha
    have e3 : at3 l i = l[i] := at3_lt l i hi
    exact h.more s x v i hs hS hv hi (by rw [e3]; exact he) (by rw [e3]; exact hk)

theorem rx_slack {N : Nat} {l : List Arc3} {S : Nat → Prop} {r m : Nat} {F : Nat → Int} {K : Nat → Bool} (h : RxK N l S r l.length m false F K) : ∀ a ∈ l, Slack F K a := by
  intro a ha
  obtain ⟨i, hi, rfl⟩ := List.mem_iff_getElem.1 ha
  have := h.still rfl i hi
  rwa [at3_lt l i hi] at this

/-- where no arc makes anything shorter no way is -/
theorem rx_le {N : Nat} {l : List Arc3} (hl : ∀ a ∈ l, (0 ≤ a.1 ∧ a.1 < (N : Int)) ∧ (0 ≤ a.2.1 ∧ a.2.1 < (N : Int))) {S : Nat → Prop} {r m : Nat} {F : Nat → Int} {K : Nat → Bool} (h : Rx N l S r m F K) (hs : ∀ a ∈ l, Slack F K a) {s : Nat} (hsN : s < N) (hS : S s) :
    ∀ (j : Nat) (x : Int) (v : Nat), Wl l s j x v → K v = true ∧ F v ≤ x
  | 0, x, v, hw => h.few s 0 x v hsN hS (Nat.zero_le _) (by have := hw.2; omega) hw
  | j + 1, x, v, ⟨a, ha, hk, he⟩ => by
    obtain ⟨f, t, c⟩ := a
    have hb := hl _ ha
    simp only at hb hk he
    obtain ⟨f, rfl⟩ := Int.eq_ofNat_of_zero_le hb.1.1
    have h1 := rx_le hl h hs hsN hS j _ f hk
    have h2 := hs _ ha
    simp only [Slack, he, Int.toNat_natCast] at h2
    have := h2 h1.1
    exact ⟨this.1, by omega⟩

theorem ati_range (N : Nat) (F : Nat → Int) {v : Nat} (hv : v < N) : ati ((List.range N).map F) v = F v := by simp [ati, hv]
theorem atb_range (N : Nat) (K : Nat → Bool) {v : Nat} (hv : v < N) : atb ((List.range N).map K) v = K v := by simp [atb, hv]

/-- what has come to rest is what is asked: from one node -/
theorem rx_from {N : Nat} {l : List Arc3} (hl : ∀ a ∈ l, (0 ≤ a.1 ∧ a.1 < (N : Int)) ∧ (0 ≤ a.2.1 ∧ a.2.1 < (N : Int))) {s r m : Nat} {F : Nat → Int} {K : Nat → Bool} (hs : s < N) (h : Rx N l (fun v => v = s) r m F K) (hk : ∀ a ∈ l, Slack F K a) :
    FromIs N l s ((List.range N).map F) ((List.range N).map K) := by
  refine ⟨by simp, by simp, fun v hv => ?_⟩
  rw [ati_range N F hv, atb_range N K hv]
  cases e : K v
  · refine Or.inl ⟨rfl, h.zero v hv e, ?_⟩
    rintro ⟨j, x, hw⟩
    have := (rx_le hl h hk hs rfl j x v hw).1
    rw [e] at this; cases this
  · obtain ⟨s', j, _, rfl, hw⟩ := h.walk v hv e
    exact Or.inr ⟨rfl, ⟨j, hw⟩, fun j x hw => (rx_le hl h hk hs rfl j x v hw).2⟩

/-- from all -/
theorem rx_heights {N : Nat} {l : List Arc3} (hl : ∀ a ∈ l, (0 ≤ a.1 ∧ a.1 < (N : Int)) ∧ (0 ≤ a.2.1 ∧ a.2.1 < (N : Int))) {r m : Nat} {F : Nat → Int} {K : Nat → Bool} (h : Rx N l (fun _ => True) r m F K) (hk : ∀ a ∈ l, Slack F K a) :
    HeightsIs N l ((List.range N).map F) := by
  refine ⟨by simp, fun v hv => ?_⟩
  rw [ati_range N F hv]
  have e := (h.few v 0 0 v hv trivial (Nat.zero_le _) hv (Wl.start l v)).1
  obtain ⟨s, j, hs, _, hw⟩ := h.walk v hv e
  exact ⟨⟨s, j, hs, hw⟩, fun s j x hs hw => (rx_le hl h hk hs trivial j x v hw).2⟩

theorem HeightsIs.noLoop {N : Nat} {l : List Arc3} {H : List Int} (h : HeightsIs N l H) : ¬ ∃ v : Int, (0 ≤ v ∧ v < (N : Int)) ∧ Neg l v := by
  rintro ⟨v, ⟨h0, h1⟩, k, x, hw, hx⟩
  obtain ⟨v, rfl⟩ := Int.eq_ofNat_of_zero_le h0
  obtain ⟨⟨s, j, hs, hj⟩, hm⟩ := h.all v (by omega)
  have := hm s _ _ hs (hj.trans hw)
  omega

/-- what the last round makes shorter goes round below 0 -/
theorem wit_loop {N : Nat} {l : List Arc3} (hl : ∀ a ∈ l, (0 ≤ a.1 ∧ a.1 < (N : Int)) ∧ (0 ≤ a.2.1 ∧ a.2.1 < (N : Int))) {S : Nat → Prop} {r : Nat} (hr : N ≤ r + 1) (h : Wit N l S r) : ∃ s : Nat, s < N ∧ S s ∧ LoopFrom l s := by
  obtain ⟨s, j, x, t, hs, hS, ht, hw, hm⟩ := h
  refine ⟨s, hs, hS, Classical.byContradiction fun hno => ?_⟩
  obtain ⟨k', x', h1, h2, h3⟩ := Wl.few hl (show 0 ≤ (s : Int) ∧ (s : Int) < (N : Int) by omega) hno hw
  have := hm s k' x' hs hS (by omega) h3
  omega

theorem loop_any {N : Nat} {l : List Arc3} (hl : ∀ a ∈ l, (0 ≤ a.1 ∧ a.1 < (N : Int)) ∧ (0 ≤ a.2.1 ∧ a.2.1 < (N : Int))) {s : Nat} (hs : s < N) (h : LoopFrom l s) : ∃ v : Int, (0 ≤ v ∧ v < (N : Int)) ∧ Neg l v := by
  obtain ⟨v, ⟨k, x, hw⟩, hn⟩ := h
  exact ⟨v, hw.node hl (by omega), hn⟩

end Go.Proofs.Ytakemienlmlgkaa
