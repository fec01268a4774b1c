/- Plain facts: lengths made longer by heights. -/
import Derived.Test.YtakemienlmlgkaaShortC
import Derived.Test.YtakemienlmlgkaaSFrom
namespace Go.Proofs.Ytakemienlmlgkaa
set_option linter.unusedVariables false

/-- an arc made longer by the heights of its ends -/
def chg (H : List Int) (a : Arc3) : Arc3 := (a.1, a.2.1, a.2.2 + (ati H a.1.toNat - ati H a.2.1.toNat))
/-- the first k arcs made longer -/
def moreTo (H : List Int) (l : List Arc3) (k : Nat) : List Arc3 := (l.take k).map (chg H) ++ l.drop k

theorem moreTo_len (H : List Int) (l : List Arc3) (k : Nat) : (moreTo H l k).length = l.length := by simp [moreTo]; omega
theorem moreTo_zero (H : List Int) (l : List Arc3) : moreTo H l 0 = l := by simp [moreTo]
theorem moreTo_all (H : List Int) (l : List Arc3) : moreTo H l l.length = l.map (chg H) := by simp [moreTo]
theorem moreTo_at (H : List Int) (l : List Arc3) (k i : Nat) (hk : k ≤ l.length) (hi : i < l.length) : at3 (moreTo H l k) i = if i < k then chg H (at3 l i) else at3 l i := by
  rw [at3_lt _ _ (by rw [moreTo_len]; exact hi), at3_lt l i hi]
  by_cases h : i < k
  · rw [if_pos h]
    simp only [moreTo]
    rw [List.getElem_append_left (by simp; omega)]
    simp
  · rw [if_neg h]
    simp only [moreTo]
    rw [List.getElem_append_right (by simp; omega)]
    simp only [List.length_map, List.length_take, List.getElem_drop]
    congr 1
    omega

theorem wl_more {H : List Int} {l : List Arc3} {s : Int} : ∀ {k : Nat} {x v : Int}, Wl l s k x v → Wl (l.map (chg H)) s k (x + ati H s.toNat - ati H v.toNat) v
  | 0, x, v, h => ⟨by rw [h.1, h.2]; omega, h.2⟩
  | k + 1, x, v, ⟨a, ha, hk, hv⟩ => by
    refine ⟨chg H a, List.mem_map.2 ⟨a, ha, rfl⟩, (wl_more (H := H) hk).eq rfl ?_, hv⟩
    simp only [chg]
    rw [← hv]
    omega
theorem wl_less {H : List Int} {l : List Arc3} {s : Int} : ∀ {k : Nat} {x v : Int}, Wl (l.map (chg H)) s k x v → Wl l s k (x - ati H s.toNat + ati H v.toNat) v
  | 0, x, v, h => ⟨by rw [h.1, h.2]; omega, h.2⟩
  | k + 1, x, v, ⟨b, hb, hk, hv⟩ => by
    obtain ⟨a, ha, rfl⟩ := List.mem_map.1 hb
    refine ⟨a, ha, (wl_less hk).eq rfl ?_, hv⟩
    simp only [chg] at hv ⊢
    rw [← hv]
    omega
theorem rch_more {H : List Int} {l : List Arc3} {s v : Int} : Rch (l.map (chg H)) s v ↔ Rch l s v :=
  ⟨fun ⟨_, _, h⟩ => ⟨_, _, wl_less h⟩, fun ⟨_, _, h⟩ => ⟨_, _, wl_more h⟩⟩
theorem loop_more {H : List Int} {l : List Arc3} {s : Int} (h : ¬ LoopFrom l s) : ¬ LoopFrom (l.map (chg H)) s := by
  rintro ⟨v, hr, k, x, hw, hx⟩
  exact h ⟨v, rch_more.1 hr, k, _, wl_less hw, by omega⟩

theorem FromIs.more {N : Nat} {H : List Int} {l : List Arc3} {s : Nat} {F G : List Int} {K L : List Bool} (h : FromIs N l s F K) (h2 : FromIs N (l.map (chg H)) s G L) : K = L ∧ ∀ v, v < N → atb K v = true → ati G v = ati F v + ati H s - ati H v := by
  constructor
  · refine ext_atb (by rw [h.lenK, h2.lenK]) fun v hv => ?_
    rw [h.lenK] at hv
    exact Bool.eq_iff_iff.2 ((h.known hv).trans (rch_more.symm.trans (h2.known hv).symm))
  · intro v hv hk
    have hr := (h.known hv).1 hk
    obtain ⟨k1, w1⟩ := h.walk hv hr
    obtain ⟨k2, w2⟩ := h2.walk hv (rch_more.2 hr)
    have a1 := h2.le hv (wl_more (H := H) w1)
    have a2 := h.le hv (wl_less w2)
    simp only [Int.toNat_natCast] at a1 a2
    omega

theorem HeightsIs.zero {N : Nat} {l : List Arc3} {H : List Int} (h : HeightsIs N l H) {v : Nat} (hv : v < N) : ati H v ≤ 0 := (h.all v hv).2 v 0 0 hv (Wl.start l v)
theorem HeightsIs.arc {N : Nat} {l : List Arc3} {H : List Int} (h : HeightsIs N l H) {f t : Nat} {c : Int} (ha : ((f : Int), (t : Int), c) ∈ l) (hf : f < N) (ht : t < N) : ati H t ≤ ati H f + c := by
  obtain ⟨⟨s, k, hs, hw⟩, _⟩ := h.all f hf
  exact (h.all t ht).2 s _ _ hs (hw.step (a := ((f : Int), (t : Int), c)) ha)
theorem HeightsIs.bound {N : Nat} {l : List Arc3} {H : List Int} (h : HeightsIs N l H) (hN : N ≤ 12)
    (hl : ∀ a ∈ l, (0 ≤ a.1 ∧ a.1 < (N : Int)) ∧ (0 ≤ a.2.1 ∧ a.2.1 < (N : Int)) ∧ -10000 ≤ a.2.2 ∧ a.2.2 ≤ 10000) {v : Nat} (hv : v < N) : -120000 ≤ ati H v ∧ ati H v ≤ 0 := by
  have hl1 : ∀ a ∈ l, (0 ≤ a.1 ∧ a.1 < (N : Int)) ∧ (0 ≤ a.2.1 ∧ a.2.1 < (N : Int)) := fun a ha => ⟨(hl a ha).1, (hl a ha).2.1⟩
  refine ⟨?_, h.zero hv⟩
  obtain ⟨⟨s, k, hs, hw⟩, hm⟩ := h.all v hv
  have hno : ¬ LoopFrom l s := fun hc => h.noLoop (loop_any hl1 hs hc)
  obtain ⟨k', x', h1, h2, h3⟩ := Wl.few hl1 (show 0 ≤ (s : Int) ∧ (s : Int) < (N : Int) by omega) hno hw
  have h4 := hm s _ _ hs h3
  have h5 := h3.bound (M := 10000) fun a ha => (hl a ha).2.2
  omega

/-- only a length can be wrong behind it -/
theorem more_err {n : Int} {l m : List Arc3} (h : graphErr n (-10000) l = 0) (hlen : m.length = l.length) (hm : ∀ a ∈ m, (0 ≤ a.1 ∧ a.1 < n) ∧ (0 ≤ a.2.1 ∧ a.2.1 < n)) : graphErr n (-10000) m = 0 ∨ graphErr n (-10000) m = 1 := by
  obtain ⟨h1, h2, _⟩ := err_ok h
  unfold graphErr
  rw [if_neg (by omega), if_neg (by omega)]
  clear hlen
  induction m with
  | nil => exact Or.inl rfl
  | cons a r ih =>
    have ha := hm a (List.mem_cons_self ..)
    simp only [arcsErr]
    by_cases e : arcErr n (-10000) a.1 a.2.1 a.2.2 = 0
    · rw [if_pos e]; exact ih fun b hb => hm b (List.mem_cons_of_mem _ hb)
    · rw [if_neg e]
      right
      unfold arcErr at e ⊢
      have h1 : isN n a.1 = true := by simpa [isN] using ha.1
      have h2 : isN n a.2.1 = true := by simpa [isN] using ha.2
      rw [h1, h2, Bool.and_self, if_pos rfl] at e ⊢
      by_cases c : -10000 ≤ a.2.2 ∧ a.2.2 ≤ 10000
      · rw [if_pos c] at e; exact absurd rfl e
      · rw [if_neg c]

theorem line_heights {H : List Int} (h : HeightsIs 3 lineL H) : H = [0, 0, 0] := by
  have hp : ∀ a ∈ lineL, (fun _ => (0 : Int)) a.2.1 ≤ (fun _ => (0 : Int)) a.1 + a.2.2 := by
    intro a ha
    simp only [lineL, List.mem_cons, List.not_mem_nil, or_false] at ha
    rcases ha with rfl | rfl <;> decide
  refine ext_ati (by rw [h.len]; rfl) fun v hv => ?_
  rw [h.len] at hv
  obtain ⟨⟨s, k, _, hw⟩, _⟩ := h.all v hv
  have h1 := hw.pot (p := fun _ => 0) hp
  have h2 := h.zero hv
  have h3 : ati [0, 0, 0] v = 0 := by rcases (by omega : v = 0 ∨ v = 1 ∨ v = 2) with rfl | rfl | rfl <;> rfl
  omega

end Go.Proofs.Ytakemienlmlgkaa
