/- Plain facts on the document's own lengths: of at most 24 arcs. -/
import Derived.Test.YtakemienlmlgkaaHtM
import Derived.Test.YtakemienlmlgkaaFloyd
namespace Go.Proofs.Ytakemienlmlgkaa
set_option linter.unusedVariables false

/-- the least of what is so; noEnd where nothing is -/
def IsMin (P : Int → Prop) (y : Int) : Prop := (y = noEnd ∧ ∀ x, ¬ P x) ∨ (P y ∧ ∀ x, P x → y ≤ x)

theorem IsMin.iff {P Q : Int → Prop} {y : Int} (h : IsMin P y) (e : ∀ x, P x ↔ Q x) : IsMin Q y := by
  rcases h with ⟨h1, h2⟩ | ⟨h1, h2⟩
  · exact Or.inl ⟨h1, fun x hx => h2 x ((e x).2 hx)⟩
  · exact Or.inr ⟨(e y).1 h1, fun x hx => h2 x ((e x).2 hx)⟩
theorem IsMin.or {P Q : Int → Prop} {y z : Int} (h : IsMin P y) (h' : IsMin Q z) (hP : ∀ x, P x → x < noEnd) (hQ : ∀ x, Q x → x < noEnd) : IsMin (fun x => P x ∨ Q x) (min y z) := by
  rcases h with ⟨h1, h2⟩ | ⟨h1, h2⟩ <;> rcases h' with ⟨h3, h4⟩ | ⟨h3, h4⟩
  · exact Or.inl ⟨by omega, fun x hx => hx.elim (h2 x) (h4 x)⟩
  · have := hQ z h3
    rw [show min y z = z by omega]
    exact Or.inr ⟨Or.inr h3, fun x hx => hx.elim (fun h => absurd h (h2 x)) (h4 x)⟩
  · have := hP y h1
    rw [show min y z = y by omega]
    exact Or.inr ⟨Or.inl h1, fun x hx => hx.elim (h2 x) (fun h => absurd h (h4 x))⟩
  · by_cases c : y ≤ z
    · rw [show min y z = y by omega]
      exact Or.inr ⟨Or.inl h1, fun x hx => hx.elim (h2 x) fun h => by have := h4 x h; omega⟩
    · rw [show min y z = z by omega]
      exact Or.inr ⟨Or.inr h3, fun x hx => hx.elim (fun h => by have := h2 x h; omega) (h4 x)⟩

/-- a walk of at most r arcs, or of one more, of the first k -/
def Wr (l : List Arc3) (s : Int) (r k : Nat) (v x : Int) : Prop :=
  (∃ j, j ≤ r ∧ Wl l s j x v) ∨ (∃ i, i < k ∧ (at3 l i).2.1 = v ∧ ∃ j, j ≤ r ∧ Wl l s j (x - (at3 l i).2.2) (at3 l i).1)

def LwK (N : Nat) (l : List Arc3) (s : Int) (r k : Nat) (g : Nat → Int) : Prop := ∀ v : Nat, v < N → IsMin (Wr l s r k v) (g v)

theorem Wr.bound {l : List Arc3} (hl : ∀ a ∈ l, -10000 ≤ a.2.2 ∧ a.2.2 ≤ 10000) {s : Int} {r k : Nat} (hk : k ≤ l.length) {v x : Int} (h : Wr l s r k v x) : -(10000 * ((r : Int) + 1)) ≤ x ∧ x ≤ 10000 * ((r : Int) + 1) := by
  rcases h with ⟨j, hj, hw⟩ | ⟨i, hi, _, j, hj, hw⟩
  · have := hw.bound hl; omega
  · have := hw.bound hl
    have := hl _ (at3_mem l i (by omega))
    omega
theorem LwK.bound {N : Nat} {l : List Arc3} (hl : ∀ a ∈ l, -10000 ≤ a.2.2 ∧ a.2.2 ≤ 10000) {s : Int} {r k : Nat} (hk : k ≤ l.length) (hr : r ≤ 24) {g : Nat → Int} (h : LwK N l s r k g) {v : Nat} (hv : v < N) : (g v = noEnd) ∨ (-250000 ≤ g v ∧ g v ≤ 250000) := by
  rcases h v hv with ⟨h1, _⟩ | ⟨h1, _⟩
  · exact Or.inl h1
  · have := h1.bound hl hk; right; omega

theorem lw_start (N : Nat) (l : List Arc3) (s : Nat) : LwK N l s 0 0 (fun v => if v = s then 0 else noEnd) := by
  intro v hv
  by_cases e : v = s
  · subst e
    simp only [if_true]
    refine Or.inr ⟨Or.inl ⟨0, Nat.le_refl _, Wl.start l v⟩, fun x hx => ?_⟩
    rcases hx with ⟨j, hj, hw⟩ | ⟨i, hi, _⟩
    · obtain rfl : j = 0 := by omega
      have := hw.1; omega
    · omega
  · simp only [e, if_false]
    refine Or.inl ⟨rfl, fun x hx => ?_⟩
    rcases hx with ⟨j, hj, hw⟩ | ⟨i, hi, _⟩
    · obtain rfl : j = 0 := by omega
      have := hw.2; omega
    · omega

theorem lw_next {N : Nat} {l : List Arc3} {s : Int} {r : Nat} {g : Nat → Int} (h : LwK N l s r l.length g) : LwK N l s (r + 1) 0 g := by
  intro v hv
  refine (h v hv).iff fun x => ⟨fun hx => ?_, fun hx => ?_⟩
  · rcases hx with ⟨j, hj, hw⟩ | ⟨i, hi, he, j, hj, hw⟩
    · exact Or.inl ⟨j, by omega, hw⟩
    · exact Or.inl ⟨j + 1, by omega, _, at3_mem l i hi, hw, he⟩
  · rcases hx with ⟨j, hj, hw⟩ | ⟨i, hi, _⟩
    · by_cases e : j ≤ r
      · exact Or.inl ⟨j, e, hw⟩
      · obtain rfl : j = r + 1 := by omega
        obtain ⟨a, ha, hk, he⟩ := hw
        obtain ⟨i, hi, rfl⟩ := List.mem_iff_getElem.1 ha
        exact Or.inr ⟨i, hi, by rw [at3_lt l i hi]; exact he, r, Nat.le_refl _, by rw [at3_lt l i hi]; exact hk⟩
    · omega

theorem wr_snoc {l : List Arc3} {s : Int} {r k : Nat} {v x : Int} : Wr l s r (k + 1) v x ↔ Wr l s r k v x ∨ ((at3 l k).2.1 = v ∧ ∃ j, j ≤ r ∧ Wl l s j (x - (at3 l k).2.2) (at3 l k).1) := by
  constructor
  · rintro (h | ⟨i, hi, h⟩)
    · exact Or.inl (Or.inl h)
    · by_cases e : i = k
      · subst e; exact Or.inr h
      · exact Or.inl (Or.inr ⟨i, by omega, h⟩)
  · rintro ((h | ⟨i, hi, h⟩) | h)
    · exact Or.inl h
    · exact Or.inr ⟨i, by omega, h⟩
    · exact Or.inr ⟨k, by omega, h⟩

theorem lw_hit {N : Nat} {l : List Arc3} (hl : ∀ a ∈ l, -10000 ≤ a.2.2 ∧ a.2.2 ≤ 10000) {s : Int} {r k : Nat} {D g : Nat → Int} {f t : Nat} {c : Int} (hD : LwK N l s r 0 D) (h : LwK N l s r k g) (hr : r ≤ 24) (hk : k < l.length) (ha : at3 l k = ((f : Int), (t : Int), c)) (hf : f < N) (ht : t < N) (h1 : D f < noEnd) :
    LwK N l s r (k + 1) (fun v => if v = t then min (g t) (D f + c) else g v) := by
  intro v hv
  by_cases e : v = t
  · subst e
    simp only [if_true]
    have hQ : IsMin (fun x => ∃ j, j ≤ r ∧ Wl l s j (x - c) f) (D f + c) := by
      rcases hD f hf with ⟨h2, _⟩ | ⟨h2, h3⟩
      · omega
      · rcases h2 with ⟨j, hj, hw⟩ | ⟨i, hi, _⟩
        · refine Or.inr ⟨⟨j, hj, hw.eq rfl (by omega)⟩, ?_⟩
          rintro x ⟨j, hj, hw⟩
          have := h3 _ (Or.inl ⟨j, hj, hw⟩)
          omega
        · omega
    have hn : (10000 : Int) * 26 < noEnd := by decide
    have hca := hl _ (at3_mem l k hk)
    rw [ha] at hca
    simp only at hca
    refine ((h v hv).or hQ (fun x hx => by have := hx.bound hl (by omega); omega) ?_).iff fun x => ?_
    · rintro x ⟨j, hj, hw⟩
      have := hw.bound hl
      omega
    · rw [wr_snoc, ha]
      simp
  · simp only [e, if_false]
    refine (h v hv).iff fun x => ?_
    rw [wr_snoc, ha]
    simp only
    exact ⟨Or.inl, fun hx => hx.elim id fun hx => absurd hx.1 (by omega)⟩

theorem lw_miss {N : Nat} {l : List Arc3} {s : Int} {r k : Nat} {D g : Nat → Int} {f t : Nat} {c : Int} (hl : ∀ a ∈ l, -10000 ≤ a.2.2 ∧ a.2.2 ≤ 10000) (hD : LwK N l s r 0 D) (h : LwK N l s r k g) (hr : r ≤ 24) (ha : at3 l k = ((f : Int), (t : Int), c)) (hf : f < N) (h1 : ¬ D f < noEnd) : LwK N l s r (k + 1) g := by
  intro v hv
  refine (h v hv).iff fun x => ?_
  rw [wr_snoc, ha]
  simp only
  refine ⟨Or.inl, fun hx => hx.elim id fun hx => ?_⟩
  obtain ⟨_, j, hj, hw⟩ := hx
  rcases hD f hf with ⟨_, h3⟩ | ⟨h2, _⟩
  · exact absurd (Or.inl ⟨j, hj, hw⟩) (h3 _)
  · have := h2.bound hl (Nat.zero_le _)
    have hn : (10000 : Int) * 26 < noEnd := by decide
    omega

/-- the least lengths of at most 24 arcs -/
def LongIs (N : Nat) (l : List Arc3) (M : Nat → Nat → Int) : Prop := ∀ i : Nat, i < N → LwK N l i 24 0 (M i)

theorem LongIs.min {N : Nat} {l : List Arc3} {M : Nat → Nat → Int} (h : LongIs N l M) {i v : Nat} (hi : i < N) (hv : v < N) : IsMin (fun x => ∃ j, j ≤ 24 ∧ Wl l i j x v) (M i v) :=
  (h i hi v hv).iff fun x => ⟨fun hx => hx.elim id fun ⟨_, hi, _⟩ => absurd hi (by omega), Or.inl⟩

theorem long_loop {N : Nat} {l : List Arc3} {M : Nat → Nat → Int} (h : LongIs N l M) {v : Nat} (hv : v < N) (hM : M v v < 0) : Neg l v := by
  have hn : (0 : Int) < noEnd := by decide
  rcases h.min hv hv with ⟨h1, _⟩ | ⟨⟨j, _, h1⟩, _⟩
  · omega
  · exact ⟨j, _, h1, hM⟩
theorem neg_long {N : Nat} {l : List Arc3} (hl : ∀ a ∈ l, (0 ≤ a.1 ∧ a.1 < (N : Int)) ∧ (0 ≤ a.2.1 ∧ a.2.1 < (N : Int))) (hN : N ≤ 12) {M : Nat → Nat → Int} (h : LongIs N l M) {v : Int} (hv : 0 ≤ v ∧ v < (N : Int)) (hn : Neg l v) : ∃ u : Nat, u < N ∧ M u u < 0 ∧ Rch l v u := by
  obtain ⟨k, x, hw, hx⟩ := hn
  obtain ⟨u, n, y, hr, hnN, hw', hy⟩ := neg_few hl hv hw hx
  obtain ⟨_, _, hr'⟩ := id hr
  have hu := hr'.node hl hv
  obtain ⟨u, rfl⟩ := Int.eq_ofNat_of_zero_le hu.1
  refine ⟨u, by omega, ?_, hr⟩
  rcases h.min (i := u) (v := u) (by omega) (by omega) with ⟨_, h2⟩ | ⟨_, h2⟩
  · exact absurd ⟨n, by omega, hw'⟩ (h2 y)
  · have := h2 y ⟨n, by omega, hw'⟩; omega
theorem loopFrom_long {N : Nat} {l : List Arc3} (hl : ∀ a ∈ l, (0 ≤ a.1 ∧ a.1 < (N : Int)) ∧ (0 ≤ a.2.1 ∧ a.2.1 < (N : Int))) (hN : N ≤ 12) {M : Nat → Nat → Int} (h : LongIs N l M) {s : Nat} (hs : s < N) : LoopFrom l s ↔ ∃ k : Nat, k < N ∧ M k k < 0 ∧ Rch l s k := by
  constructor
  · rintro ⟨v, hr, hn⟩
    obtain ⟨_, _, hr'⟩ := id hr
    obtain ⟨u, hu, hM, hr2⟩ := neg_long hl hN h (hr'.node hl (by omega)) hn
    exact ⟨u, hu, hM, hr.trans hr2⟩
  · rintro ⟨k, hk, hM, hr⟩
    exact ⟨k, hr, long_loop h hk hM⟩
theorem anyNeg_long {N : Nat} {l : List Arc3} (hl : ∀ a ∈ l, (0 ≤ a.1 ∧ a.1 < (N : Int)) ∧ (0 ≤ a.2.1 ∧ a.2.1 < (N : Int))) (hN : N ≤ 12) {M : Nat → Nat → Int} (h : LongIs N l M) : (∃ v, (0 ≤ v ∧ v < (N : Int)) ∧ Neg l v) ↔ ∃ k : Nat, k < N ∧ M k k < 0 := by
  constructor
  · rintro ⟨v, hv, hn⟩
    obtain ⟨u, hu, hM, _⟩ := neg_long hl hN h hv hn
    exact ⟨u, hu, hM⟩
  · rintro ⟨k, hk, hM⟩
    exact ⟨k, by omega, long_loop h hk hM⟩

/-- what From tells is that -/
theorem long_row {N : Nat} {l : List Arc3} (hl : ∀ a ∈ l, (0 ≤ a.1 ∧ a.1 < (N : Int)) ∧ (0 ≤ a.2.1 ∧ a.2.1 < (N : Int))) (hN : N ≤ 12) {M : Nat → Nat → Int} (h : LongIs N l M) {s : Nat} (hs : s < N) {F : List Int} {K : List Bool} (hF : FromIs N l s F K) {v : Nat} (hv : v < N) :
    (atb K v = true ∧ M s v = ati F v) ∨ (atb K v = false ∧ M s v = noEnd ∧ ati F v = 0) := by
  rcases hF.all v hv with ⟨h1, h2, h3⟩ | ⟨h1, ⟨k, hw⟩, h3⟩
  · right
    refine ⟨h1, ?_, h2⟩
    rcases h.min hs hv with ⟨h4, _⟩ | ⟨⟨j, _, h4⟩, _⟩
    · exact h4
    · exact absurd ⟨_, _, h4⟩ h3
  · left
    refine ⟨h1, ?_⟩
    obtain ⟨k', x', a1, a2, a3⟩ := Wl.few hl (show 0 ≤ (s : Int) ∧ (s : Int) < (N : Int) by omega) (hF.noLoop hl (by omega)) hw
    rcases h.min hs hv with ⟨_, h4⟩ | ⟨⟨j, _, h4⟩, h5⟩
    · exact absurd ⟨k', by omega, a3⟩ (h4 x')
    · have b1 := h3 _ _ h4
      have b2 := h5 x' ⟨k', by omega, a3⟩
      omega

/-- the least of a column, and 0 -/
def lowK (M : Nat → Nat → Int) (k : Nat) : Nat → Int
  | 0 => 0
  | s + 1 => min (lowK M k s) (M s k)
theorem lowK_le (M : Nat → Nat → Int) (k : Nat) : ∀ n, lowK M k n ≤ 0 ∧ ∀ s, s < n → lowK M k n ≤ M s k
  | 0 => ⟨Int.le_refl _, fun s hs => absurd hs (by omega)⟩
  | n + 1 => by
    have ih := lowK_le M k n
    simp only [lowK]
    refine ⟨by omega, fun s hs => ?_⟩
    by_cases e : s = n
    · subst e; omega
    · have := ih.2 s (by omega); omega
theorem lowK_ge {M : Nat → Nat → Int} {k : Nat} {y : Int} (hy : y ≤ 0) : ∀ n, (∀ s, s < n → y ≤ M s k) → y ≤ lowK M k n
  | 0, _ => hy
  | n + 1, h => by
    have ih := lowK_ge (M := M) (k := k) hy n fun s hs => h s (by omega)
    have := h n (by omega)
    simp only [lowK]
    omega
theorem long_low {N : Nat} {l : List Arc3} (hl : ∀ a ∈ l, (0 ≤ a.1 ∧ a.1 < (N : Int)) ∧ (0 ≤ a.2.1 ∧ a.2.1 < (N : Int))) (hN : N ≤ 12) {M : Nat → Nat → Int} (h : LongIs N l M) {H : List Int} (hH : HeightsIs N l H) {k : Nat} (hk : k < N) : lowK M k N = ati H k := by
  have hn : (0 : Int) < noEnd := by decide
  have a1 : ati H k ≤ lowK M k N := by
    refine lowK_ge (hH.zero hk) N fun s hs => ?_
    rcases h.min hs hk with ⟨h1, _⟩ | ⟨⟨j, _, h1⟩, _⟩
    · have := hH.zero hk; omega
    · exact (hH.all k hk).2 s _ _ hs h1
  have a2 : lowK M k N ≤ ati H k := by
    obtain ⟨⟨s, j, hs, hw⟩, hm⟩ := hH.all k hk
    have hno : ¬ LoopFrom l s := fun hc => hH.noLoop (loop_any hl hs hc)
    obtain ⟨k', x', b1, b2, b3⟩ := Wl.few hl (show 0 ≤ (s : Int) ∧ (s : Int) < (N : Int) by omega) hno hw
    have b4 := (lowK_le M k N).2 s hs
    rcases h.min hs hk with ⟨_, h4⟩ | ⟨_, h5⟩
    · exact absurd ⟨k', by omega, b3⟩ (h4 x')
    · have := h5 x' ⟨k', by omega, b3⟩; omega
  omega

theorem wk_wl {l : List Arc3} {s : Int} : ∀ {k : Nat} {v : Int}, Wk l s k v → ∃ x, Wl l s k x v
  | 0, v, h => ⟨0, rfl, h⟩
  | k + 1, v, ⟨a, ha, hk, he⟩ => by
    obtain ⟨x, hx⟩ := wk_wl hk
    exact ⟨x + a.2.2, a, ha, hx.eq rfl (by omega), he⟩
theorem wl_wk {l : List Arc3} {s : Int} : ∀ {k : Nat} {x v : Int}, Wl l s k x v → Wk l s k v
  | 0, x, v, h => h.2
  | k + 1, x, v, ⟨a, ha, hk, he⟩ => ⟨a, ha, wl_wk hk, he⟩

theorem ways_rch {N : Nat} {l : List Arc3} (hl : ∀ a ∈ l, (0 ≤ a.1 ∧ a.1 < (N : Int)) ∧ (0 ≤ a.2.1 ∧ a.2.1 < (N : Int))) (hN : N ≤ 12) {M : Nat → Nat → Int} (hI : IsInit N l M) {s k : Nat} (hs : s < N) (hk : k < N) : flo M N s k < 100 ↔ Rch l s k := by
  obtain ⟨F, hF⟩ := far_there N l s
  rw [flo_far hI hN hl hs hF hk]
  have hn : (100 : Int) < noEnd := by decide
  constructor
  · intro h
    by_cases c : ati F k < 0
    · rw [if_pos c] at h; omega
    · obtain ⟨x, hx⟩ := wk_wl (hF.walk hk (by omega))
      exact ⟨_, x, hx⟩
  · rintro ⟨j, x, hx⟩
    have h1 := hF.le hk (wl_wk hx)
    rw [if_neg (by omega)]
    rcases hF.all k hk with ⟨h2, _⟩ | ⟨d, h2, h3, h4⟩
    · omega
    · have := hF.lt hl hk
      omega

end Go.Proofs.Ytakemienlmlgkaa
