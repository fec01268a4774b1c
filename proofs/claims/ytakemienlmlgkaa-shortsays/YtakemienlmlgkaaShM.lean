/- Plain facts on how long ways are: lengths may be below 0; what goes round. -/
import Derived.Test.YtakemienlmlgkaaGErr
namespace Go.Proofs.Ytakemienlmlgkaa
set_option linter.unusedVariables false

/-- a walk of k arcs and of length x from s to v -/
def Wl (l : List Arc3) (s : Int) : Nat → Int → Int → Prop
  | 0, x, v => x = 0 ∧ v = s
  | k + 1, x, v => ∃ a ∈ l, Wl l s k (x - a.2.2) a.1 ∧ a.2.1 = v

theorem Wl.start (l : List Arc3) (s : Int) : Wl l s 0 0 s := ⟨rfl, rfl⟩
theorem Wl.step {l : List Arc3} {s : Int} {k : Nat} {x : Int} {a : Arc3} (h : Wl l s k x a.1) (ha : a ∈ l) : Wl l s (k + 1) (x + a.2.2) a.2.1 :=
  ⟨a, ha, by rw [show x + a.2.2 - a.2.2 = x by omega]; exact h, rfl⟩
theorem Wl.eq {l : List Arc3} {s v : Int} {k k' : Nat} {x x' : Int} (h : Wl l s k x v) (hk : k = k') (hx : x = x') : Wl l s k' x' v := by subst hk; subst hx; exact h
theorem Wl.trans {l : List Arc3} {s u : Int} {j : Nat} {x : Int} (h : Wl l s j x u) : ∀ {k : Nat} {y v : Int}, Wl l u k y v → Wl l s (j + k) (x + y) v
  | 0, y, v, ⟨hy, hv⟩ => by subst hv; exact h.eq rfl (by omega)
  | k + 1, y, v, ⟨a, ha, hk, hv⟩ => ⟨a, ha, (Wl.trans h hk).eq rfl (by omega), hv⟩
theorem Wl.node {N : Int} {l : List Arc3} {s : Int} (hl : ∀ a ∈ l, (0 ≤ a.1 ∧ a.1 < N) ∧ (0 ≤ a.2.1 ∧ a.2.1 < N)) (hs : 0 ≤ s ∧ s < N) : ∀ {k : Nat} {x v : Int}, Wl l s k x v → 0 ≤ v ∧ v < N
  | 0, x, v, h => by rw [h.2]; exact hs
  | k + 1, x, v, ⟨a, ha, _, hv⟩ => by rw [← hv]; exact (hl a ha).2
theorem Wl.bound {l : List Arc3} {M : Int} (hl : ∀ a ∈ l, -M ≤ a.2.2 ∧ a.2.2 ≤ M) {s : Int} : ∀ {k : Nat} {x v : Int}, Wl l s k x v → -(M * k) ≤ x ∧ x ≤ M * k
  | 0, x, v, h => by rw [h.1]; simp
  | k + 1, x, v, ⟨a, ha, hk, hv⟩ => by
    have h1 := Wl.bound hl hk
    have h2 := hl a ha
    have e : M * ((k + 1 : Nat) : Int) = M * k + M := by rw [Int.natCast_add, Int.mul_add]; simp
    rw [e]
    omega

/-- one comes there -/
def Rch (l : List Arc3) (s v : Int) : Prop := ∃ k x, Wl l s k x v
/-- a way below 0 leads from it to itself -/
def Neg (l : List Arc3) (v : Int) : Prop := ∃ k x, Wl l v k x v ∧ x < 0
/-- one comes to such a node -/
def LoopFrom (l : List Arc3) (s : Int) : Prop := ∃ v, Rch l s v ∧ Neg l v

theorem Rch.refl (l : List Arc3) (s : Int) : Rch l s s := ⟨0, 0, Wl.start l s⟩
theorem Rch.trans {l : List Arc3} {s u v : Int} (h1 : Rch l s u) (h2 : Rch l u v) : Rch l s v := by
  obtain ⟨k, x, h1⟩ := h1
  obtain ⟨j, y, h2⟩ := h2
  exact ⟨_, _, h1.trans h2⟩

/-! ### A walk, node by node -/

def Trk (l : List Arc3) (k : Nat) (f c : Nat → Int) : Prop := ∀ i, i < k → ∃ a ∈ l, a.1 = f i ∧ a.2.1 = f (i + 1) ∧ c (i + 1) = c i + a.2.2

theorem Wl.trk {l : List Arc3} {s : Int} : ∀ {k : Nat} {x v : Int}, Wl l s k x v → ∃ f c : Nat → Int, f 0 = s ∧ f k = v ∧ c 0 = 0 ∧ c k = x ∧ Trk l k f c
  | 0, x, v, h => ⟨fun _ => s, fun _ => 0, rfl, h.2.symm, rfl, h.1.symm, fun i hi => absurd hi (by omega)⟩
  | k + 1, x, v, ⟨a, ha, hk, hv⟩ => by
    obtain ⟨f, c, h1, h2, h3, h4, h5⟩ := Wl.trk hk
    refine ⟨fun i => if i = k + 1 then v else f i, fun i => if i = k + 1 then x else c i, by simp [h1], by simp, by simp [h3], by simp, fun i hi => ?_⟩
    by_cases e : i = k
    · subst e
      exact ⟨a, ha, by simp [h2], by simp [hv], by simp; omega⟩
    · obtain ⟨b, hb, b1, b2, b3⟩ := h5 i (by omega)
      exact ⟨b, hb, by simp [b1, show i ≠ k + 1 by omega], by simp [b2, e], by simp [b3, e, show i ≠ k + 1 by omega]⟩

theorem Trk.seg {l : List Arc3} {k : Nat} {f c : Nat → Int} (h : Trk l k f c) (i : Nat) : ∀ n, i + n ≤ k → Wl l (f i) n (c (i + n) - c i) (f (i + n))
  | 0, _ => ⟨by simp, rfl⟩
  | n + 1, hn => by
    obtain ⟨a, ha, h1, h2, h3⟩ := h (i + n) (by omega)
    have ih := Trk.seg h i n (by omega)
    refine ⟨a, ha, ?_, h2⟩
    rw [h1]
    exact ih.eq rfl (by rw [show i + (n + 1) = i + n + 1 by omega, h3]; omega)

theorem pigF {N : Nat} {f : Nat → Int} (hf : ∀ i, i ≤ N → 0 ≤ f i ∧ f i < (N : Int)) : ∃ i j, i < j ∧ j ≤ N ∧ f i = f j := by
  have pigN : ∀ {A m : List Int}, A.Nodup → (∀ x ∈ A, x ∈ m) → A.length ≤ m.length := by
    intro A
    induction A with
    | nil => intros; exact Nat.zero_le _
    | cons a A ih =>
      intro m hn hs
      rw [List.nodup_cons] at hn
      have ha : a ∈ m := hs a (List.mem_cons_self ..)
      have := ih (m := m.erase a) hn.2 fun x hx => (List.mem_erase_of_ne (show x ≠ a from fun e => hn.1 (e ▸ hx))).2 (hs x (List.mem_cons_of_mem _ hx))
      rw [List.length_erase_of_mem ha] at this
      have := List.length_pos_of_mem ha
      rw [List.length_cons]
      omega
  refine Classical.byContradiction fun hc => ?_
  have hn : ((List.range (N + 1)).map f).Nodup := by
    rw [List.Nodup, List.pairwise_map]
    refine List.pairwise_lt_range.imp_of_mem fun {a b} ha hb hlt he => hc ⟨a, b, hlt, ?_, he⟩
    have := List.mem_range.1 hb
    omega
  have hs : ∀ x ∈ (List.range (N + 1)).map f, x ∈ (List.range N).map (fun i : Nat => (i : Int)) := by
    intro x hx
    obtain ⟨i, hi, rfl⟩ := List.mem_map.1 hx
    have := hf i (by have := List.mem_range.1 hi; omega)
    exact List.mem_map.2 ⟨(f i).toNat, List.mem_range.2 (by omega), by omega⟩
  have := pigN hn hs
  simp at this
  omega

/-- a walk of as many arcs as there are nodes goes round somewhere -/
theorem Wl.cut {N : Nat} {l : List Arc3} (hl : ∀ a ∈ l, (0 ≤ a.1 ∧ a.1 < (N : Int)) ∧ (0 ≤ a.2.1 ∧ a.2.1 < (N : Int))) {s v x : Int} {k : Nat} (hs : 0 ≤ s ∧ s < (N : Int)) (h : Wl l s k x v) (hk : N ≤ k) :
    ∃ (u : Int) (n m : Nat) (y : Int), 0 < n ∧ n ≤ N ∧ n + m = k ∧ Wl l u n y u ∧ Rch l s u ∧ Wl l s m (x - y) v := by
  obtain ⟨f, c, h1, h2, h3, h4, ht⟩ := h.trk
  have hf : ∀ i, i ≤ N → 0 ≤ f i ∧ f i < (N : Int) := fun i hi => by
    have := ht.seg 0 i (by omega)
    rw [h1, Nat.zero_add] at this
    exact this.node hl hs
  obtain ⟨i, j, hij, hj, he⟩ := pigF hf
  have w1 := ht.seg 0 i (by omega)
  have w2 := ht.seg i (j - i) (by omega)
  have w3 := ht.seg j (k - j) (by omega)
  rw [h1, Nat.zero_add] at w1
  rw [show i + (j - i) = j by omega, ← he] at w2
  rw [show j + (k - j) = k by omega, ← he, h2] at w3
  refine ⟨f i, j - i, i + (k - j), c j - c i, by omega, by omega, by omega, w2, ⟨_, _, w1⟩, (w1.trans w3).eq rfl (by omega)⟩

/-- where nothing goes round below 0 few arcs will do -/
theorem Wl.few {N : Nat} {l : List Arc3} (hl : ∀ a ∈ l, (0 ≤ a.1 ∧ a.1 < (N : Int)) ∧ (0 ≤ a.2.1 ∧ a.2.1 < (N : Int))) {s : Int} (hs : 0 ≤ s ∧ s < (N : Int)) (hno : ¬ LoopFrom l s) :
    ∀ {k : Nat} {x v : Int}, Wl l s k x v → ∃ k' x', k' < N ∧ x' ≤ x ∧ Wl l s k' x' v := by
  intro k
  induction k using Nat.strongRecOn with
  | ind k ih =>
    intro x v h
    by_cases hk : k < N
    · exact ⟨k, x, hk, Int.le_refl _, h⟩
    · obtain ⟨u, n, m, y, hn, _, he, hw, hr, hm⟩ := h.cut hl hs (by omega)
      have hy : 0 ≤ y := Int.not_lt.1 fun hy => hno ⟨u, hr, n, y, hw, hy⟩
      obtain ⟨k', x', h1, h2, h3⟩ := ih m (by omega) hm
      exact ⟨k', x', h1, by omega, h3⟩

/-- what goes round below 0 does so somewhere by few arcs -/
theorem neg_few {N : Nat} {l : List Arc3} (hl : ∀ a ∈ l, (0 ≤ a.1 ∧ a.1 < (N : Int)) ∧ (0 ≤ a.2.1 ∧ a.2.1 < (N : Int))) :
    ∀ {k : Nat} {s x : Int}, 0 ≤ s ∧ s < (N : Int) → Wl l s k x s → x < 0 → ∃ u n y, Rch l s u ∧ n ≤ N ∧ Wl l u n y u ∧ y < 0 := by
  intro k
  induction k using Nat.strongRecOn with
  | ind k ih =>
    intro s x hs h hx
    by_cases hk : k < N
    · exact ⟨s, k, x, Rch.refl l s, by omega, h, hx⟩
    · obtain ⟨u, n, m, y, hn, hnN, he, hw, hr, hm⟩ := h.cut hl hs (by omega)
      by_cases hy : y < 0
      · exact ⟨u, n, y, hr, hnN, hw, hy⟩
      · exact ih m (by omega) hs hm (by omega)

/-! ### What the program tells -/

def atb (l : List Bool) (k : Nat) : Bool := l.getD k false
theorem atb_lt (l : List Bool) (k : Nat) (h : k < l.length) : atb l k = l[k] := by simp [atb, h]

structure FromIs (N : Nat) (l : List Arc3) (s : Int) (F : List Int) (K : List Bool) : Prop where
  lenF : F.length = N
  lenK : K.length = N
  all : ∀ v : Nat, v < N → (atb K v = false ∧ ati F v = 0 ∧ ¬ Rch l s v) ∨ (atb K v = true ∧ (∃ k, Wl l s k (ati F v) v) ∧ ∀ k x, Wl l s k x v → ati F v ≤ x)

structure HeightsIs (N : Nat) (l : List Arc3) (H : List Int) : Prop where
  len : H.length = N
  all : ∀ v : Nat, v < N → (∃ (s : Nat) (k : Nat), s < N ∧ Wl l s k (ati H v) v) ∧ ∀ (s : Nat) (k : Nat) (x : Int), s < N → Wl l s k x v → ati H v ≤ x

theorem FromIs.known {N : Nat} {l : List Arc3} {s : Int} {F : List Int} {K : List Bool} (h : FromIs N l s F K) {v : Nat} (hv : v < N) : atb K v = true ↔ Rch l s v := by
  rcases h.all v hv with ⟨h1, _, h3⟩ | ⟨h1, ⟨k, h2⟩, _⟩
  · rw [h1]; exact ⟨(fun e => absurd e (by decide)), fun r => absurd r h3⟩
  · rw [h1]; exact ⟨fun _ => ⟨k, _, h2⟩, fun _ => rfl⟩
theorem FromIs.walk {N : Nat} {l : List Arc3} {s : Int} {F : List Int} {K : List Bool} (h : FromIs N l s F K) {v : Nat} (hv : v < N) (hr : Rch l s v) : ∃ k, Wl l s k (ati F v) v := by
  rcases h.all v hv with ⟨_, _, h3⟩ | ⟨_, h2, _⟩
  · exact absurd hr h3
  · exact h2
theorem FromIs.le {N : Nat} {l : List Arc3} {s : Int} {F : List Int} {K : List Bool} (h : FromIs N l s F K) {v : Nat} (hv : v < N) {k : Nat} {x : Int} (hw : Wl l s k x v) : ati F v ≤ x := by
  rcases h.all v hv with ⟨_, _, h3⟩ | ⟨_, _, h3⟩
  · exact absurd ⟨k, x, hw⟩ h3
  · exact h3 k x hw
theorem FromIs.noLoop {N : Nat} {l : List Arc3} {s : Int} {F : List Int} {K : List Bool} (hl : ∀ a ∈ l, (0 ≤ a.1 ∧ a.1 < (N : Int)) ∧ (0 ≤ a.2.1 ∧ a.2.1 < (N : Int))) (hs : 0 ≤ s ∧ s < (N : Int)) (h : FromIs N l s F K) : ¬ LoopFrom l s := by
  rintro ⟨u, hr, n, y, hw, hy⟩
  obtain ⟨_, _, hr'⟩ := id hr
  have hu := hr'.node hl hs
  obtain ⟨u, rfl⟩ := Int.eq_ofNat_of_zero_le hu.1
  obtain ⟨k, hk⟩ := h.walk (v := u) (by omega) hr
  have := h.le (v := u) (by omega) (hk.trans hw)
  omega
theorem FromIs.first {N : Nat} {l : List Arc3} {s : Nat} {F : List Int} {K : List Bool} (h : FromIs N l s F K) (hs : s < N) (hl : ∀ a ∈ l, (0 ≤ a.1 ∧ a.1 < (N : Int)) ∧ (0 ≤ a.2.1 ∧ a.2.1 < (N : Int))) : atb K s = true ∧ ati F s = 0 := by
  refine ⟨(h.known hs).2 (Rch.refl l s), ?_⟩
  have h1 := h.le hs (Wl.start l s)
  obtain ⟨k, hk⟩ := h.walk hs (Rch.refl l s)
  have h2 : ¬ ati F s < 0 := fun hx => h.noLoop hl (by omega) ⟨s, Rch.refl l s, k, _, hk, hx⟩
  omega
/-- no arc makes it shorter -/
theorem FromIs.arc {N : Nat} {l : List Arc3} {s : Int} {F : List Int} {K : List Bool} (h : FromIs N l s F K) {f t : Nat} {c : Int} (ha : ((f : Int), (t : Int), c) ∈ l) (hf : f < N) (ht : t < N) (hk : atb K f = true) : atb K t = true ∧ ati F t ≤ ati F f + c := by
  obtain ⟨k, hw⟩ := h.walk hf ((h.known hf).1 hk)
  have w2 := hw.step (a := ((f : Int), (t : Int), c)) ha
  exact ⟨(h.known ht).2 ⟨_, _, w2⟩, h.le ht w2⟩
/-- by some arc it is just as short -/
theorem FromIs.hit {N : Nat} {l : List Arc3} {s : Nat} {F : List Int} {K : List Bool} (h : FromIs N l s F K) (hl : ∀ a ∈ l, (0 ≤ a.1 ∧ a.1 < (N : Int)) ∧ (0 ≤ a.2.1 ∧ a.2.1 < (N : Int))) {v : Nat} (hv : v < N) (hk : atb K v = true) (hne : v ≠ s) :
    ∃ (f : Nat) (c : Int), ((f : Int), (v : Int), c) ∈ l ∧ f < N ∧ atb K f = true ∧ ati F v = ati F f + c := by
  obtain ⟨k, hw⟩ := h.walk hv ((h.known hv).1 hk)
  match k, hw with
  | 0, hw => exact absurd hw.2 (by omega)
  | k + 1, ⟨a, ha, hk', e⟩ =>
    obtain ⟨⟨h1, h2⟩, _⟩ := hl a ha
    obtain ⟨f, t, c⟩ := a
    simp only at h1 h2 hk' e
    subst e
    obtain ⟨f, rfl⟩ := Int.eq_ofNat_of_zero_le h1
    have hf : f < N := by omega
    have hr := (h.known hf).2 ⟨_, _, hk'⟩
    have l1 := h.le hf hk'
    have l2 := (h.arc ha hf hv hr).2
    exact ⟨f, c, ha, hf, hr, by omega⟩

end Go.Proofs.Ytakemienlmlgkaa
