/- Plain: what spread, join and Path of package walk come to, as mathematics on lists. -/
import Derived.Test.YtgmdacobbeoobaaSMath
import Derived.Test.YtgmdacobbeoobaaPMath
namespace Go.Proofs.Ytgmdacobbeoobaa
set_option linter.unusedVariables false

/-- level by level: behind the first k arcs of level d -/
def Lev (N : Nat) (l : List Arc3) (s : Int) (d k : Nat) (F : Nat → Int) : Prop :=
  ∀ v : Nat, v < N → (F v = -1 ∧ (∀ j, j ≤ d → ¬ Wk l s j v) ∧ ∀ a ∈ l.take k, a.2.1 = (v : Int) → ¬ Wk l s d a.1) ∨ (∃ e : Nat, F v = e ∧ Wk l s e v ∧ ∀ j, Wk l s j v → e ≤ j)

theorem lev_start (N : Nat) (l : List Arc3) (s : Nat) : Lev N l s 0 0 (fun v => if v = s then 0 else -1) := by
  intro v _
  by_cases e : v = s
  · subst e; exact Or.inr ⟨0, by simp, rfl, fun j _ => Nat.zero_le _⟩
  · refine Or.inl ⟨by simp [e], fun j hj hw => ?_, fun a ha => by simp at ha⟩
    have : j = 0 := by omega
    subst this
    have : (v : Int) = s := hw
    exact e (by omega)

theorem lev_hit {N : Nat} {l : List Arc3} {s : Int} {d k : Nat} {F : Nat → Int} (h : Lev N l s d k F) (hk : k < l.length) {f t : Nat} {c : Int} (ha : at3 l k = ((f : Int), (t : Int), c)) (hf : f < N) (ht : t < N)
    (h1 : F f = d) (h2 : F t < 0) : Lev N l s d (k + 1) (fun v => if v = t then (d : Int) + 1 else F v) := by
  intro v hv
  by_cases e : v = t
  · subst e
    refine Or.inr ⟨d + 1, by simp, ?_, fun j hj => ?_⟩
    · rcases h f hf with ⟨e1, _⟩ | ⟨x, e1, w, _⟩
      · omega
      · have : x = d := by omega
        subst this
        have hm := at3_mem l k hk
        rw [ha] at hm
        exact ⟨_, hm, w, rfl⟩
    · rcases h v ht with ⟨_, n, _⟩ | ⟨x, e1, _⟩
      · rcases Nat.lt_or_ge d j with c | c
        · omega
        · exact absurd hj (n j c)
      · omega
  · simp only [if_neg e]
    rcases h v hv with ⟨e1, n, m⟩ | r
    · refine Or.inl ⟨e1, n, fun a hm he => ?_⟩
      rw [take_snoc3 l k hk] at hm
      rcases List.mem_append.1 hm with hm | hm
      · exact m a hm he
      · rw [List.mem_singleton.1 hm, ha] at he
        simp only at he
        exact absurd (by omega) e
    · exact Or.inr r

theorem lev_miss {N : Nat} {l : List Arc3} {s : Int} {d k : Nat} {F : Nat → Int} (h : Lev N l s d k F) (hk : k < l.length) {f t : Nat} {c : Int} (ha : at3 l k = ((f : Int), (t : Int), c)) (hf : f < N) (ht : t < N)
    (h1 : ¬ (F f = d ∧ F t < 0)) : Lev N l s d (k + 1) F := by
  intro v hv
  rcases h v hv with ⟨e1, n, m⟩ | r
  · refine Or.inl ⟨e1, n, fun a hm he => ?_⟩
    rw [take_snoc3 l k hk] at hm
    rcases List.mem_append.1 hm with hm | hm
    · exact m a hm he
    · rw [List.mem_singleton.1 hm, ha] at he ⊢
      simp only at he ⊢
      have hvt : t = v := by omega
      subst hvt
      intro hw
      rcases h f hf with ⟨e2, n2, _⟩ | ⟨x, e2, w2, m2⟩
      · exact n2 d (Nat.le_refl _) hw
      · have h3 := m2 d hw
        have h4 : x ≠ d := fun e => h1 ⟨by omega, by omega⟩
        have hm2 := at3_mem l k hk
        rw [ha] at hm2
        exact n (x + 1) (by omega) ⟨_, hm2, w2, rfl⟩
  · exact Or.inr r

theorem lev_next {N : Nat} {l : List Arc3} {s : Int} {d : Nat} {F : Nat → Int} (h : Lev N l s d l.length F) : Lev N l s (d + 1) 0 F := by
  intro v hv
  rcases h v hv with ⟨e1, n, m⟩ | r
  · refine Or.inl ⟨e1, fun j hj hw => ?_, fun a ha => by simp at ha⟩
    rcases (by omega : j ≤ d ∨ j = d + 1) with c | c
    · exact n j c hw
    · subst c
      obtain ⟨a, ha, hw, e⟩ := hw
      rw [List.take_length] at m
      exact m a ha e hw
  · exact Or.inr r

theorem ati_range (N : Nat) (F : Nat → Int) {v : Nat} (hv : v < N) : ati ((List.range N).map F) v = F v := by
  rw [ati_lt _ _ (by simpa using hv)]; simp

theorem lev_far {N : Nat} {l : List Arc3} {s : Int} {F : Nat → Int} (h : Lev N l s (N - 1) 0 F) (hl : ∀ a ∈ l, (0 ≤ a.1 ∧ a.1 < (N : Int)) ∧ (0 ≤ a.2.1 ∧ a.2.1 < (N : Int))) : FarIs N l s ((List.range N).map F) := by
  refine ⟨by simp, fun v hv => ?_⟩
  rw [ati_range N F hv]
  rcases h v hv with ⟨e1, n, _⟩ | r
  · refine Or.inl ⟨e1, fun k hk => ?_⟩
    obtain ⟨G, hG⟩ := far_there N l s
    have h1 := hG.lt hl hv
    rcases hG.all v hv with ⟨_, n2⟩ | ⟨d, e2, w2, _⟩
    · exact n2 k hk
    · exact n d (by omega) w2
  · exact Or.inr r

/-- by which arc a node was come to -/
def ByA (N : Nat) (l : List Arc3) (F B : Nat → Int) : Prop :=
  ∀ v : Nat, v < N → 0 < F v → ∃ k u : Nat, B v = k ∧ k < l.length ∧ (at3 l k).1 = u ∧ (at3 l k).2.1 = v ∧ u < N ∧ F u + 1 = F v ∧ 0 ≤ F u

theorem by_start (N : Nat) (l : List Arc3) (s : Nat) (B : Nat → Int) : ByA N l (fun v => if v = s then 0 else -1) B := by
  intro v _ h
  simp only at h
  split at h <;> omega

theorem by_hit {N : Nat} {l : List Arc3} {d k : Nat} {F B : Nat → Int} (h : ByA N l F B) (hk : k < l.length) {f t : Nat} {c : Int} (ha : at3 l k = ((f : Int), (t : Int), c)) (hf : f < N)
    (h1 : F f = d) (h2 : F t < 0) : ByA N l (fun v => if v = t then (d : Int) + 1 else F v) (fun v => if v = t then (k : Int) else B v) := by
  intro v hv h0
  by_cases e : v = t
  · subst e
    have hne : f ≠ v := fun e => by subst e; omega
    exact ⟨k, f, by simp, hk, by rw [ha], by rw [ha], hf, by simp [hne, h1], by simp [hne, h1]⟩
  · simp only [if_neg e] at h0 ⊢
    obtain ⟨j, u, e1, e2, e3, e4, e5, e6, e7⟩ := h v hv h0
    have hne : u ≠ t := fun e => by subst e; omega
    exact ⟨j, u, e1, e2, e3, e4, e5, by simp [hne, e6], by simp [hne, e7]⟩

/-! ### Each arc, and the same turned -/

def inter (l : List Arc3) : List Arc3 := l.flatMap fun a => [a, (a.2.1, a.1, 0)]

theorem inter_length (l : List Arc3) : (inter l).length = l.length * 2 := by
  induction l with
  | nil => rfl
  | cons a r ih => simp only [inter, List.flatMap_cons, List.length_append, List.length_cons, List.length_nil] at ih ⊢; omega

theorem inter_snoc (l : List Arc3) (a : Arc3) : inter (l ++ [a]) = inter l ++ [a, (a.2.1, a.1, 0)] := by simp [inter]

theorem inter_nodes {N : Int} {l : List Arc3} (hl : ∀ a ∈ l, (0 ≤ a.1 ∧ a.1 < N) ∧ (0 ≤ a.2.1 ∧ a.2.1 < N)) : ∀ a ∈ inter l, (0 ≤ a.1 ∧ a.1 < N) ∧ (0 ≤ a.2.1 ∧ a.2.1 < N) := by
  intro a ha
  obtain ⟨x, hx, hm⟩ := List.mem_flatMap.1 ha
  have := hl x hx
  simp at hm
  rcases hm with rfl | rfl
  · exact this
  · exact ⟨this.2, this.1⟩

theorem Wk.ends {l m : List Arc3} (hlm : ∀ a ∈ l, ∃ b ∈ m, b.1 = a.1 ∧ b.2.1 = a.2.1) {s : Int} : ∀ {k : Nat} {v : Int}, Wk l s k v → Wk m s k v
  | 0, _, h => h
  | k + 1, _, ⟨a, ha, hk, hv⟩ => by
    obtain ⟨b, hb, e1, e2⟩ := hlm a ha
    exact ⟨b, hb, by rw [e1]; exact hk.ends hlm, by rw [e2]; exact hv⟩

theorem inter_both (l : List Arc3) (s : Int) (k : Nat) (v : Int) : Wk (inter l) s k v ↔ Wk (both l) s k v := by
  constructor
  · refine Wk.ends fun a ha => ?_
    obtain ⟨x, hx, hm⟩ := List.mem_flatMap.1 ha
    simp at hm
    rcases hm with rfl | rfl
    · exact ⟨_, List.mem_append.2 (Or.inl hx), rfl, rfl⟩
    · exact ⟨turnA x, List.mem_append.2 (Or.inr (List.mem_map.2 ⟨x, hx, rfl⟩)), rfl, rfl⟩
  · refine Wk.ends fun a ha => ?_
    rcases List.mem_append.1 ha with ha | ha
    · exact ⟨a, List.mem_flatMap.2 ⟨a, ha, by simp⟩, rfl, rfl⟩
    · obtain ⟨x, hx, rfl⟩ := List.mem_map.1 ha
      exact ⟨(x.2.1, x.1, 0), List.mem_flatMap.2 ⟨x, hx, by simp⟩, rfl, rfl⟩

theorem far_inter {N : Nat} {l : List Arc3} {s : Int} {F : List Int} (h : FarIs N (inter l) s F) : FarIs N (both l) s F := by
  refine ⟨h.len, fun v hv => ?_⟩
  rcases h.all v hv with ⟨e, n⟩ | ⟨d, e, w, m⟩
  · exact Or.inl ⟨e, fun k hk => n k ((inter_both ..).2 hk)⟩
  · exact Or.inr ⟨d, e, (inter_both ..).1 w, fun k hk => m k ((inter_both ..).2 hk)⟩

/-! ### The least node, and how far from it, node by node -/

def JnI (N : Nat) (l : List Arc3) (s : Nat) (L D : Nat → Int) : Prop :=
  ∀ v : Nat, v < N → (L v = -1 ∧ ∀ u : Nat, u < s → ¬ Jn l u v) ∨
    (∃ p d : Nat, L v = p ∧ D v = d ∧ p < s ∧ (∀ u : Nat, Jn l u v → p ≤ u) ∧ Wk (both l) p d v ∧ ∀ j, Wk (both l) p j v → d ≤ j)

theorem jni_start (N : Nat) (l : List Arc3) : JnI N l 0 (fun _ => -1) (fun _ => -1) := fun v _ => Or.inl ⟨rfl, fun u hu => absurd hu (Nat.not_lt_zero _)⟩

theorem jni_skip {N : Nat} {l : List Arc3} {s : Nat} {L D : Nat → Int} (h : JnI N l s L D) (hs : s < N) (h0 : 0 ≤ L s) : JnI N l (s + 1) L D := by
  intro v hv
  rcases h s hs with ⟨e, _⟩ | ⟨p, d, e, _, hp, _, hw, _⟩
  · omega
  · rcases h v hv with ⟨e1, n⟩ | ⟨q, d', e1, e2, hq, r⟩
    · refine Or.inl ⟨e1, fun u hu hj => ?_⟩
      rcases (by omega : u < s ∨ u = s) with c | c
      · exact n u c hj
      · subst c
        exact n p hp (Jn.trans ⟨d, hw⟩ hj)
    · exact Or.inr ⟨q, d', e1, e2, by omega, r⟩

theorem jni_step {N : Nat} {l : List Arc3} {s : Nat} {L D : Nat → Int} (h : JnI N l s L D) (hs : s < N) (h0 : L s < 0) {G : List Int} (hG : FarIs N (both l) s G) :
    JnI N l (s + 1) (fun v => if 0 ≤ ati G v then (s : Int) else L v) (fun v => if 0 ≤ ati G v then ati G v else D v) := by
  have hno : ∀ u : Nat, u < s → ¬ Jn l u s := by
    rcases h s hs with ⟨_, n⟩ | ⟨p, d, e, _⟩
    · exact n
    · omega
  intro v hv
  rcases hG.all v hv with ⟨e, n⟩ | ⟨d, e, w, m⟩
  · have hneg : ¬ 0 ≤ ati G v := by omega
    simp only [if_neg hneg]
    rcases h v hv with ⟨e1, n1⟩ | ⟨q, d', e1, e2, hq, r⟩
    · refine Or.inl ⟨e1, fun u hu hj => ?_⟩
      rcases (by omega : u < s ∨ u = s) with c | c
      · exact n1 u c hj
      · subst c
        obtain ⟨k, hk⟩ := hj
        exact n k hk
    · exact Or.inr ⟨q, d', e1, e2, by omega, r⟩
  · have hpos : 0 ≤ ati G v := by omega
    simp only [if_pos hpos]
    refine Or.inr ⟨s, d, rfl, e, by omega, fun u hj => ?_, w, m⟩
    rcases Nat.lt_or_ge u s with c | c
    · exact absurd (hj.trans (Jn.symm ⟨d, w⟩)) (hno u c)
    · exact c

theorem jni_parts {N : Nat} {l : List Arc3} {L D : Nat → Int} (h : JnI N l N L D) : PartsIs N l ((List.range N).map L) := by
  refine ⟨by simp, fun v hv => ?_⟩
  rw [ati_range N L hv]
  rcases h v hv with ⟨_, n⟩ | ⟨p, d, e, _, _, m, w, _⟩
  · exact absurd (Jn.refl l v) (n v hv)
  · exact ⟨p, e, ⟨d, w⟩, m⟩

theorem jni_byfar {N : Nat} {l : List Arc3} {L D : Nat → Int} (h : JnI N l N L D) : ByFar N l ((List.range N).map fun v => D v % 2) := by
  refine ⟨by simp, fun v hv => ?_⟩
  rw [ati_range N _ hv]
  rcases h v hv with ⟨_, n⟩ | ⟨p, d, _, e, hp, m, w, mm⟩
  · exact absurd (Jn.refl l v) (n v hv)
  · exact ⟨p, d, hp, m, w, mm, by rw [e]⟩

theorem jni_low {N : Nat} {l : List Arc3} {L D : Nat → Int} (h : JnI N l N L D) {v : Nat} (hv : v < N) : 0 ≤ D v := by
  rcases h v hv with ⟨_, n⟩ | ⟨p, d, _, e, _⟩
  · exact absurd (Jn.refl l v) (n v hv)
  · omega

theorem jni_lt {N : Nat} {l : List Arc3} {L D : Nat → Int} (h : JnI N l N L D) (hl : ∀ a ∈ l, (0 ≤ a.1 ∧ a.1 < (N : Int)) ∧ (0 ≤ a.2.1 ∧ a.2.1 < (N : Int))) {v : Nat} (hv : v < N) : D v < N := by
  rcases h v hv with ⟨_, n⟩ | ⟨p, d, _, e, hp, m, w, mm⟩
  · exact absurd (Jn.refl l v) (n v hv)
  · have hb : ∀ a ∈ both l, (0 ≤ a.1 ∧ a.1 < (N : Int)) ∧ (0 ≤ a.2.1 ∧ a.2.1 < (N : Int)) := by
      intro a ha
      rcases List.mem_append.1 ha with ha | ha
      · exact hl a ha
      · obtain ⟨x, hx, rfl⟩ := List.mem_map.1 ha
        exact ⟨(hl x hx).2, (hl x hx).1⟩
    have := short_lt hb hv w mm
    omega

/-! ### The way back -/

/-- what of a row of N numbers has come: zeros below m, Q from m on -/
def backRow (m : Nat) (Q : List Int) (j : Nat) : Int := if j < m then 0 else ati Q (j - m)

theorem backRow_cons (m : Nat) (Q : List Int) (x : Int) (j : Nat) : backRow m (x :: Q) j = if j = m then x else backRow (m + 1) Q j := by
  unfold backRow
  by_cases e : j = m
  · subst e; simp [ati]
  · rw [if_neg e]
    by_cases c : j < m
    · rw [if_pos c, if_pos (by omega)]
    · rw [if_neg c, if_neg (by omega)]
      obtain ⟨i, rfl⟩ : ∃ i, j = m + 1 + i := ⟨j - (m + 1), by omega⟩
      rw [show m + 1 + i - m = i + 1 by omega, show m + 1 + i - (m + 1) = i by omega]
      simp [ati]

theorem backRow_zero (Q : List Int) : (List.range Q.length).map (backRow 0 Q) = Q := by
  refine ext_ati (by simp) fun v hv => ?_
  have hv' : v < Q.length := by simpa using hv
  rw [ati_range _ _ hv']
  simp [backRow]

end Go.Proofs.Ytgmdacobbeoobaa
