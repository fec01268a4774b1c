/- Plain facts on ways in what a flow leaves of a net. -/
import Derived.Test.YtmneajmfoljflaaCutM
namespace Go.Proofs.Ytmneajmfoljflaa
set_option linter.unusedVariables false

/-- how much more can come to a node -/
def rmv (G : Nat → Int) (v : Nat) : Int := G (v * 4 + 3)
/-- a node that was come to: by which arc, from where -/
def StepIs (l : List Arc3) (f : Nat → Int) (G : Nat → Int) (v p a : Nat) : Prop :=
  (G (v * 4 + 2) = 1 ∧ (at3 l a).1 = p ∧ (at3 l a).2.1 = v ∧ rmv G v ≤ (at3 l a).2.2 - f a) ∨ (G (v * 4 + 2) = -1 ∧ (at3 l a).1 = v ∧ (at3 l a).2.1 = p ∧ rmv G v ≤ f a)
structure TreeIs (N s : Nat) (l : List Arc3) (f : Nat → Int) (G : Nat → Int) (rk : Nat → Nat) : Prop where
  src : 0 < rmv G s
  bnd : ∀ v, v < N → 0 ≤ rmv G v ∧ rmv G v ≤ 10000
  step : ∀ v, v < N → v ≠ s → 0 < rmv G v → ∃ p a : Nat, p < N ∧ a < l.length ∧ G (v * 4) = p ∧ G (v * 4 + 1) = a ∧ rmv G v ≤ rmv G p ∧ rk p < rk v ∧ StepIs l f G v p a
/-- from a node all that can be come to was come to, along the first k arcs -/
def ClosedK (l : List Arc3) (f : Nat → Int) (G : Nat → Int) (v k : Nat) : Prop :=
  ∀ i, i < k → ((at3 l i).1 = v → 0 < rmv G (at3 l i).2.1.toNat ∨ f i = (at3 l i).2.2) ∧ ((at3 l i).2.1 = v → 0 < rmv G (at3 l i).1.toNat ∨ f i = 0)
/-- what search answers -/
def Found (N s : Nat) (l : List Arc3) (f : Nat → Int) (G : Nat → Int) : Prop :=
  (∃ rk, TreeIs N s l f G rk) ∧ ∀ v, v < N → 0 < rmv G v → ClosedK l f G v l.length

/-- one node's step put -/
def putS (G : Nat → Int) (v : Nat) (x0 x1 x2 x3 : Int) : Nat → Int := fun j => if j = v * 4 + 3 then x3 else if j = v * 4 + 2 then x2 else if j = v * 4 + 1 then x1 else if j = v * 4 then x0 else G j
theorem putS_0 (G : Nat → Int) (v u : Nat) (x0 x1 x2 x3 : Int) : putS G v x0 x1 x2 x3 (u * 4) = if u = v then x0 else G (u * 4) := by
  unfold putS
  by_cases e : u = v
  · subst e; rw [if_neg (by omega), if_neg (by omega), if_neg (by omega), if_pos rfl, if_pos rfl]
  · rw [if_neg (by omega), if_neg (by omega), if_neg (by omega), if_neg (by omega), if_neg e]
theorem putS_1 (G : Nat → Int) (v u : Nat) (x0 x1 x2 x3 : Int) : putS G v x0 x1 x2 x3 (u * 4 + 1) = if u = v then x1 else G (u * 4 + 1) := by
  unfold putS
  by_cases e : u = v
  · subst e; rw [if_neg (by omega), if_neg (by omega), if_pos rfl, if_pos rfl]
  · rw [if_neg (by omega), if_neg (by omega), if_neg (by omega), if_neg (by omega), if_neg e]
theorem putS_2 (G : Nat → Int) (v u : Nat) (x0 x1 x2 x3 : Int) : putS G v x0 x1 x2 x3 (u * 4 + 2) = if u = v then x2 else G (u * 4 + 2) := by
  unfold putS
  by_cases e : u = v
  · subst e; rw [if_neg (by omega), if_pos rfl, if_pos rfl]
  · rw [if_neg (by omega), if_neg (by omega), if_neg (by omega), if_neg (by omega), if_neg e]
theorem putS_3 (G : Nat → Int) (v u : Nat) (x0 x1 x2 x3 : Int) : rmv (putS G v x0 x1 x2 x3) u = if u = v then x3 else rmv G u := by
  show putS G v x0 x1 x2 x3 (u * 4 + 3) = if u = v then x3 else G (u * 4 + 3)
  unfold putS
  by_cases e : u = v
  · subst e; rw [if_pos rfl, if_pos rfl]
  · rw [if_neg (by omega), if_neg (by omega), if_neg (by omega), if_neg (by omega), if_neg e]

/-- a node more -/
theorem TreeIs.add {N s : Nat} {l : List Arc3} {f : Nat → Int} {G : Nat → Int} {rk : Nat → Nat} (h : TreeIs N s l f G rk) {v p a : Nat} {sg room : Int} (hv : v < N) (hp : p < N) (ha : a < l.length) (h0 : ¬ 0 < rmv G v) (hpos : 0 < rmv G p) (hr : 0 < room)
    (hst : (sg = 1 ∧ (at3 l a).1 = p ∧ (at3 l a).2.1 = v ∧ room ≤ (at3 l a).2.2 - f a) ∨ (sg = -1 ∧ (at3 l a).1 = v ∧ (at3 l a).2.1 = p ∧ room ≤ f a)) :
    TreeIs N s l f (putS G v p a sg (min room (rmv G p))) (fun u => if u = v then rk p + 1 else rk u) := by
  have hvs : v ≠ s := fun e => h0 (e ▸ h.src)
  have hvp : p ≠ v := fun e => h0 (e ▸ hpos)
  refine ⟨by rw [putS_3, if_neg (Ne.symm hvs)]; exact h.src, fun u hu => ?_, fun u hu hus hpu => ?_⟩
  · rw [putS_3]
    have := h.bnd p hp
    split
    · omega
    · exact h.bnd u hu
  · by_cases e : u = v
    · subst e
      refine ⟨p, a, hp, ha, by rw [putS_0, if_pos rfl], by rw [putS_1, if_pos rfl], ?_, ?_, ?_⟩
      · rw [putS_3, putS_3, if_pos rfl, if_neg hvp]; exact Int.min_le_right _ _
      · simp only [if_neg hvp, if_pos]; omega
      · unfold StepIs
        rw [putS_2, if_pos rfl, putS_3, if_pos rfl]
        rcases hst with ⟨e1, e2, e3, e4⟩ | ⟨e1, e2, e3, e4⟩
        · exact Or.inl ⟨e1, e2, e3, by omega⟩
        · exact Or.inr ⟨e1, e2, e3, by omega⟩
    · rw [putS_3, if_neg e] at hpu
      obtain ⟨q, b, hq, hb, g0, g1, g2, g3, g4⟩ := h.step u hu hus hpu
      have hqv : q ≠ v := fun c => by rw [c] at g2; omega
      refine ⟨q, b, hq, hb, by rw [putS_0, if_neg e]; exact g0, by rw [putS_1, if_neg e]; exact g1, ?_, ?_, ?_⟩
      · rw [putS_3, putS_3, if_neg e, if_neg hqv]; exact g2
      · simp only [if_neg hqv, if_neg e]; exact g3
      · unfold StepIs at g4 ⊢
        rw [putS_2, if_neg e, putS_3, if_neg e]
        exact g4
theorem rmv_grows {G : Nat → Int} {v : Nat} {x0 x1 x2 x3 : Int} (h : 0 < x3) {u : Nat} (hu : 0 < rmv G u) : 0 < rmv (putS G v x0 x1 x2 x3) u := by
  rw [putS_3]; split
  · exact h
  · exact hu
theorem ClosedK.grows {l : List Arc3} {f : Nat → Int} {G H : Nat → Int} {v k : Nat} (h : ClosedK l f G v k) (hG : ∀ u, 0 < rmv G u → 0 < rmv H u) : ClosedK l f H v k := fun i hi => by
  obtain ⟨h1, h2⟩ := h i hi
  exact ⟨fun e => (h1 e).imp (hG _) id, fun e => (h2 e).imp (hG _) id⟩
theorem ClosedK.next {l : List Arc3} {f : Nat → Int} {G : Nat → Int} {v k : Nat} (h : ClosedK l f G v k) (h1 : (at3 l k).1 = v → 0 < rmv G (at3 l k).2.1.toNat ∨ f k = (at3 l k).2.2) (h2 : (at3 l k).2.1 = v → 0 < rmv G (at3 l k).1.toNat ∨ f k = 0) : ClosedK l f G v (k + 1) := fun i hi => by
  by_cases e : i = k
  · subst e; exact ⟨h1, h2⟩
  · exact h i (by omega)

/-! ### Where the sink is not come to -/

/-- a side of the nodes that one wants -/
theorem side_of (P : Nat → Bool) : ∀ N : Nat, ∃ x : Nat, x < 2 ^ N ∧ ∀ v, v < N → Nat.testBit x v = P v
  | 0 => ⟨0, by simp, fun v hv => absurd hv (Nat.not_lt_zero _)⟩
  | N + 1 => by
    obtain ⟨x, hx, h⟩ := side_of P N
    by_cases e : P N = true
    · refine ⟨2 ^ N + x, by rw [Nat.pow_succ]; omega, fun v hv => ?_⟩
      by_cases c : v = N
      · subst c; rw [Nat.testBit_two_pow_add_eq, Nat.testBit_lt_two_pow hx, e]; rfl
      · rw [Nat.testBit_two_pow_add_gt (by omega)]; exact h v (by omega)
    · refine ⟨x, by rw [Nat.pow_succ]; omega, fun v hv => ?_⟩
      by_cases c : v = N
      · subst c; rw [Nat.testBit_lt_two_pow hx]; simpa using e
      · exact h v (by omega)
theorem bt_bit (x v : Nat) : bt (x : Int) (v : Int) = if Nat.testBit x v then 1 else 0 := by
  unfold bt
  rw [Int.toNat_natCast]
  have e2 : ((x : Int) / 2 ^ v % 2) = ((x / 2 ^ v % 2 : Nat) : Int) := by simp
  rw [e2, Nat.testBit_eq_decide_div_mod_eq]
  have : x / 2 ^ v % 2 < 2 := Nat.mod_lt _ (by omega)
  by_cases c : x / 2 ^ v % 2 = 1
  · rw [if_pos (by simpa using c), c]; rfl
  · rw [if_neg (by simpa using c), show x / 2 ^ v % 2 = 0 by omega]; rfl

/-- FORD, FULKERSON -/
theorem Found.most {N s t : Nat} {l : List Arc3} {f : List Int} {G : Nat → Int} (hE : netErr N s t l = 0) (hf : FlowIs N s t l f) (h : Found N s l (ati f) G) (ht : rmv G t = 0) : MaxIs N s t l (gone l (ati f) s) := by
  obtain ⟨⟨rk, hT⟩, hC⟩ := h
  obtain ⟨_, hs, ht', hst⟩ := net_ok hE
  obtain ⟨x, hx, hb⟩ := side_of (fun v => decide (0 < rmv G v)) N
  have hbt : ∀ v : Nat, v < N → bt (x : Int) (v : Int) = if 0 < rmv G v then 1 else 0 := fun v hv => by
    rw [bt_bit, hb v hv]
    by_cases c : 0 < rmv G v
    · rw [if_pos c, if_pos (by simpa using c)]
    · rw [if_neg c, if_neg (by simpa using c)]
  have h1 : bt (x : Int) (s : Int) = 1 := by rw [hbt s (by omega), if_pos hT.src]
  have h2 : bt (x : Int) (t : Int) = 0 := by rw [hbt t (by omega), if_neg (by omega)]
  refine ⟨⟨f, hf, rfl⟩, ⟨x, ⟨by omega, by exact_mod_cast hx, h1, h2⟩, ?_⟩⟩
  have e := hf.side hE (bt x)
  rw [h1, h2] at e
  have e2 : sumN (fun i => bt x (at3 l i).1 * ati f i - bt x (at3 l i).2.1 * ati f i) l.length = capS x l := by
    refine sumN_congr fun i hi => ?_
    obtain ⟨⟨p1, p2⟩, ⟨p3, p4⟩⟩ := net_nodes hE _ (at3_mem l i hi)
    obtain ⟨p, hp⟩ := Int.eq_ofNat_of_zero_le p1
    obtain ⟨q, hq⟩ := Int.eq_ofNat_of_zero_le p3
    rw [hp] at p2 ⊢
    rw [hq] at p4 ⊢
    rw [hbt p (by omega), hbt q (by omega)]
    by_cases c1 : 0 < rmv G p
    · by_cases c2 : 0 < rmv G q
      · rw [if_pos c1, if_pos c2]; simp
      · have := (hC p (by omega) c1 i hi).1 hp
        rw [hq, Int.toNat_natCast] at this
        rcases this with c | c
        · exact absurd c c2
        · rw [if_pos c1, if_neg c2, c]; simp
    · by_cases c2 : 0 < rmv G q
      · have := (hC q (by omega) c2 i hi).2 hq
        rw [hp, Int.toNat_natCast] at this
        rcases this with c | c
        · exact absurd c c1
        · rw [if_neg c1, if_pos c2, c]; simp
      · rw [if_neg c1, if_neg c2]; simp
  rw [← e2, e]; omega

/-! ### A way pushed along -/

/-- so much let go along the way back from v to the sink t: f is what went, F what goes -/
structure Pushed (N s t : Nat) (l : List Arc3) (f F G : Nat → Int) (rk : Nat → Nat) (x : Int) (v : Nat) : Prop where
  node : v < N
  room : x ≤ rmv G v
  bnd : ∀ k, k < l.length → 0 ≤ F k ∧ F k ≤ (at3 l k).2.2
  bal : ∀ u : Int, gone l F u = gone l f u + ((if (v : Int) = u then x else 0) - (if (t : Int) = u then x else 0))
  left : ∀ u, u < N → u ≠ s → 0 < rmv G u → rk u ≤ rk v → ∀ a : Nat, G (u * 4 + 1) = a → F a = f a

theorem gone_set {l : List Arc3} {F : Nat → Int} {a : Nat} (ha : a < l.length) (y : Int) (u : Int) :
    gone l (fun k => if k = a then F a + y else F k) u = gone l F u + ((if (at3 l a).1 = u then y else 0) - (if (at3 l a).2.1 = u then y else 0)) := by
  have e : gone l (fun k => if k = a then F a + y else F k) u = gone l (fun k => F k + if k = a then y else 0) u := gone_congr (fun i hi => by
    by_cases c : i = a
    · subst c; simp
    · simp [c]) u
  rw [e, gone_add]
  congr 1
  unfold gone goneK
  rw [sumN_single (k := a) ha]
  · simp
  · intro v hv hne; simp [hne]

theorem Pushed.next {N s t : Nat} {l : List Arc3} {f F G : Nat → Int} {rk : Nat → Nat} {x : Int} {v : Nat} (hT : TreeIs N s l f G rk) (hx : 0 < x) (h : Pushed N s t l f F G rk x v) (hvs : v ≠ s) :
    ∃ p a : Nat, ∃ sg : Int, p < N ∧ a < l.length ∧ G (v * 4) = p ∧ G (v * 4 + 1) = a ∧ G (v * 4 + 2) = sg ∧ (sg = 1 ∨ sg = -1) ∧ rk p < rk v ∧ Pushed N s t l f (fun k => if k = a then F a + sg * x else F k) G rk x p := by
  have hr := h.room
  obtain ⟨p, a, hp, ha, g0, g1, g2, g3, g4⟩ := hT.step v h.node hvs (by omega)
  have hFa : F a = f a := h.left v h.node hvs (by omega) (Nat.le_refl _) a g1
  have hb := h.bnd a ha
  refine ⟨p, a, G (v * 4 + 2), hp, ha, g0, g1, rfl, ?_, g3, ⟨hp, by omega, fun k hk => ?_, fun u => ?_, fun u hu hus hpu hru b hb' => ?_⟩⟩
  · rcases g4 with ⟨e, _⟩ | ⟨e, _⟩
    · exact Or.inl e
    · exact Or.inr e
  · by_cases c : k = a
    · subst c
      rw [if_pos rfl]
      rcases g4 with ⟨e, _, _, e4⟩ | ⟨e, _, _, e4⟩
      · rw [e]; omega
      · rw [e]; omega
    · rw [if_neg c]; exact h.bnd k hk
  · rw [gone_set ha, h.bal u]
    rcases g4 with ⟨e, e2, e3, _⟩ | ⟨e, e2, e3, _⟩
    · rw [e, e2, e3]
      by_cases c1 : (v : Int) = u <;> by_cases c2 : (p : Int) = u <;> by_cases c3 : (t : Int) = u <;> simp [c1, c2, c3] <;> omega
    · rw [e, e2, e3]
      by_cases c1 : (v : Int) = u <;> by_cases c2 : (p : Int) = u <;> by_cases c3 : (t : Int) = u <;> simp [c1, c2, c3] <;> omega
  · have hne : b ≠ a := fun c => by
      subst c
      obtain ⟨q, b', hq, hb1, k0, k1, k2, k3, k4⟩ := hT.step u hu hus hpu
      have : b' = b := by rw [hb'] at k1; omega
      subst this
      rcases g4 with ⟨_, e2, e3, _⟩ | ⟨_, e2, e3, _⟩ <;> rcases k4 with ⟨_, d2, d3, _⟩ | ⟨_, d2, d3, _⟩
      · have : u = v := by omega
        subst this; omega
      · have h1 : u = p := by omega
        have h2 : q = v := by omega
        subst h1 h2; omega
      · have h1 : q = v := by omega
        have h2 : u = p := by omega
        subst h1 h2; omega
      · have : u = v := by omega
        subst this; omega
    rw [if_neg hne]
    exact h.left u hu hus hpu (by omega) b hb'

theorem Pushed.start {N s t : Nat} {l : List Arc3} {f G : Nat → Int} {rk : Nat → Nat} (ht : t < N) (hb : ∀ k, k < l.length → 0 ≤ f k ∧ f k ≤ (at3 l k).2.2) : Pushed N s t l f f G rk (rmv G t) t :=
  ⟨ht, Int.le_refl _, hb, fun u => by omega, fun u _ _ _ _ a _ => rfl⟩
/-- all the way: a flow, with so much more -/
theorem Pushed.flow {N s t : Nat} {l : List Arc3} {f F : List Int} {G : Nat → Int} {rk : Nat → Nat} {x : Int} (hst : s ≠ t) (hf : FlowIs N s t l f) (hlen : F.length = l.length) (h : Pushed N s t l (ati f) (ati F) G rk x s) : FlowIs N s t l F ∧ gone l (ati F) s = gone l (ati f) s + x := by
  refine ⟨⟨hlen, h.bnd, fun v hv h1 h2 => ?_⟩, ?_⟩
  · rw [h.bal, hf.bal v hv h1 h2, if_neg (Ne.symm h1), if_neg (Ne.symm h2)]; rfl
  · rw [h.bal, if_pos rfl, if_neg (by omega)]; omega

/-! ### Node by node: who is done, who waits -/

structure QInv (N s : Nat) (l : List Arc3) (f : Nat → Int) (G : Nat → Int) (D Q : List Nat) : Prop where
  tree : ∃ rk, TreeIs N s l f G rk
  nod : (D ++ Q).Nodup
  lt : ∀ v ∈ D ++ Q, v < N
  all : ∀ v, v < N → (0 < rmv G v ↔ v ∈ D ++ Q)
/-- between two nodes -/
structure QOut (N s : Nat) (l : List Arc3) (f : Nat → Int) (G : Nat → Int) (D Q : List Nat) : Prop where
  q : QInv N s l f G D Q
  done : ∀ u ∈ D, ClosedK l f G u l.length
/-- at a node, behind k arcs -/
structure QIn (N s : Nat) (l : List Arc3) (f : Nat → Int) (G : Nat → Int) (D : List Nat) (v k : Nat) (Q : List Nat) : Prop where
  q : QInv N s l f G (D ++ [v]) Q
  done : ∀ u ∈ D, ClosedK l f G u l.length
  here : ClosedK l f G v k

theorem QInv.few {N s : Nat} {l : List Arc3} {f : Nat → Int} {G : Nat → Int} {D Q : List Nat} (h : QInv N s l f G D Q) : D.length + Q.length ≤ N := by
  have := List.Nodup.length_le_of_subset (l₂ := List.range N) h.nod (fun x hx => List.mem_range.2 (h.lt x hx))
  simpa using this
theorem QInv.start {N s : Nat} {l : List Arc3} {f : Nat → Int} (hs : s < N) : QInv N s l f (fun j => if j = s * 4 + 3 then 10000 else 0) [] [s] := by
  have hr : ∀ v, rmv (fun j => if j = s * 4 + 3 then 10000 else 0) v = if v = s then 10000 else 0 := fun v => by
    show (if v * 4 + 3 = s * 4 + 3 then (10000 : Int) else 0) = _
    by_cases e : v = s
    · subst e; rw [if_pos rfl, if_pos rfl]
    · rw [if_neg (by omega), if_neg e]
  refine ⟨⟨fun _ => 0, by rw [hr, if_pos rfl]; omega, fun v hv => by rw [hr]; split <;> omega, fun v hv hne hp => ?_⟩, by simp, fun v hv => by simp at hv; omega, fun v hv => ?_⟩
  · rw [hr, if_neg hne] at hp; omega
  · rw [hr]
    by_cases e : v = s <;> simp [e]
/-- the next one -/
theorem QOut.take {N s : Nat} {l : List Arc3} {f : Nat → Int} {G : Nat → Int} {D Q : List Nat} {v : Nat} (h : QOut N s l f G D (v :: Q)) : v < N ∧ 0 < rmv G v ∧ QIn N s l f G D v 0 Q := by
  have e : D ++ [v] ++ Q = D ++ v :: Q := by simp
  have hv : v ∈ D ++ v :: Q := by simp
  refine ⟨h.q.lt v hv, (h.q.all v (h.q.lt v hv)).2 hv, ⟨h.q.tree, by rw [e]; exact h.q.nod, by rw [e]; exact h.q.lt, by rw [e]; exact h.q.all⟩, h.done, fun i hi => absurd hi (Nat.not_lt_zero _)⟩
theorem QIn.out {N s : Nat} {l : List Arc3} {f : Nat → Int} {G : Nat → Int} {D Q : List Nat} {v : Nat} (h : QIn N s l f G D v l.length Q) : QOut N s l f G (D ++ [v]) Q :=
  ⟨h.q, fun u hu => by
    rcases List.mem_append.1 hu with hu | hu
    · exact h.done u hu
    · rw [List.mem_singleton] at hu; subst hu; exact h.here⟩
theorem QOut.found {N s : Nat} {l : List Arc3} {f : Nat → Int} {G : Nat → Int} {D : List Nat} (h : QOut N s l f G D []) : Found N s l f G :=
  ⟨h.q.tree, fun v hv hp => h.done v (by have := (h.q.all v hv).1 hp; simpa using this)⟩
theorem QIn.pos {N s : Nat} {l : List Arc3} {f : Nat → Int} {G : Nat → Int} {D Q : List Nat} {v k : Nat} (h : QIn N s l f G D v k Q) : v < N ∧ 0 < rmv G v := by
  have hv : v ∈ D ++ [v] ++ Q := by simp
  exact ⟨h.q.lt v hv, (h.q.all v (h.q.lt v hv)).2 hv⟩
/-- a node more -/
theorem QIn.add {N s : Nat} {l : List Arc3} {f : Nat → Int} {G : Nat → Int} {D Q : List Nat} {v k u : Nat} {sg room : Int} (h : QIn N s l f G D v k Q) (hu : u < N) (hk : k < l.length) (h0 : ¬ 0 < rmv G u) (hr : 0 < room)
    (hst : (sg = 1 ∧ (at3 l k).1 = v ∧ (at3 l k).2.1 = u ∧ room ≤ (at3 l k).2.2 - f k) ∨ (sg = -1 ∧ (at3 l k).1 = u ∧ (at3 l k).2.1 = v ∧ room ≤ f k)) :
    QIn N s l f (putS G u v k sg (min room (rmv G v))) D v k (Q ++ [u]) ∧ 0 < rmv (putS G u v k sg (min room (rmv G v))) u ∧ (∀ x, 0 < rmv G x → 0 < rmv (putS G u v k sg (min room (rmv G v))) x) := by
  obtain ⟨hv, hp⟩ := h.pos
  obtain ⟨rk, hT⟩ := h.q.tree
  have hm : 0 < min room (rmv G v) := by omega
  have hg : ∀ x, 0 < rmv G x → 0 < rmv (putS G u v k sg (min room (rmv G v))) x := fun x hx => rmv_grows hm hx
  have hnew : u ∉ D ++ [v] ++ Q := fun c => h0 ((h.q.all u hu).2 c)
  refine ⟨⟨⟨⟨_, hT.add hu hv hk h0 hp hr hst⟩, ?_, fun x hx => ?_, fun x hx => ?_⟩, fun x hx => (h.done x hx).grows hg, h.here.grows hg⟩, by rw [putS_3, if_pos rfl]; exact hm, hg⟩
  · rw [← List.append_assoc, List.nodup_append]
    refine ⟨h.q.nod, by simp, fun a ha b hb => ?_⟩
    rw [List.mem_singleton] at hb
    subst hb
    exact fun e => hnew (e ▸ ha)
  · rw [← List.append_assoc] at hx
    rcases List.mem_append.1 hx with hx | hx
    · exact h.q.lt x hx
    · rw [List.mem_singleton] at hx; subst hx; exact hu
  · rw [putS_3, ← List.append_assoc, List.mem_append, ← h.q.all x hx, List.mem_singleton]
    by_cases e : x = u
    · subst e; simp [hm]
    · rw [if_neg e]; simp [e]
theorem QIn.next {N s : Nat} {l : List Arc3} {f : Nat → Int} {G : Nat → Int} {D Q : List Nat} {v k : Nat} (h : QIn N s l f G D v k Q) (h1 : (at3 l k).1 = v → 0 < rmv G (at3 l k).2.1.toNat ∨ f k = (at3 l k).2.2) (h2 : (at3 l k).2.1 = v → 0 < rmv G (at3 l k).1.toNat ∨ f k = 0) : QIn N s l f G D v (k + 1) Q :=
  ⟨h.q, h.done, h.here.next h1 h2⟩

end Go.Proofs.Ytmneajmfoljflaa
