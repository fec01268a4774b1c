/- Pieces taken out of what is left, one behind the other: plain facts. -/
import Derived.Test.YthlcbhbjngcnkaaSplitM
namespace Go.Proofs.Ythlcbhbjngcnkaa
set_option linter.unusedVariables false

/-- so much less along these arcs -/
def takeA (F : List Int) (a : Int) (K : List Nat) : List Int := (List.range F.length).map fun k => ati F k - along a K k
theorem takeA_len (F : List Int) (a : Int) (K : List Nat) : (takeA F a K).length = F.length := by simp [takeA]
theorem takeA_at (F : List Int) (a : Int) (K : List Nat) {k : Nat} (hk : k < F.length) : ati (takeA F a K) k = ati F k - along a K k := by
  rw [ati_lt _ _ (by rw [takeA_len]; exact hk)]; simp [takeA]
theorem ext_ati {f g : List Int} (hl : f.length = g.length) (h : ∀ i, i < f.length → ati f i = ati g i) : f = g := by
  refine List.ext_getElem hl fun i h1 h2 => ?_
  have := h i h1
  rwa [ati_lt _ _ h1, ati_lt _ _ h2] at this
theorem takeA_none (F : List Int) (a : Int) : takeA F a [] = F := ext_ati (takeA_len ..) fun i hi => by
  rw [takeA_len] at hi
  rw [takeA_at F a [] hi]; simp [along]

/-- nothing leads on -/
def Dead (l : List Arc3) (F : List Int) (v : Int) : Prop := ∀ k, k < l.length → (at3 l k).1 = v → ati F k ≤ 0

/-- so much is left along each arc -/
structure Nn (l : List Arc3) (F : List Int) : Prop where
  len : F.length = l.length
  bnd : ∀ k, k < l.length → 0 ≤ ati F k ∧ ati F k ≤ 10000

/-- a piece takes just all that one of its arcs has -/
structure Takes (F : List Int) (p : Pc) : Prop where
  le : ∀ k ∈ p.2, p.1 ≤ ati F k
  hit : ∃ k ∈ p.2, ati F k = p.1

/-- pieces taken out of F0, and what is left -/
def Taken (l : List Arc3) (s : Int) (F0 F : List Int) (W R : List Pc) : Prop :=
  ∀ I : List Int → List Pc → List Pc → Prop, I F0 [] [] →
    (∀ F W R p u, I F W R → PieceIs l u p u → Takes F p → I (takeA F p.1 p.2) W (R ++ [p])) →
    (∀ F W R p u, I F W R → PieceIs l s p u → Takes F p → u ≠ s → Dead l F u → I (takeA F p.1 p.2) (W ++ [p]) R) → I F W R
theorem Taken.none (l : List Arc3) (s : Int) (F0 : List Int) : Taken l s F0 F0 [] [] := fun _ h _ _ => h
theorem Taken.round {l : List Arc3} {s : Int} {F0 F : List Int} {W R : List Pc} (h : Taken l s F0 F W R) {p : Pc} {u : Int} (hp : PieceIs l u p u) (ht : Takes F p) : Taken l s F0 (takeA F p.1 p.2) W (R ++ [p]) :=
  fun I h0 h1 h2 => h1 _ _ _ _ _ (h I h0 h1 h2) hp ht
theorem Taken.way {l : List Arc3} {s : Int} {F0 F : List Int} {W R : List Pc} (h : Taken l s F0 F W R) {p : Pc} {u : Int} (hp : PieceIs l s p u) (ht : Takes F p) (hu : u ≠ s) (hd : Dead l F u) : Taken l s F0 (takeA F p.1 p.2) (W ++ [p]) R :=
  fun I h0 h1 h2 => h2 _ _ _ _ _ (h I h0 h1 h2) hp ht hu hd

/-- how many arcs have something left -/
def cntF (F : Nat → Int) : Nat → Nat
  | 0 => 0
  | k + 1 => cntF F k + if 0 < F k then 1 else 0
theorem cntF_le (F : Nat → Int) : ∀ m, cntF F m ≤ m
  | 0 => Nat.le_refl _
  | m + 1 => by have := cntF_le F m; unfold cntF; split <;> omega
theorem cntF_mono {F G : Nat → Int} : ∀ m, (∀ i, i < m → 0 < G i → 0 < F i) → cntF G m ≤ cntF F m
  | 0, _ => Nat.le_refl _
  | m + 1, h => by
    have ih := cntF_mono m fun i hi => h i (by omega)
    have := h m (by omega)
    unfold cntF
    by_cases c : 0 < G m
    · rw [if_pos c, if_pos (this c)]; omega
    · rw [if_neg c]; split <;> omega
theorem cntF_less {F G : Nat → Int} : ∀ m, (∀ i, i < m → 0 < G i → 0 < F i) → (∃ j, j < m ∧ 0 < F j ∧ G j ≤ 0) → cntF G m + 1 ≤ cntF F m
  | 0, _, ⟨j, hj, _⟩ => absurd hj (Nat.not_lt_zero _)
  | m + 1, h, ⟨j, hj, h1, h2⟩ => by
    by_cases e : j = m
    · subst e
      have := cntF_mono j fun i hi => h i (by omega)
      unfold cntF
      rw [if_neg (by omega), if_pos h1]; omega
    · have ih := cntF_less m (fun i hi => h i (by omega)) ⟨j, by omega, h1, h2⟩
      have := h m (by omega)
      unfold cntF
      by_cases c : 0 < G m
      · rw [if_pos c, if_pos (this c)]; omega
      · rw [if_neg c]; split <;> omega

theorem along_bounds {a : Int} (ha : 0 ≤ a) (K : List Nat) (k : Nat) : 0 ≤ along a K k ∧ along a K k ≤ a := by unfold along; split <;> omega
theorem Nn.take {l : List Arc3} {F : List Int} (h : Nn l F) {p : Pc} (hp : 1 ≤ p.1) (ht : Takes F p) : Nn l (takeA F p.1 p.2) := by
  refine ⟨by rw [takeA_len]; exact h.len, fun k hk => ?_⟩
  rw [takeA_at F _ _ (by rw [h.len]; exact hk)]
  have := h.bnd k hk
  have h1 := along_bounds (a := p.1) (by omega) p.2 k
  by_cases c : k ∈ p.2
  · have := ht.le k c
    have e : along p.1 p.2 k = p.1 := if_pos c
    omega
  · have e : along p.1 p.2 k = 0 := if_neg c
    omega
theorem take_le {l : List Arc3} {F : List Int} (h : Nn l F) {p : Pc} (hp : 1 ≤ p.1) {k : Nat} (hk : k < l.length) : ati (takeA F p.1 p.2) k ≤ ati F k := by
  rw [takeA_at F _ _ (by rw [h.len]; exact hk)]
  have h1 := along_bounds (a := p.1) (by omega) p.2 k
  omega
theorem take_cnt {l : List Arc3} {F : List Int} (h : Nn l F) {s u : Int} {p : Pc} (hp : PieceIs l s p u) (ht : Takes F p) : cntF (ati (takeA F p.1 p.2)) l.length + 1 ≤ cntF (ati F) l.length := by
  refine cntF_less _ (fun i hi hpos => ?_) ?_
  · have := take_le h hp.pos (p := p) hi; omega
  · obtain ⟨k, hk, e⟩ := ht.hit
    have hlt := hp.way.lt k hk
    refine ⟨k, hlt, by have := hp.pos; omega, ?_⟩
    rw [takeA_at F _ _ (by rw [h.len]; exact hlt), show along p.1 p.2 k = p.1 from if_pos hk]
    omega
theorem gone_sub (l : List Arc3) (f g : Nat → Int) (v : Int) : gone l (fun i => f i - g i) v = gone l f v - gone l g v := by
  unfold gone goneK
  rw [← sumN_sub]
  refine sumN_congr fun i hi => ?_
  dsimp only
  split <;> split <;> omega
theorem take_gone {l : List Arc3} {F : List Int} (h : Nn l F) {s u : Int} {p : Pc} (hp : PieceIs l s p u) (v : Int) :
    gone l (ati (takeA F p.1 p.2)) v = gone l (ati F) v - ((if s = v then p.1 else 0) - (if u = v then p.1 else 0)) := by
  rw [gone_congr (g := fun k => ati F k - along p.1 p.2 k) (fun i hi => takeA_at F _ _ (by rw [h.len]; exact hi)), gone_sub, gone_way p.1 v hp.way hp.once]

/-- what Taken keeps -/
structure Kept (l : List Arc3) (F0 F : List Int) (W R : List Pc) : Prop where
  nn : Nn l F
  le : ∀ k, k < l.length → ati F k ≤ ati F0 k
  sum : ∀ k, k < l.length → amtAt (W ++ R) k + ati F k = ati F0 k
  few : W.length + R.length + cntF (ati F) l.length ≤ cntF (ati F0) l.length
  rounds : ∀ p ∈ R, ∃ u, PieceIs l u p u
theorem amt_one (p : Pc) (k : Nat) : amtAt [p] k = along p.1 p.2 k := by simp [amtAt]
theorem Taken.kept {l : List Arc3} {s : Int} {F0 F : List Int} {W R : List Pc} (h : Taken l s F0 F W R) (h0 : Nn l F0) : Kept l F0 F W R := by
  refine h (fun F W R => Kept l F0 F W R) ⟨h0, fun k _ => Int.le_refl _, fun k _ => by simp [amtAt], by simp, fun p hp => absurd hp (List.not_mem_nil)⟩ ?_ ?_
  · intro F W R p u ⟨h1, h1', h2, h3, h4⟩ hp ht
    refine ⟨h1.take hp.pos ht, fun k hk => ?_, fun k hk => ?_, ?_, fun q hq => ?_⟩
    · have := take_le h1 hp.pos (p := p) hk
      have := h1' k hk; omega
    · have := h2 k hk
      rw [amt_append] at this
      rw [takeA_at F _ _ (by rw [h1.len]; exact hk), amt_append, amt_append, amt_one]; omega
    · have := take_cnt h1 hp ht
      rw [List.length_append]; simp only [List.length_singleton]; omega
    · rcases List.mem_append.1 hq with hq | hq
      · exact h4 q hq
      · rw [List.mem_singleton] at hq; subst hq; exact ⟨u, hp⟩
  · intro F W R p u ⟨h1, h1', h2, h3, h4⟩ hp ht hu hd
    refine ⟨h1.take hp.pos ht, fun k hk => ?_, fun k hk => ?_, ?_, h4⟩
    · have := take_le h1 hp.pos (p := p) hk
      have := h1' k hk; omega
    · have := h2 k hk
      rw [amt_append] at this
      rw [takeA_at F _ _ (by rw [h1.len]; exact hk), amt_append, amt_append, amt_one]; omega
    · have := take_cnt h1 hp ht
      rw [List.length_append]; simp only [List.length_singleton]; omega

theorem Way.last {l : List Arc3} : ∀ {K : List Nat} {s t : Int}, Way l s K t → K ≠ [] → ∃ k ∈ K, k < l.length ∧ (at3 l k).2.1 = t
  | [], _, _, _, h => absurd rfl h
  | [k], s, t, ⟨h1, h2, h3⟩, _ => ⟨k, List.mem_singleton.2 rfl, h1, h3⟩
  | k :: j :: K, s, t, ⟨h1, h2, h3⟩, _ => by
    obtain ⟨i, hi, h⟩ := Way.last h3 (List.cons_ne_nil _ _)
    exact ⟨i, List.mem_cons_of_mem _ hi, h⟩

/-- where nothing leads on no more comes than goes -/
theorem dead_gone {l : List Arc3} {F : List Int} (h : Nn l F) {u : Int} (hd : Dead l F u) : gone l (ati F) u ≤ 0 ∧ ∀ k, k < l.length → (at3 l k).2.1 = u → gone l (ati F) u ≤ - ati F k := by
  have e : gone l (ati F) u = - sumN (fun i => (if (at3 l i).2.1 = u then ati F i else 0) - (if (at3 l i).1 = u then ati F i else 0)) l.length := by
    rw [← sumN_neg]
    exact sumN_congr fun i hi => by omega
  have hnn : ∀ i, i < l.length → 0 ≤ (if (at3 l i).2.1 = u then ati F i else 0) - (if (at3 l i).1 = u then ati F i else 0) := fun i hi => by
    have h1 := h.bnd i hi
    by_cases c : (at3 l i).1 = u
    · have := hd i hi c
      rw [if_pos c]; split <;> omega
    · rw [if_neg c]; split <;> omega
  refine ⟨by have := sumN_nonneg hnn; omega, fun k hk hu => ?_⟩
  have := sumN_le hnn hk
  rw [if_pos hu] at this
  have h1 := h.bnd k hk
  have h2 : (if (at3 l k).1 = u then ati F k else 0) ≤ 0 := by
    by_cases c : (at3 l k).1 = u
    · rw [if_pos c]; exact hd k hk c
    · rw [if_neg c]; omega
  omega

theorem PieceIs.end {N : Nat} {l : List Arc3} (hl : ∀ a ∈ l, (0 ≤ a.1 ∧ a.1 < (N : Int)) ∧ (0 ≤ a.2.1 ∧ a.2.1 < (N : Int))) {s u : Int} {p : Pc} (hp : PieceIs l s p u) : ∃ v : Nat, v < N ∧ u = (v : Int) := by
  obtain ⟨k, _, hk, e⟩ := hp.way.last hp.some
  have := hl _ (at3_mem l k hk)
  rw [e] at this
  obtain ⟨v, rfl⟩ := Int.eq_ofNat_of_zero_le this.2.1
  exact ⟨v, by omega, rfl⟩

/-- ways taken from the source end at the sink -/
theorem Taken.first {N : Nat} {s t : Int} {l : List Arc3} {F0 F : List Int} {W R : List Pc} (hE : netErr N s t l = 0) (hF : FlowIs N s t l F0) (hNn : Nn l F0) (h0 : 0 ≤ gone l (ati F0) s) (h : Taken l s F0 F W R) :
    (Nn l F ∧ FlowIs N s t l F) ∧ 0 ≤ gone l (ati F) s ∧ (∀ p ∈ W, PieceIs l s p t) ∧ total W + gone l (ati F) s = gone l (ati F0) s := by
  have hst := (net_ok hE).2.2.2
  refine h (fun F W R => (Nn l F ∧ FlowIs N s t l F) ∧ 0 ≤ gone l (ati F) s ∧ (∀ p ∈ W, PieceIs l s p t) ∧ total W + gone l (ati F) s = gone l (ati F0) s) ⟨⟨hNn, hF⟩, h0, fun p hp => absurd hp (List.not_mem_nil), by simp [total]⟩ ?_ ?_
  · intro F W R p u ⟨⟨h1, h2⟩, h3, h4, h5⟩ hp ht
    have hg : ∀ v, gone l (ati (takeA F p.1 p.2)) v = gone l (ati F) v := fun v => by rw [take_gone h1 hp v]; omega
    have h1' := h1.take hp.pos ht
    refine ⟨⟨h1', h1'.len, fun k hk => ?_, fun v hv e1 e2 => by rw [hg]; exact h2.bal v hv e1 e2⟩, by rw [hg]; exact h3, h4, by rw [hg]; exact h5⟩
    have a1 := h1'.bnd k hk
    have a2 := take_le h1 hp.pos (p := p) hk
    have a3 := h2.bnd k hk
    omega
  · intro F W R p u ⟨⟨h1, h2⟩, h3, h4, h5⟩ hp ht hu hd
    have h1' := h1.take hp.pos ht
    obtain ⟨k, hkK, hk, hke⟩ := hp.way.last hp.some
    have hdg := (dead_gone h1 hd).2 k hk hke
    have hle := ht.le k hkK
    have hpos := hp.pos
    obtain ⟨v, hv, hve⟩ := hp.end (net_nodes hE)
    have hut : u = t := by
      refine Classical.byContradiction fun c => ?_
      have := h2.bal v hv (by rw [← hve]; exact hu) (by rw [← hve]; exact c)
      rw [← hve] at this
      omega
    subst hut
    have hends := h2.ends hE
    have hg := take_gone h1 hp
    have hgs : gone l (ati (takeA F p.1 p.2)) s = gone l (ati F) s - p.1 := by rw [hg s, if_pos rfl, if_neg hu]; omega
    refine ⟨⟨h1', h1'.len, fun k hk => ?_, fun v hv e1 e2 => ?_⟩, by rw [hgs]; omega, fun q hq => ?_, ?_⟩
    · have a1 := h1'.bnd k hk
      have a2 := take_le h1 hp.pos (p := p) hk
      have a3 := h2.bnd k hk
      omega
    · rw [hg, if_neg (Ne.symm e1), if_neg (Ne.symm e2), h2.bal v hv e1 e2]; rfl
    · rcases List.mem_append.1 hq with hq | hq
      · exact h4 q hq
      · rw [List.mem_singleton] at hq; subst hq; exact hp
    · rw [total_append, hgs]
      have : total [p] = p.1 := by simp [total]
      omega

/-- where as much comes as goes everywhere there are rounds alone -/
theorem Taken.circle {N : Nat} {s : Int} {l : List Arc3} {F0 F : List Int} {W R : List Pc} (hl : ∀ a ∈ l, (0 ≤ a.1 ∧ a.1 < (N : Int)) ∧ (0 ≤ a.2.1 ∧ a.2.1 < (N : Int))) (hNn : Nn l F0) (h0 : ∀ v : Nat, v < N → gone l (ati F0) v = 0) (h : Taken l s F0 F W R) :
    Nn l F ∧ W = [] ∧ ∀ v : Nat, v < N → gone l (ati F) v = 0 := by
  refine h (fun F W R => Nn l F ∧ W = [] ∧ ∀ v : Nat, v < N → gone l (ati F) v = 0) ⟨hNn, rfl, h0⟩ ?_ ?_
  · intro F W R p u ⟨h1, h2, h3⟩ hp ht
    refine ⟨h1.take hp.pos ht, h2, fun v hv => ?_⟩
    rw [take_gone h1 hp v, h3 v hv]; omega
  · intro F W R p u ⟨h1, h2, h3⟩ hp ht hu hd
    exfalso
    obtain ⟨k, hkK, hk, hke⟩ := hp.way.last hp.some
    have hdg := (dead_gone h1 hd).2 k hk hke
    have hle := ht.le k hkK
    have hpos := hp.pos
    obtain ⟨v, hv, hve⟩ := hp.end hl
    have := h3 v hv
    rw [← hve] at this
    omega

/-- behind the ways from the source: rounds alone are left -/
theorem Taken.rest {N : Nat} {s t : Int} {l : List Arc3} {F0 F : List Int} {W R : List Pc} (hE : netErr N s t l = 0) (hF : FlowIs N s t l F0) (hNn : Nn l F0) (h0 : 0 ≤ gone l (ati F0) s) (h : Taken l s F0 F W R) (hd : Dead l F s) :
    (∀ v : Nat, v < N → gone l (ati F) v = 0) ∧ (∀ p ∈ W, PieceIs l s p t) ∧ total W = gone l (ati F0) s := by
  obtain ⟨⟨h1, h2⟩, h3, h4, h5⟩ := h.first hE hF hNn h0
  have h6 := (dead_gone h1 hd).1
  have h7 := h2.ends hE
  refine ⟨fun v hv => ?_, h4, by omega⟩
  by_cases e1 : (v : Int) = s
  · rw [e1]; omega
  · by_cases e2 : (v : Int) = t
    · rw [e2]; omega
    · exact h2.bal v hv e1 e2

/-- while the rounds are taken out, node by node -/
structure Turns (N : Nat) (s t : Int) (l : List Arc3) (f : List Int) (v : Nat) (F : List Int) (W R : List Pc) : Prop where
  kept : Kept l f F W R
  flat : ∀ u : Nat, u < N → gone l (ati F) u = 0
  ways : ∀ p ∈ W, PieceIs l s p t
  val : total W = gone l (ati f) s
  dead : ∀ u : Nat, u < v → Dead l F u
theorem Turns.start {N : Nat} {s t : Int} {l : List Arc3} {F0 F : List Int} {W R : List Pc} (hE : netErr N s t l = 0) (hF : FlowIs N s t l F0) (hNn : Nn l F0) (h0 : 0 ≤ gone l (ati F0) s) (h : Taken l s F0 F W R) (hd : Dead l F s) : Turns N s t l F0 0 F W R := by
  obtain ⟨h1, h2, h3⟩ := h.rest hE hF hNn h0 hd
  exact ⟨h.kept hNn, h1, h2, h3, fun u hu => absurd hu (Nat.not_lt_zero _)⟩
theorem Turns.next {N : Nat} {s t : Int} {l : List Arc3} {f F G : List Int} {W R W' R' : List Pc} {v : Nat} (hl : ∀ a ∈ l, (0 ≤ a.1 ∧ a.1 < (N : Int)) ∧ (0 ≤ a.2.1 ∧ a.2.1 < (N : Int))) (h : Turns N s t l f v F W R) (ht : Taken l (v : Int) F G W' R') (hd : Dead l G v) :
    W' = [] ∧ Turns N s t l f (v + 1) G W (R ++ R') := by
  obtain ⟨c1, c2, c3⟩ := ht.circle hl h.kept.nn h.flat
  subst c2
  have k := ht.kept h.kept.nn
  have k0 := h.kept
  refine ⟨rfl, ⟨c1, fun i hi => Int.le_trans (k.le i hi) (k0.le i hi), fun i hi => ?_, ?_, fun p hp => ?_⟩, c3, h.ways, h.val, fun u hu => ?_⟩
  · have := k.sum i hi
    have h2 := k0.sum i hi
    rw [List.nil_append] at this
    rw [amt_append] at h2
    rw [amt_append, amt_append]; omega
  · have := k.few
    have := k0.few
    rw [List.length_append]
    simp only [List.length_nil] at *
    omega
  · rcases List.mem_append.1 hp with hp | hp
    · exact k0.rounds p hp
    · exact k.rounds p hp
  · by_cases e : u = v
    · subst e; exact hd
    · intro i hi hf
      have := h.dead u (by omega) i hi hf
      have := k.le i hi
      omega
theorem Turns.done {N : Nat} {s t : Int} {l : List Arc3} {f F : List Int} {W R : List Pc} (hl : ∀ a ∈ l, (0 ≤ a.1 ∧ a.1 < (N : Int)) ∧ (0 ≤ a.2.1 ∧ a.2.1 < (N : Int))) (h : Turns N s t l f N F W R) : SplitIs s t l f W R := by
  refine ⟨h.ways, h.kept.rounds, fun k hk => ?_, h.val, ?_⟩
  · have h1 := h.kept.sum k hk
    have h2 := hl _ (at3_mem l k hk)
    have h3 := h.kept.nn.bnd k hk
    have h4 := h.dead (at3 l k).1.toNat (by omega) k hk (by omega)
    omega
  · have h1 := h.kept.few
    have h2 := cntF_le (ati f) l.length
    omega

end Go.Proofs.Ythlcbhbjngcnkaa
