/- Plain facts, level by level: what is sent from a node by steps that lead just one farther; round by round. -/
import Derived.Test.YtlfhnhfhaifchaaLvN
import Derived.Test.YtlfhnhfhaifchaaLevelC
namespace Go.Proofs.Ytlfhnhfhaifchaa
set_option linter.unusedVariables false

/-- in a round: what goes along each arc, and how far each node is, those that are blocked apart -/
structure LiveD (N t : Nat) (l : List Arc3) (D : Nat → Int) (F : List Int) (E : Nat → Int) : Prop where
  len : F.length = l.length
  bnd : ∀ k, k < l.length → 0 ≤ ati F k ∧ ati F k ≤ (at3 l k).2.2
  low : ∀ v, v < 12 → E v = D v ∨ E v = -1
  shut : Shut N t l D F (fun v => E v ≠ D v)
/-- so much sent from a node to the sink -/
structure Sent (N t : Nat) (l : List Arc3) (D : Nat → Int) (a : Nat) (F : List Int) (E : Nat → Int) (x : Int) (F' : List Int) (E' : Nat → Int) : Prop where
  live : LiveD N t l D F' E'
  bal : ∀ u : Nat, gone l (ati F') u = gone l (ati F) u + ((if a = u then x else 0) - (if t = u then x else 0))
  moved : Moved l D F F'
  far : ∀ k b, k < l.length → D (frmN l k b) < D a → ati F' k = ati F k
  mono : ∀ v, E v ≠ D v → E' v ≠ D v
  same : x = 0 → ∀ k, k < l.length → ati F' k = ati F k
/-- along an arc nothing leads on -/
def BarAt (l : List Arc3) (D : Nat → Int) (F : List Int) (E : Nat → Int) (a k : Nat) (b : Bool) : Prop :=
  frmN l k b = a → D (towN l k b) = D a + 1 → 0 < room l F k b → E (towN l k b) ≠ D (towN l k b)
/-- a node's arcs, one by one, forward and back: j of these done -/
structure SendK (N t : Nat) (l : List Arc3) (D : Nat → Int) (a : Nat) (F : List Int) (E : Nat → Int) (j : Nat) (most got : Int) (F' : List Int) (E' : Nat → Int) : Prop where
  sent : Sent N t l D a F E got F' E'
  amt : 0 ≤ got ∧ got ≤ most
  bar : got < most → ∀ i b, i < l.length → 2 * i + (if b then 1 else 0) < j → BarAt l D F' E' a i b

theorem Sent.refl {N t : Nat} {l : List Arc3} {D : Nat → Int} {a : Nat} {F : List Int} {E : Nat → Int} {x : Int} (h : LiveD N t l D F E) (hx : a = t ∨ x = 0) : Sent N t l D a F E x F E :=
  ⟨h, fun u => by
    rcases hx with rfl | rfl
    · omega
    · simp, Moved.refl l D F, fun k b _ _ => rfl, fun v h => h, fun _ k _ => rfl⟩
theorem SendK.start {N t : Nat} {l : List Arc3} {D : Nat → Int} {a : Nat} {F : List Int} {E : Nat → Int} {most : Int} (h : LiveD N t l D F E) (hm : 0 ≤ most) : SendK N t l D a F E 0 most 0 F E :=
  ⟨Sent.refl h (Or.inr rfl), ⟨Int.le_refl _, hm⟩, fun _ i b _ hi => absurd hi (Nat.not_lt_zero _)⟩
theorem BarAt.on {l : List Arc3} {D : Nat → Int} {F F' : List Int} {E E' : Nat → Int} {a k : Nat} {b : Bool} (h : BarAt l D F E a k b) (hk : k < l.length) (hM : Moved l D F F') (hm : ∀ v, E v ≠ D v → E' v ≠ D v) : BarAt l D F' E' a k b := fun h1 h2 h3 => by
  by_cases c : room l F k b < room l F' k b
  · have := hM k b hk c
    rw [h1] at this
    omega
  · exact hm _ (h h1 h2 (by omega))
theorem moved_sent {l : List Arc3} {D : Nat → Int} {F : List Int} {k : Nat} {b : Bool} {x : Int} (hk : k < F.length) (hx : 0 ≤ x) (h0 : 0 ≤ D (frmN l k b)) (h1 : D (towN l k b) = D (frmN l k b) + 1) : Moved l D F (sentF F k b x) := fun i c hi h => by
  rw [room_sent hk] at h
  by_cases e : i = k
  · subst e
    by_cases e2 : c = b
    · subst e2; simp at h; omega
    · have e3 : c = !b := by cases b <;> cases c <;> simp_all
      subst e3
      rw [tow_not, frm_not]
      exact ⟨h0, h1⟩
  · rw [if_neg e] at h; omega

/-- one arc, forward or back, that leads on -/
theorem SendK.arm {N s t : Nat} {l : List Arc3} {D : Nat → Int} {a : Nat} {F F1 F2 : List Int} {E E1 E2 : Nat → Int} {k : Nat} {b : Bool} {most sent x : Int} (hE : netErr N s t l = 0) (hN : N ≤ 12) (h0 : 0 ≤ D a) (h : SendK N t l D a F E (2 * k + if b then 1 else 0) most sent F1 E1) (hk : k < l.length)
    (hfrm : frmN l k b = a) (hto : E1 (towN l k b) = D a + 1) (hc : Sent N t l D (towN l k b) F1 E1 x F2 E2) (hx : 0 ≤ x ∧ x ≤ min (most - sent) (room l F1 k b)) (hd : x < min (most - sent) (room l F1 k b) → E2 (towN l k b) ≠ D (towN l k b)) :
    SendK N t l D a F E (2 * k + (if b then 1 else 0) + 1) most (sent + x) (sentF F2 k b x) E2 ∧ ati F2 k = ati F1 k := by
  have hD : D (towN l k b) = D a + 1 := by
    rcases h.sent.live.low (towN l k b) (by have := (ends_lt hE hk b).2; omega) with e | e
    · omega
    · omega
  have hk2 : k < F2.length := by rw [hc.live.len]; exact hk
  have heq : ati F2 k = ati F1 k := hc.far k b hk (by rw [hfrm, hD]; omega)
  have hM2 : Moved l D F2 (sentF F2 k b x) := moved_sent hk2 hx.1 (by rw [hfrm]; exact h0) (by rw [hfrm]; exact hD)
  have hb1 := h.sent.live.bnd k hk
  have hroom : room l F2 k b = room l F1 k b := by unfold room; rw [heq]
  obtain ⟨hx0, hx1⟩ := hx
  have hx2 : x ≤ most - sent := Int.le_trans hx1 (Int.min_le_left _ _)
  have hx3 : x ≤ room l F1 k b := Int.le_trans hx1 (Int.min_le_right _ _)
  have hamt := h.amt
  refine ⟨⟨⟨⟨by rw [sent_len]; exact hc.live.len, fun i hi => ?_, hc.live.low, hc.live.shut.moved hM2⟩, fun u => ?_, (h.sent.moved.trans hc.moved).trans hM2, fun i c hi hlt => ?_, fun v hv => hc.mono v (h.sent.mono v hv), fun he i hi => ?_⟩, ⟨by omega, by omega⟩, fun hlt i c hi hj => ?_⟩, heq⟩
  · rw [sent_at hk2]
    by_cases e : i = k
    · subst e
      rw [if_pos rfl, heq]
      unfold room at hx3
      cases b
      · simp at hx3 ⊢; omega
      · simp at hx3 ⊢; omega
    · rw [if_neg e]; exact hc.live.bnd i hi
  · rw [sent_gone hE hc.live.len hk, hc.bal u, h.sent.bal u, hfrm]
    by_cases c1 : a = u <;> by_cases c2 : t = u <;> by_cases c3 : towN l k b = u <;> simp only [c1, c2, c3, if_true, if_false] <;> omega
  · have hik : i ≠ k := fun e => by
      subst e
      by_cases e2 : c = b
      · subst e2; rw [hfrm] at hlt; omega
      · have e3 : c = !b := by cases b <;> cases c <;> simp_all
        subst e3
        rw [frm_not, hD] at hlt; omega
    rw [sent_at hk2, if_neg hik, hc.far i c hi (by omega), h.sent.far i c hi hlt]
  · have e1 : sent = 0 := by omega
    have e2 : x = 0 := by omega
    rw [sent_at hk2]
    by_cases e : i = k
    · subst e
      rw [if_pos rfl, heq, h.sent.same e1 i hi, e2]
      cases b <;> simp
    · rw [if_neg e, hc.same e2 i hi, h.sent.same e1 i hi]
  · by_cases e : i = k ∧ c = b
    · obtain ⟨rfl, rfl⟩ := e
      intro g1 g2 g3
      refine hd ?_
      rw [room_sent hk2, if_pos rfl, if_pos rfl, hroom] at g3
      exact Int.lt_min.2 ⟨by omega, by omega⟩
    · have hj' : 2 * i + (if c then 1 else 0) < 2 * k + (if b then 1 else 0) := by
        rcases Nat.lt_or_ge i k with h1 | h1
        · cases b <;> cases c <;> simp <;> omega
        · have h2 : i = k := by cases b <;> cases c <;> simp at hj <;> omega
          subst h2
          cases b <;> cases c <;> simp_all
      exact ((h.bar (by omega) i c hi hj').on hi hc.moved hc.mono).on hi hM2 (fun v hv => hv)
/-- one that doesn't -/
theorem SendK.skip {N t : Nat} {l : List Arc3} {D : Nat → Int} {a : Nat} {F F1 : List Int} {E E1 : Nat → Int} {k : Nat} {b : Bool} {most sent : Int} (h : SendK N t l D a F E (2 * k + if b then 1 else 0) most sent F1 E1)
    (hn : ¬ (frmN l k b = a ∧ E1 (towN l k b) = D a + 1)) : SendK N t l D a F E (2 * k + (if b then 1 else 0) + 1) most sent F1 E1 :=
  ⟨h.sent, h.amt, fun hlt i c hi hj => by
    by_cases e : i = k ∧ c = b
    · obtain ⟨rfl, rfl⟩ := e
      intro g1 g2 g3 g4
      exact hn ⟨g1, by rw [g4, g2]⟩
    · refine h.bar hlt i c hi ?_
      rcases Nat.lt_or_ge i k with h1 | h1
      · cases b <;> cases c <;> simp <;> omega
      · have h2 : i = k := by cases b <;> cases c <;> simp at hj <;> omega
        subst h2
        cases b <;> cases c <;> simp_all⟩
/-- all arcs done, and not so much sent: blocked -/
theorem SendK.block {N t : Nat} {l : List Arc3} {D : Nat → Int} {a : Nat} {F F1 : List Int} {E E1 E2 : Nat → Int} {most sent : Int} (h0 : 0 ≤ D a) (hat : a ≠ t) (h : SendK N t l D a F E (2 * l.length) most sent F1 E1) (hlt : sent < most)
    (h2 : ∀ v, E2 v = if v = a then -1 else E1 v) : Sent N t l D a F E sent F1 E2 ∧ E2 a ≠ D a := by
  have ha : E2 a ≠ D a := by rw [h2, if_pos rfl]; omega
  have hm : ∀ v, E1 v ≠ D v → E2 v ≠ D v := fun v hv => by
    rw [h2]
    by_cases e : v = a
    · rw [if_pos e, e]; omega
    · rw [if_neg e]; exact hv
  refine ⟨⟨⟨h.sent.live.len, h.sent.live.bnd, fun v hv => ?_, ⟨fun c => ?_, fun k b hk hr hx hd => ?_⟩⟩, h.sent.bal, h.sent.moved, h.sent.far, fun v hv => hm v (h.sent.mono v hv), h.sent.same⟩, ha⟩
  · rw [h2]
    split
    · exact Or.inr rfl
    · exact h.sent.live.low v hv
  · rw [h2, if_neg (Ne.symm hat)] at c
    exact h.sent.live.shut.snk c
  · by_cases e : frmN l k b = a
    · exact hm _ (h.bar hlt k b hk (by cases b <;> simp <;> omega) e (by rw [hd, e]) hr)
    · rw [h2, if_neg e] at hx
      exact hm _ (h.sent.live.shut.on k b hk hr hx hd)

/-! ### Round by round -/

theorem sum_full {f : Nat → Int} : ∀ {n : Nat}, (∀ i, i < n → f i ≤ 10000) → 10000 * (n : Int) ≤ sumN f n → ∀ i, i < n → 10000 ≤ f i
  | 0, _, _, i, hi => absurd hi (Nat.not_lt_zero _)
  | n + 1, h, e, i, hi => by
    have e' : 10000 * ((n + 1 : Nat) : Int) ≤ sumN f n + f n := e
    have h1 : sumN f n ≤ 10000 * (n : Int) := by
      clear e e' hi
      induction n with
      | zero => simp [sumN]
      | succ n ih =>
        have := ih fun i hi => h i (by omega)
        have := h n (by omega)
        show sumN f n + f n ≤ _
        omega
    have h2 := h n (by omega)
    by_cases c : i = n
    · subst c; omega
    · exact sum_full (n := n) (fun i hi => h i (by omega)) (by omega) i (by omega)

/-- a round -/
theorem lv_round {N s t : Nat} {l : List Arc3} {D : Nat → Int} {F F' : List Int} {E' : Nat → Int} {x : Int} (hE : netErr N s t l = 0) (hN : N ≤ 12) (hst : s ≠ t) (hsN : s < N) (htN : t < N) (hl : l.length ≤ 60) (hL : LookIs N s l F D) (hf : FlowIs N s t l F) (h0 : 0 ≤ gone l (ati F) s) (ht : 0 ≤ D t)
    (hS : Sent N t l D s F D x F' E') (hx : 0 ≤ x ∧ x ≤ 600000) (hd : x < 600000 → E' s ≠ D s) : FlowIs N s t l F' ∧ gone l (ati F') s = gone l (ati F) s + x ∧ 1 ≤ x ∧ ∃ X, Shut N t l D F' X ∧ X s := by
  have hval : gone l (ati F') s = gone l (ati F) s + x := by rw [hS.bal s, if_pos rfl, if_neg (Ne.symm hst)]; omega
  have hf' : FlowIs N s t l F' := ⟨hS.live.len, hS.live.bnd, fun v hv h1 h2 => by
    rw [hS.bal v, hf.bal v hv h1 h2, if_neg (fun e => h1 (by rw [e])), if_neg (fun e => h2 (by rw [e]))]; rfl⟩
  refine ⟨hf', hval, ?_, ?_⟩
  · refine Classical.byContradiction fun c => ?_
    have e : x = 0 := by omega
    have hsame := hS.same e
    have hX : Shut N t l D F (fun v => E' v ≠ D v) := ⟨hS.live.shut.snk, fun k b hk hr => hS.live.shut.on k b hk (by unfold room at hr ⊢; rw [hsame k hk]; exact hr)⟩
    obtain ⟨j, hj⟩ := Int.eq_ofNat_of_zero_le ht
    have := (farther hE hN hL (Moved.refl l D F) hX (hd (by omega)) hL j t (by omega) hj).2.2 rfl
    exact hX.snk this
  · by_cases c : x < 600000
    · exact ⟨_, hS.live.shut, hd c⟩
    · refine ⟨fun v => v = s, ⟨Ne.symm hst, fun k b hk hr hx' _ => ?_⟩, rfl⟩
      exfalso
      have hcap := fun k hk => (arc_at hE (k := k) hk).2.2.2.2
      have hfull := sum_full (f := fun i => (if (at3 l i).1 = (s : Int) then ati F' i else 0) - (if (at3 l i).2.1 = (s : Int) then ati F' i else 0)) (n := l.length) (fun i hi => by
        have h1 := hcap i hi
        have h2 := hf'.bnd i hi
        split <;> split <;> omega) (by
        have : sumN (fun i => (if (at3 l i).1 = (s : Int) then ati F' i else 0) - (if (at3 l i).2.1 = (s : Int) then ati F' i else 0)) l.length = gone l (ati F') s := rfl
        rw [this, hval]; omega) k hk
      have h1 := hcap k hk
      have h2 := hf'.bnd k hk
      obtain ⟨a1, a2, _⟩ := arc_at hE hk
      have hfrom : (at3 l k).1 = (s : Int) := Classical.byContradiction fun q => by rw [if_neg q] at hfull; split at hfull <;> omega
      have hto : (at3 l k).2.1 ≠ (s : Int) := fun q => by rw [if_pos hfrom, if_pos q] at hfull; omega
      rw [if_pos hfrom, if_neg hto] at hfull
      unfold room at hr
      unfold frmN at hx'
      cases b
      · simp at hr; omega
      · simp at hx'
        have := (net_nodes hE _ (at3_mem l k hk)).2
        omega

/-- no way leads to the sink: as much goes as can -/
theorem closed_max {N s t : Nat} {l : List Arc3} {F : List Int} {D : Nat → Int} (hE : netErr N s t l = 0) (hN : N ≤ 12) (hf : FlowIs N s t l F) (h : LookIs N s l F D) (ht : ¬ 0 ≤ D t) : MaxIs N s t l (gone l (ati F) s) := by
  obtain ⟨_, hs, ht', hst⟩ := net_ok hE
  obtain ⟨x, hx, hb⟩ := side_of (fun v => decide (0 ≤ D v)) N
  have hbt : ∀ v : Nat, v < N → bt (x : Int) (v : Int) = if 0 ≤ D v then 1 else 0 := fun v hv => by
    rw [bt_bit, hb v hv]
    by_cases c : 0 ≤ D v
    · rw [if_pos c, if_pos (by simpa using c)]
    · rw [if_neg c, if_neg (by simpa using c)]
  have h1 : bt (x : Int) (s : Int) = 1 := by rw [hbt s (by omega), if_pos (by rw [h.src]; omega)]
  have h2 : bt (x : Int) (t : Int) = 0 := by rw [hbt t (by omega), if_neg ht]
  refine ⟨⟨F, hf, rfl⟩, ⟨x, ⟨by omega, by exact_mod_cast hx, h1, h2⟩, ?_⟩⟩
  have e := hf.side hE (bt x)
  rw [h1, h2] at e
  have e2 : sumN (fun i => bt x (at3 l i).1 * ati F i - bt x (at3 l i).2.1 * ati F i) l.length = capS x l := by
    refine sumN_congr fun i hi => ?_
    obtain ⟨p1, p2, p3, p4, _⟩ := arc_at hE hi
    have hbd := hf.bnd i hi
    rw [p1, p2, hbt _ p3, hbt _ p4]
    by_cases c1 : 0 ≤ D (frmN l i false)
    · by_cases c2 : 0 ≤ D (towN l i false)
      · rw [if_pos c1, if_pos c2]; simp
      · have : ¬ 0 < room l F i false := fun c => c2 (h.on i false hi c c1).1
        have : ati F i = (at3 l i).2.2 := by unfold room at this; simp at this; omega
        rw [if_pos c1, if_neg c2, this]; simp
    · by_cases c2 : 0 ≤ D (towN l i false)
      · have : ¬ 0 < room l F i true := fun c => c1 (h.on i true hi c c2).1
        have : ati F i = 0 := by unfold room at this; simp at this; omega
        rw [if_neg c1, if_pos c2, this]; simp
      · rw [if_neg c1, if_neg c2]; simp
  rw [← e2, e]; omega

/-- after i rounds -/
structure LvInv (N s t : Nat) (l : List Arc3) (F : List Int) (i : Nat) : Prop where
  flow : FlowIs N s t l F
  val : (i : Int) ≤ gone l (ati F) s
  zero : i = 0 → gone l (ati F) s = 0
  few : i < N
  far : ∀ D, LookIs N s l F D → 0 ≤ D t → (i : Int) + 1 ≤ D t
  ones : (∀ k, k < l.length → (at3 l k).2.2 = 1) → ∀ q : Nat, l.length < (q + 1) * (q + 1) → ∀ v, MaxIs N s t l v → i ≤ q + 1 ∨ (i : Int) + (v - gone l (ati F) s) ≤ 2 * (q : Int) + 1

theorem LvInv.start {N s t : Nat} {l : List Arc3} (hE : netErr N s t l = 0) (hst : s ≠ t) (ht : t < 12) : LvInv N s t l (List.replicate l.length 0) 0 := by
  have hz : ∀ u, gone l (ati (List.replicate l.length 0)) u = 0 := fun u => (gone_congr (fun i _ => ati_zero _ i) u).trans (gone_zero l u)
  refine ⟨⟨List.length_replicate, fun k hk => ?_, fun v _ _ _ => hz v⟩, by rw [hz]; omega, fun _ => hz _, ?_, fun D hD h0 => ?_, fun _ q _ v _ => Or.inl (by omega)⟩
  · rw [ati_zero]
    have := (arc_at hE hk).2.2.2.2
    omega
  · have := (net_ok hE).2.1; omega
  · obtain ⟨k, b, _, _, _, h1, h2⟩ := hD.back t ht (Ne.symm hst) h0
    omega
theorem LvInv.round {N s t : Nat} {l : List Arc3} {D : Nat → Int} {F F' : List Int} {E' : Nat → Int} {x : Int} {i : Nat} (hE : netErr N s t l = 0) (hN : N ≤ 12) (hst : s ≠ t) (hsN : s < N) (htN : t < N) (hl : l.length ≤ 60) (h : LvInv N s t l F i) (hL : LookIs N s l F D) (ht : 0 ≤ D t)
    (hS : Sent N t l D s F D x F' E') (hx : 0 ≤ x ∧ x ≤ 600000) (hd : x < 600000 → E' s ≠ D s) : LvInv N s t l F' (i + 1) ∧ gone l (ati F') s = gone l (ati F) s + x := by
  have hv := h.val
  obtain ⟨h1, h2, h3, X, h4, h5⟩ := lv_round hE hN hst hsN htN hl hL h.flow (by omega) ht hS hx hd
  have hfar := h.far D hL ht
  have hDt := (hL.low t (by omega)).2
  refine ⟨⟨h1, by omega, fun e => by omega, by omega, fun D' hD' h0 => ?_, fun hc q hq v hM => ?_⟩, h2⟩
  · have := farther_t hE hN (by omega) hL hS.moved h4 h5 hD' h0
    omega
  · rcases Nat.lt_trichotomy i (q + 1) with c | c | c
    · exact Or.inl (by omega)
    · refine Or.inr ?_
      have hb := lv_bound (d := fun v => if 0 ≤ D v.toNat then (D v.toNat).toNat else 12) hE hc h.flow hM (by simp [hL.src]) (fun k hk => by
        obtain ⟨p1, p2, p3, p4, _⟩ := arc_at hE hk
        have c1 := hc k hk
        have o1 := hL.on k false hk
        have o2 := hL.on k true hk
        have f1 : frmN l k true = towN l k false := rfl
        have f2 : towN l k true = frmN l k false := rfl
        rw [f1, f2] at o2
        have r1 : room l F k false = 1 - ati F k := by unfold room; simp [c1]
        have r2 : room l F k true = ati F k := by unfold room; simp
        rw [r1] at o1
        rw [r2] at o2
        have l1 := hL.low (frmN l k false) (by omega)
        have l2 := hL.low (towN l k false) (by omega)
        rw [p1, p2]
        simp only [Int.toNat_natCast]
        refine ⟨fun a => ?_, fun a => ?_⟩
        · by_cases g : 0 ≤ D (frmN l k false)
          · have := o1 (by omega) g
            rw [if_pos g, if_pos this.1]; omega
          · rw [if_neg g]; split <;> omega
        · by_cases g : 0 ≤ D (towN l k false)
          · have := o2 (by omega) g
            rw [if_pos g, if_pos this.1]; omega
          · rw [if_neg g]; split <;> omega)
      simp only [Int.toNat_natCast, if_pos ht] at hb
      have hq' : v - gone l (ati F) s ≤ q := by
        refine Classical.byContradiction fun g => ?_
        have hm : ((q : Int) + 2) * ((q : Int) + 1) ≤ ((D t).toNat : Int) * (v - gone l (ati F) s) := Int.mul_le_mul (by omega) (by omega) (by omega) (by omega)
        have hq2 : (l.length : Int) < ((q : Int) + 1) * ((q : Int) + 1) := by exact_mod_cast hq
        have hm2 : ((q : Int) + 2) * ((q : Int) + 1) = ((q : Int) + 1) * ((q : Int) + 1) + ((q : Int) + 1) := by rw [show (q : Int) + 2 = ((q : Int) + 1) + 1 by omega, Int.add_mul ((q : Int) + 1) 1]; omega
        omega
      omega
    · rcases h.ones hc q hq v hM with g | g
      · omega
      · exact Or.inr (by omega)
theorem LvInv.tells {N s t : Nat} {l : List Arc3} {D : Nat → Int} {F : List Int} {i : Nat} (hE : netErr N s t l = 0) (hN : N ≤ 12) (h : LvInv N s t l F i) (hL : LookIs N s l F D) (ht : ¬ 0 ≤ D t) : LevelTells N s t l F (gone l (ati F) s) i 0 := by
  have hM := closed_max hE hN h.flow hL ht
  have h1 := h.val
  have h2 := h.few
  refine ⟨⟨fun c => absurd rfl c, fun _ => hE, fun _ => ⟨by rw [Int.toNat_natCast]; exact h.flow, rfl⟩, fun _ => by rw [Int.toNat_natCast]; exact hM⟩, fun c => absurd rfl c, fun _ => ⟨by omega, by omega, fun c => h.zero (by omega), fun c => by omega⟩, fun _ hc q hq => ?_⟩
  rcases h.ones hc q hq _ hM with g | g <;> omega

end Go.Proofs.Ytlfhnhfhaifchaa
