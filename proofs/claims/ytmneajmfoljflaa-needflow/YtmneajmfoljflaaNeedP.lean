/- Plain facts: what must go and what more may, as a net with a source and a sink of its own: HOFFMAN's other half. -/
import Derived.Test.YtmneajmfoljflaaNeedM
import Derived.Test.YtmneajmfoljflaaCutN
namespace Go.Proofs.Ytmneajmfoljflaa
set_option linter.unusedVariables false

/-- what may go beside the Lows -/
def restA (l : List Need4) : List Arc3 := l.map fun a => (a.1, a.2.1, a.2.2.2 - a.2.2.1)
theorem restA_len (l : List Need4) : (restA l).length = l.length := by unfold restA; rw [List.length_map]
theorem restA_at {l : List Need4} {k : Nat} (hk : k < l.length) : at3 (restA l) k = ((at4 l k).1, (at4 l k).2.1, (at4 l k).2.2.2 - (at4 l k).2.2.1) := by
  rw [at3_lt _ _ (by rw [restA_len]; exact hk), at4_lt _ _ hk]
  unfold restA
  rw [List.getElem_map]
/-- what the Lows of the first k arcs bring to a node more than they take away -/
def brgK (l : List Need4) (k : Nat) (v : Int) : Int := sumN (fun i => (if (at4 l i).2.1 = v then (at4 l i).2.2.1 else 0) - (if (at4 l i).1 = v then (at4 l i).2.2.1 else 0)) k
def brgN (l : List Need4) (v : Nat) : Int := brgK l l.length v
/-- an arc for what a node has too much, or lacks -/
def extra1 (N : Nat) (x : Int) (v : Nat) : List Arc3 := if 0 < x then [((N : Int), (v : Int), x)] else if x < 0 then [((v : Int), (N : Int) + 1, -x)] else []
def extraK (N : Nat) (X : Nat → Int) : Nat → List Arc3
  | 0 => []
  | k + 1 => extraK N X k ++ extra1 N (X k) k
def owedK (X : Nat → Int) (k : Nat) : Int := sumN (fun v => if 0 < X v then X v else 0) k
def besideL (N : Nat) (l : List Need4) : List Arc3 := restA l ++ extraK N (brgN l) N
def owedN (N : Nat) (l : List Need4) : Int := owedK (brgN l) N

theorem extraK_len (N : Nat) (X : Nat → Int) : ∀ k, (extraK N X k).length ≤ k
  | 0 => Nat.le_refl _
  | k + 1 => by
    have ih := extraK_len N X k
    show (extraK N X k ++ extra1 N (X k) k).length ≤ _
    rw [List.length_append]
    have : (extra1 N (X k) k).length ≤ 1 := by
      unfold extra1
      by_cases c1 : 0 < X k
      · rw [if_pos c1]; exact Nat.le_refl _
      · rw [if_neg c1]
        by_cases c2 : X k < 0
        · rw [if_pos c2]; exact Nat.le_refl _
        · rw [if_neg c2]; exact Nat.zero_le _
    omega
theorem extraK_mem {N : Nat} {X : Nat → Int} : ∀ {k : Nat} {a : Arc3}, a ∈ extraK N X k → ∃ v, v < k ∧ a ∈ extra1 N (X v) v
  | 0, a, h => by cases h
  | k + 1, a, h => by
    rcases List.mem_append.1 h with h | h
    · obtain ⟨v, h1, h2⟩ := extraK_mem h
      exact ⟨v, by omega, h2⟩
    · exact ⟨k, by omega, h⟩
theorem extra1_mem {N : Nat} {x : Int} {v : Nat} {a : Arc3} (h : a ∈ extra1 N x v) : (0 < x ∧ a = ((N : Int), (v : Int), x)) ∨ (x < 0 ∧ a = ((v : Int), (N : Int) + 1, -x)) := by
  unfold extra1 at h
  split at h
  · exact Or.inl ⟨by assumption, by simpa using h⟩
  · split at h
    · exact Or.inr ⟨by assumption, by simpa using h⟩
    · cases h

/-- a sum over a list's arcs -/
theorem sumN_arcs (φ : Arc3 → Int) : ∀ l : List Arc3, sumN (fun i => φ (at3 l i)) l.length = (l.map φ).sum
  | [] => rfl
  | a :: l => by
    rw [List.length_cons, sumN_front, List.map_cons, List.sum_cons, ← sumN_arcs φ l]
    rfl
theorem extra_sum (φ : Arc3 → Int) (N : Nat) (X : Nat → Int) : ∀ k, ((extraK N X k).map φ).sum = sumN (fun v => ((extra1 N (X v) v).map φ).sum) k
  | 0 => rfl
  | k + 1 => by
    show ((extraK N X k ++ extra1 N (X k) k).map φ).sum = sumN _ k + _
    rw [List.map_append, List.sum_append, extra_sum φ N X k]
theorem brg_bound {l : List Need4} (h : ∀ i, i < l.length → 0 ≤ (at4 l i).2.2.1 ∧ (at4 l i).2.2.1 ≤ 333) (v : Int) : ∀ k, k ≤ l.length → -(333 * (k : Int)) ≤ brgK l k v ∧ brgK l k v ≤ 333 * (k : Int)
  | 0, _ => by simp [brgK, sumN]
  | k + 1, hk => by
    have ih := brg_bound h v k (by omega)
    have h1 := h k (by omega)
    have e : (333 : Int) * ((k + 1 : Nat) : Int) = 333 * k + 333 := by omega
    show -(_) ≤ brgK l k v + _ ∧ brgK l k v + _ ≤ _
    rw [e]
    dsimp only
    split <;> split <;> omega
theorem brg_gone (l : List Need4) (v : Int) : brgK l l.length v = - gone (needA l) (fun i => (at4 l i).2.2.1) v := by
  unfold brgK gone goneK
  rw [← sumN_neg, needA_len]
  refine sumN_congr fun i hi => ?_
  rw [needA_at hi]
  dsimp only
  omega

theorem beside_len {N : Nat} {l : List Need4} (hE : needErr N l = 0) : (besideL N l).length ≤ 60 := by
  have := need_ok hE
  have h := extraK_len N (brgN l) N
  unfold besideL
  rw [List.length_append, restA_len]
  omega
theorem beside_err {N : Nat} {l : List Need4} (hE : needErr N l = 0) : netErr ((N : Int) + 2) N ((N : Int) + 1) (besideL N l) = 0 := by
  obtain ⟨h1, h2, h3⟩ := need_ok hE
  refine net_mk ⟨err_mk ⟨by omega, beside_len hE, fun a ha => ?_⟩, by omega, by omega, by omega⟩
  rcases List.mem_append.1 ha with ha | ha
  · obtain ⟨i, hi, rfl⟩ := List.mem_iff_getElem.1 ha
    rw [restA_len] at hi
    rw [← at3_lt _ _ (by rw [restA_len]; exact hi), restA_at hi]
    have := h3 i hi
    dsimp only
    omega
  · obtain ⟨v, hv, h⟩ := extraK_mem ha
    have hb := brg_bound (fun i hi => by have := h3 i hi; omega) (v : Int) l.length (Nat.le_refl _)
    rcases extra1_mem h with ⟨hx, rfl⟩ | ⟨hx, rfl⟩ <;> (unfold brgN at hx ⊢; dsimp only; omega)

theorem bt_sum {p q c : Int} (hp : p = 0 ∨ p = 1) (hq : q = 0 ∨ q = 1) (a : Int) : (c - a) * p * (1 - q) - (q * a - p * a) = p * (1 - q) * c - (1 - p) * q * a := by
  rcases hp with rfl | rfl <;> rcases hq with rfl | rfl <;> simp <;> omega

/-- what a side takes: what the source owes, and what may go out more than what must come in -/
theorem cap_beside {N : Nat} {l : List Need4} (hE : needErr N l = 0) {x : Int} (hs : bt x N = 1) (ht : bt x ((N : Int) + 1) = 0) : capS x (besideL N l) = owedN N l + (mayS l x - mustS l x) := by
  have e0 : capS x (besideL N l) = ((besideL N l).map fun a => a.2.2 * bt x a.1 * (1 - bt x a.2.1)).sum := sumN_arcs (fun a => a.2.2 * bt x a.1 * (1 - bt x a.2.1)) _
  rw [e0]
  unfold besideL
  rw [List.map_append, List.sum_append, extra_sum, ← sumN_arcs (fun a => a.2.2 * bt x a.1 * (1 - bt x a.2.1)), restA_len]
  have e1 : sumN (fun v => ((extra1 N (brgN l v) v).map fun a => a.2.2 * bt x a.1 * (1 - bt x a.2.1)).sum) N = sumN (fun v => (if 0 < brgN l v then brgN l v else 0) - bt x (v : Int) * brgN l v) N := by
    refine sumN_congr fun v hv => ?_
    unfold extra1
    by_cases c1 : 0 < brgN l v
    · rw [if_pos c1, if_pos c1]
      simp only [List.map_cons, List.map_nil, List.sum_cons, List.sum_nil, hs]
      rcases bt_01 x (v : Int) with e | e <;> rw [e] <;> simp
    · rw [if_neg c1, if_neg c1]
      by_cases c2 : brgN l v < 0
      · rw [if_pos c2]
        simp only [List.map_cons, List.map_nil, List.sum_cons, List.sum_nil, ht]
        rcases bt_01 x (v : Int) with e | e <;> rw [e] <;> simp
      · rw [if_neg c2]
        have : brgN l v = 0 := by omega
        simp [this]
  have e2 : sumN (fun v => bt x (v : Int) * brgN l v) N = - sumN (fun i => bt x (at3 (needA l) i).1 * (at4 l i).2.2.1 - bt x (at3 (needA l) i).2.1 * (at4 l i).2.2.1) l.length := by
    have := gone_sum (N := N) (needA_nodes hE) (fun i => (at4 l i).2.2.1) (bt x)
    rw [needA_len] at this
    rw [← this, ← sumN_neg]
    refine sumN_congr fun v hv => ?_
    unfold brgN
    rw [brg_gone, Int.mul_neg]
  rw [e1, sumN_sub, e2]
  have e3 : sumN (fun i => (at3 (restA l) i).2.2 * bt x (at3 (restA l) i).1 * (1 - bt x (at3 (restA l) i).2.1)) l.length + sumN (fun i => bt x (at3 (needA l) i).1 * (at4 l i).2.2.1 - bt x (at3 (needA l) i).2.1 * (at4 l i).2.2.1) l.length = mayS l x - mustS l x := by
    unfold mayS mustS mayK mustK
    rw [← sumN_add, ← sumN_sub]
    refine sumN_congr fun i hi => ?_
    rw [restA_at hi, needA_at hi]
    have := bt_sum (c := (at4 l i).2.2.2) (bt_01 x (at4 l i).1) (bt_01 x (at4 l i).2.1) (at4 l i).2.2.1
    dsimp only
    omega
  show _ = owedK (brgN l) N + _
  unfold owedK
  omega

theorem must_same {l : List Need4} {x y : Int} (h : ∀ i, i < l.length → bt x (at4 l i).1 = bt y (at4 l i).1 ∧ bt x (at4 l i).2.1 = bt y (at4 l i).2.1) : mustS l x = mustS l y ∧ mayS l x = mayS l y := by
  unfold mustS mayS mustK mayK
  exact ⟨sumN_congr fun i hi => by rw [(h i hi).1, (h i hi).2], sumN_congr fun i hi => by rw [(h i hi).1, (h i hi).2]⟩
/-- a side that takes less than is owed: its nodes strain -/
theorem strains_of {N : Nat} {l : List Need4} (hE : needErr N l = 0) {x y : Nat} (hx : SideN N (N + 1) x) (hlt : capS x (besideL N l) < owedN N l) (hy : ∀ v, v < N → Nat.testBit y v = Nat.testBit x v) : Strains l y := by
  obtain ⟨h1, h2⟩ := sideN_bt.1 hx
  rw [Int.natCast_add] at h2
  rw [cap_beside hE h1 h2] at hlt
  have e := must_same (l := l) (x := (y : Int)) (y := (x : Int)) fun i hi => by
    have := (need_ok hE).2.2 i hi
    obtain ⟨a, ha⟩ := Int.eq_ofNat_of_zero_le this.1.1
    obtain ⟨b, hb⟩ := Int.eq_ofNat_of_zero_le this.2.1.1
    rw [ha, hb, bt_nat, bt_nat, bt_nat, bt_nat, hy a (by omega), hy b (by omega)]
    exact ⟨rfl, rfl⟩
  unfold Strains
  rw [e.1, e.2]
  omega

theorem sumN_cut (f : Nat → Int) (a : Nat) : ∀ b, sumN f (a + b) = sumN f a + sumN (fun i => f (a + i)) b
  | 0 => by simp [sumN]
  | b + 1 => by
    show sumN f (a + b) + f (a + b) = _ + (sumN (fun i => f (a + i)) b + f (a + b))
    rw [sumN_cut f a b]; omega
theorem at3_append_ge {l m : List Arc3} (i : Nat) : at3 (l ++ m) (l.length + i) = at3 m i := by
  unfold at3
  simp [List.getD_eq_getElem?_getD, List.getElem?_append_right]
/-- a side of the source with none, and one with all nodes -/
theorem none_may {l : List Need4} {x : Int} (h : (∀ i, i < l.length → bt x (at4 l i).1 = 0 ∧ bt x (at4 l i).2.1 = 0) ∨ (∀ i, i < l.length → bt x (at4 l i).1 = 1 ∧ bt x (at4 l i).2.1 = 1)) : mayS l x - mustS l x = 0 := by
  have : mayS l x = 0 ∧ mustS l x = 0 := by
    unfold mustS mayS mustK mayK
    rcases h with h | h <;> exact ⟨sumN_zero fun i hi => by rw [(h i hi).1, (h i hi).2]; simp, sumN_zero fun i hi => by rw [(h i hi).1, (h i hi).2]; simp⟩
  omega

/-- all that is owed goes: with the Lows it makes a round -/
theorem round_of {N : Nat} {l : List Need4} (hE : needErr N l = 0) {f F : List Int} (hf : FlowIs (N + 2) N ((N : Int) + 1) (besideL N l) f) (hv : gone (besideL N l) (ati f) N = owedN N l) (hlen : F.length = l.length) (hF : ∀ k, k < l.length → ati F k = (at4 l k).2.2.1 + ati f k) : RoundIs N l F := by
  have hN := beside_err hE
  obtain ⟨h1, h2, h3⟩ := need_ok hE
  have hlenb : (besideL N l).length = l.length + (extraK N (brgN l) N).length := by unfold besideL; rw [List.length_append, restA_len]
  have at_lt : ∀ k, k < l.length → at3 (besideL N l) k = ((at4 l k).1, (at4 l k).2.1, (at4 l k).2.2.2 - (at4 l k).2.2.1) := fun k hk => by
    unfold besideL; rw [at3_append_lt (by rw [restA_len]; exact hk), restA_at hk]
  have at_ge : ∀ i, at3 (besideL N l) (l.length + i) = at3 (extraK N (brgN l) N) i := fun i => by
    have := at3_append_ge (l := restA l) (m := extraK N (brgN l) N) i
    rw [restA_len] at this; exact this
  have hN' : netErr ((N + 2 : Nat) : Int) N ((N : Int) + 1) (besideL N l) = 0 := by simpa using hN
  -- the source's arcs are full, and the sink's
  obtain ⟨x1, hx1, b1⟩ := side_of (fun v => decide (v = N)) (N + 2)
  obtain ⟨x2, hx2, b2⟩ := side_of (fun v => decide (v ≤ N)) (N + 2)
  have c1 : ∀ v : Nat, v < N + 2 → bt (x1 : Int) (v : Int) = if v = N then 1 else 0 := fun v hv => by rw [bt_bit, b1 v hv]; simp
  have c2 : ∀ v : Nat, v < N + 2 → bt (x2 : Int) (v : Int) = if v ≤ N then 1 else 0 := fun v hv => by rw [bt_bit, b2 v hv]; simp
  have s1 : bt (x1 : Int) (N : Int) = 1 := by rw [c1 N (by omega), if_pos rfl]
  have s2 : bt (x2 : Int) (N : Int) = 1 := by rw [c2 N (by omega), if_pos (Nat.le_refl _)]
  have t1 : bt (x1 : Int) ((N : Int) + 1) = 0 := by have := c1 (N + 1) (by omega); rw [if_neg (by omega)] at this; simpa using this
  have t2 : bt (x2 : Int) ((N : Int) + 1) = 0 := by have := c2 (N + 1) (by omega); rw [if_neg (by omega)] at this; simpa using this
  have n1 : ∀ v : Int, 0 ≤ v ∧ v < (N : Int) → bt (x1 : Int) v = 0 := fun v hv => by
    obtain ⟨v, rfl⟩ := Int.eq_ofNat_of_zero_le hv.1
    rw [c1 v (by omega), if_neg (by omega)]
  have n2 : ∀ v : Int, 0 ≤ v ∧ v < (N : Int) → bt (x2 : Int) v = 1 := fun v hv => by
    obtain ⟨v, rfl⟩ := Int.eq_ofNat_of_zero_le hv.1
    rw [c2 v (by omega), if_pos (by omega)]
  have k1 := tight hN' hf s1 t1 (by rw [cap_beside hE s1 t1, none_may (Or.inl fun i hi => ⟨n1 _ (h3 i hi).1, n1 _ (h3 i hi).2.1⟩), hv]; omega)
  have k2 := tight hN' hf s2 t2 (by rw [cap_beside hE s2 t2, none_may (Or.inr fun i hi => ⟨n2 _ (h3 i hi).1, n2 _ (h3 i hi).2.1⟩), hv]; omega)
  have full : ∀ i, i < (extraK N (brgN l) N).length → ati f (l.length + i) = (at3 (extraK N (brgN l) N) i).2.2 := fun i hi => by
    have m := at3_mem (extraK N (brgN l) N) i hi
    obtain ⟨v, hvN, hm⟩ := extraK_mem m
    have hi' : l.length + i < (besideL N l).length := by omega
    rcases extra1_mem hm with ⟨hx, e⟩ | ⟨hx, e⟩
    · have := (k1 _ hi').1
      rw [at_ge, e] at this
      rw [e]
      exact this s1 (n1 v (by omega))
    · have := (k2 _ hi').1
      rw [at_ge, e] at this
      rw [e]
      exact this (n2 v (by omega)) t2
  refine ⟨hlen, fun k hk => ?_, fun v hv0 => ?_⟩
  · have := hf.bnd k (by omega)
    rw [at_lt k hk] at this
    rw [hF k hk]
    dsimp only at this
    omega
  · have hb := hf.bal v (by omega) (by omega) (by omega)
    have e1 : gone (besideL N l) (ati f) v = gone (needA l) (ati f) v + sumN (fun i => (if (at3 (extraK N (brgN l) N) i).1 = (v : Int) then (at3 (extraK N (brgN l) N) i).2.2 else 0) - (if (at3 (extraK N (brgN l) N) i).2.1 = (v : Int) then (at3 (extraK N (brgN l) N) i).2.2 else 0)) (extraK N (brgN l) N).length := by
      unfold gone goneK
      rw [hlenb, sumN_cut, needA_len]
      congr 1
      · refine sumN_congr fun i hi => ?_
        rw [at_lt i hi, needA_at hi]
      · refine sumN_congr fun i hi => ?_
        rw [at_ge, full i hi]
    have e2 : sumN (fun i => (if (at3 (extraK N (brgN l) N) i).1 = (v : Int) then (at3 (extraK N (brgN l) N) i).2.2 else 0) - (if (at3 (extraK N (brgN l) N) i).2.1 = (v : Int) then (at3 (extraK N (brgN l) N) i).2.2 else 0)) (extraK N (brgN l) N).length = - brgN l v := by
      rw [sumN_arcs (fun a => (if a.1 = (v : Int) then a.2.2 else 0) - (if a.2.1 = (v : Int) then a.2.2 else 0)), extra_sum, sumN_single (k := v) hv0]
      · unfold extra1
        by_cases d1 : 0 < brgN l v
        · rw [if_pos d1]
          simp only [List.map_cons, List.map_nil, List.sum_cons, List.sum_nil]
          rw [if_neg (show ¬ (N : Int) = (v : Int) by omega), if_true]; omega
        · rw [if_neg d1]
          by_cases d2 : brgN l v < 0
          · rw [if_pos d2]
            simp only [List.map_cons, List.map_nil, List.sum_cons, List.sum_nil]
            rw [if_neg (show ¬ (N : Int) + 1 = (v : Int) by omega), if_true]; omega
          · rw [if_neg d2]
            simp only [List.map_nil, List.sum_nil]; omega
      · intro u hu hne
        unfold extra1
        by_cases d1 : 0 < brgN l u
        · rw [if_pos d1]
          simp only [List.map_cons, List.map_nil, List.sum_cons, List.sum_nil]
          rw [if_neg (show ¬ (N : Int) = (v : Int) by omega), if_neg (show ¬ (u : Int) = (v : Int) by omega)]; omega
        · rw [if_neg d1]
          by_cases d2 : brgN l u < 0
          · rw [if_pos d2]
            simp only [List.map_cons, List.map_nil, List.sum_cons, List.sum_nil]
            rw [if_neg (show ¬ (N : Int) + 1 = (v : Int) by omega), if_neg (show ¬ (u : Int) = (v : Int) by omega)]; omega
          · rw [if_neg d2]
            simp only [List.map_nil, List.sum_nil]
    have e3 : gone (needA l) (ati F) v = gone (needA l) (fun i => (at4 l i).2.2.1 + ati f i) v := gone_congr (fun i hi => hF i (by rw [needA_len] at hi; exact hi)) v
    have e4 := brg_gone l (v : Int)
    have e5 : brgN l v = brgK l l.length (v : Int) := rfl
    rw [e3, gone_add]
    rw [e1, e2, e5, e4] at hb
    omega

end Go.Proofs.Ytmneajmfoljflaa
