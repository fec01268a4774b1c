/- Plain facts on sides that part, and on as much as can go. -/
import Derived.Test.YtmneajmfoljflaaFlM
import Derived.Test.YtmneajmfoljflaaBit16
namespace Go.Proofs.Ytmneajmfoljflaa
set_option linter.unusedVariables false

/-- what leads out of a side, along the first k arcs -/
def capK (side : Int) (l : List Arc3) (k : Nat) : Int := sumN (fun i => (at3 l i).2.2 * bt side (at3 l i).1 * (1 - bt side (at3 l i).2.1)) k
def capS (side : Int) (l : List Arc3) : Int := capK side l l.length
theorem capK_succ (side : Int) (l : List Arc3) (k : Nat) : capK side l (k + 1) = capK side l k + (at3 l k).2.2 * bt side (at3 l k).1 * (1 - bt side (at3 l k).2.1) := rfl

theorem bit_cap {x y c : Int} (hx : x = 0 ∨ x = 1) (hy : y = 0 ∨ y = 1) (hc : 0 ≤ c) : 0 ≤ c * x * (1 - y) ∧ c * x * (1 - y) ≤ c := by
  rcases hx with rfl | rfl <;> rcases hy with rfl | rfl <;> simp <;> omega
theorem bit_flow {x y c f : Int} (hx : x = 0 ∨ x = 1) (hy : y = 0 ∨ y = 1) (h : 0 ≤ f ∧ f ≤ c) : x * f - y * f ≤ c * x * (1 - y) := by
  rcases hx with rfl | rfl <;> rcases hy with rfl | rfl <;> simp <;> omega
theorem capK_bound {side : Int} {l : List Arc3} : ∀ k, (∀ i, i < k → 0 ≤ (at3 l i).2.2 ∧ (at3 l i).2.2 ≤ 10000) → 0 ≤ capK side l k ∧ capK side l k ≤ 10000 * (k : Int)
  | 0, _ => by simp [capK, sumN]
  | k + 1, h => by
    have ih := capK_bound (side := side) (l := l) k fun i hi => h i (by omega)
    have h1 := h k (by omega)
    have := bit_cap (bt_01 side (at3 l k).1) (bt_01 side (at3 l k).2.1) h1.1
    rw [capK_succ]
    omega

theorem sumN_mono {f g : Nat → Int} : ∀ {n : Nat}, (∀ i, i < n → f i ≤ g i) → sumN f n ≤ sumN g n
  | 0, _ => Int.le_refl _
  | n + 1, h => by
    have ih := sumN_mono (f := f) (g := g) (n := n) fun i hi => h i (by omega)
    have := h n (by omega)
    show sumN f n + f n ≤ sumN g n + g n
    omega

/-- a side of the source -/
structure SideIs (N : Nat) (s t side : Int) : Prop where
  low : 0 ≤ side
  high : side < 2 ^ N
  src : bt side s = 1
  snk : bt side t = 0

/-- no more goes than any side takes -/
theorem weak {N : Nat} {s t : Int} {l : List Arc3} {f : List Int} (hE : netErr N s t l = 0) (h : FlowIs N s t l f) {side : Int} (h1 : bt side s = 1) (h2 : bt side t = 0) : gone l (ati f) s ≤ capS side l := by
  have e := h.side hE (bt side)
  rw [h1, h2] at e
  have : sumN (fun i => bt side (at3 l i).1 * ati f i - bt side (at3 l i).2.1 * ati f i) l.length ≤ capS side l :=
    sumN_mono fun i hi => bit_flow (bt_01 _ _) (bt_01 _ _) (h.bnd i hi)
  omega

/-- as much as can go -/
structure MaxIs (N : Nat) (s t : Int) (l : List Arc3) (v : Int) : Prop where
  flow : ∃ f, FlowIs N s t l f ∧ gone l (ati f) s = v
  side : ∃ side, SideIs N s t side ∧ capS side l = v
theorem MaxIs.le {N : Nat} {s t : Int} {l : List Arc3} {v : Int} (hE : netErr N s t l = 0) (h : MaxIs N s t l v) {f : List Int} (hf : FlowIs N s t l f) : gone l (ati f) s ≤ v := by
  obtain ⟨side, hs, e⟩ := h.side
  rw [← e]
  exact weak hE hf hs.src hs.snk
theorem MaxIs.ge {N : Nat} {s t : Int} {l : List Arc3} {v : Int} (hE : netErr N s t l = 0) (h : MaxIs N s t l v) {side : Int} (h1 : bt side s = 1) (h2 : bt side t = 0) : v ≤ capS side l := by
  obtain ⟨f, hf, e⟩ := h.flow
  rw [← e]
  exact weak hE hf h1 h2
theorem MaxIs.unique {N : Nat} {s t : Int} {l : List Arc3} {u v : Int} (hE : netErr N s t l = 0) (h : MaxIs N s t l u) (h' : MaxIs N s t l v) : u = v := by
  obtain ⟨f, hf, e⟩ := h.flow
  obtain ⟨g, hg, e'⟩ := h'.flow
  have a1 := h'.le hE hf
  have a2 := h.le hE hg
  omega
theorem MaxIs.nonneg {N : Nat} {s t : Int} {l : List Arc3} {v : Int} (hE : netErr N s t l = 0) (h : MaxIs N s t l v) : 0 ≤ v := by
  obtain ⟨side, hs, e⟩ := h.side
  rw [← e]
  exact (capK_bound (side := side) (l := l) l.length fun i hi => (err_ok (net_ok hE).1).2.2 _ (at3_mem l i hi) |>.2.2).1

/-! ### Turned -/

theorem bt_other {N : Nat} {side : Int} (h0 : 0 ≤ side) (h1 : side < 2 ^ N) {v : Int} (hv : 0 ≤ v ∧ v < (N : Int)) : bt (2 ^ N - 1 - side) v = 1 - bt side v := by
  obtain ⟨v, rfl⟩ := Int.eq_ofNat_of_zero_le hv.1
  obtain ⟨x, rfl⟩ := Int.eq_ofNat_of_zero_le h0
  have hvN : v < N := by omega
  have hx : x < 2 ^ N := by exact_mod_cast h1
  have e1 : ((2 : Int) ^ N - 1 - x) = ((2 ^ N - 1 - x : Nat) : Int) := by
    have : (1 : Nat) ≤ 2 ^ N := Nat.one_le_two_pow
    rw [Int.natCast_sub (by omega), Int.natCast_sub this]
    simp
  have t1 : ∀ y : Nat, bt (y : Int) (v : Int) = if Nat.testBit y v then 1 else 0 := fun y => by
    unfold bt
    rw [Int.toNat_natCast]
    have e2 : ((y : Int) / 2 ^ v % 2) = ((y / 2 ^ v % 2 : Nat) : Int) := by simp
    rw [e2, Nat.testBit_eq_decide_div_mod_eq]
    have : y / 2 ^ v % 2 < 2 := Nat.mod_lt _ (by omega)
    by_cases c : y / 2 ^ v % 2 = 1
    · rw [if_pos (by simpa using c), c]; rfl
    · rw [if_neg (by simpa using c), show y / 2 ^ v % 2 = 0 by omega]; rfl
  rw [e1, t1, t1, show 2 ^ N - 1 - x = 2 ^ N - (x + 1) by omega, Nat.testBit_two_pow_sub_succ hx]
  cases Nat.testBit x v <;> simp [hvN]

theorem SideIs.turn {N : Nat} {s t side : Int} (h : SideIs N s t side) (hs : 0 ≤ s ∧ s < (N : Int)) (ht : 0 ≤ t ∧ t < (N : Int)) : SideIs N t s (2 ^ N - 1 - side) := by
  have h1 := h.low
  have h2 := h.high
  exact ⟨by omega, by omega, by rw [bt_other h1 h2 ht, h.snk]; rfl, by rw [bt_other h1 h2 hs, h.src]; rfl⟩
theorem capS_turn {N : Nat} {l : List Arc3} (hl : ∀ a ∈ l, (0 ≤ a.1 ∧ a.1 < (N : Int)) ∧ (0 ≤ a.2.1 ∧ a.2.1 < (N : Int))) {side : Int} (h0 : 0 ≤ side) (h1 : side < 2 ^ N) : capS (2 ^ N - 1 - side) (l.map turnA) = capS side l := by
  unfold capS capK
  rw [List.length_map]
  refine sumN_congr fun i hi => ?_
  have hm := hl _ (at3_mem l i hi)
  rw [at3_turn]
  simp only [turnA]
  rw [bt_other h0 h1 hm.1, bt_other h0 h1 hm.2]
  rcases bt_01 side (at3 l i).1 with e | e <;> rcases bt_01 side (at3 l i).2.1 with e' | e' <;> rw [e, e'] <;> simp
theorem MaxIs.turn {N : Nat} {s t : Int} {l : List Arc3} {v : Int} (hE : netErr N s t l = 0) (h : MaxIs N s t l v) : MaxIs N t s (l.map turnA) v := by
  obtain ⟨f, hf, e⟩ := h.flow
  obtain ⟨side, hs, e'⟩ := h.side
  obtain ⟨_, hs1, ht1, _⟩ := net_ok hE
  refine ⟨⟨f, hf.turn, ?_⟩, ⟨_, hs.turn hs1 ht1, by rw [capS_turn (net_nodes hE) hs.low hs.high]; exact e'⟩⟩
  rw [gone_turn]
  have := hf.ends hE
  omega

/-! ### An arc that takes more -/

theorem capS_le {side : Int} {l m : List Arc3} (hlen : m.length = l.length) (d : Nat → Int) (h : ∀ i, i < l.length → (at3 m i).1 = (at3 l i).1 ∧ (at3 m i).2.1 = (at3 l i).2.1 ∧ (at3 m i).2.2 ≤ (at3 l i).2.2 + d i ∧ 0 ≤ d i) : capS side m ≤ capS side l + sumN d l.length := by
  unfold capS capK
  rw [hlen, ← sumN_add]
  refine sumN_mono fun i hi => ?_
  obtain ⟨h1, h2, h3, h4⟩ := h i hi
  rw [h1, h2]
  rcases bt_01 side (at3 l i).1 with e | e <;> rcases bt_01 side (at3 l i).2.1 with e' | e' <;> rw [e, e'] <;> simp <;> omega
/-- a flow of a net is one of a net whose arcs take no less -/
theorem FlowIs.wider {N : Nat} {s t : Int} {l m : List Arc3} {f : List Int} (h : FlowIs N s t l f) (hlen : m.length = l.length) (hm : ∀ i, i < l.length → (at3 m i).1 = (at3 l i).1 ∧ (at3 m i).2.1 = (at3 l i).2.1 ∧ (at3 l i).2.2 ≤ (at3 m i).2.2) : FlowIs N s t m f := by
  refine ⟨by rw [hlen]; exact h.len, fun k hk => ?_, fun v hv h1 h2 => ?_⟩
  · rw [hlen] at hk
    have := h.bnd k hk
    have := (hm k hk).2.2
    omega
  · have e : gone m (ati f) v = gone l (ati f) v := by
      unfold gone goneK
      rw [hlen]
      exact sumN_congr fun i hi => by rw [(hm i hi).1, (hm i hi).2.1]
    rw [e]; exact h.bal v hv h1 h2
theorem gone_same {l m : List Arc3} {f : Nat → Int} {v : Int} (hlen : m.length = l.length) (hm : ∀ i, i < l.length → (at3 m i).1 = (at3 l i).1 ∧ (at3 m i).2.1 = (at3 l i).2.1) : gone m f v = gone l f v := by
  unfold gone goneK
  rw [hlen]
  exact sumN_congr fun i hi => by rw [(hm i hi).1, (hm i hi).2]
/-- where one arc takes by more no less goes, and more by no more than that -/
theorem MaxIs.grows {N : Nat} {s t : Int} {l m : List Arc3} {u v by' : Int} {k : Nat} (hk : k < l.length) (hb : 0 ≤ by') (hE : netErr N s t l = 0) (hE' : netErr N s t m = 0) (hlen : m.length = l.length)
    (hm : ∀ i, i < l.length → (at3 m i).1 = (at3 l i).1 ∧ (at3 m i).2.1 = (at3 l i).2.1 ∧ (at3 m i).2.2 = (at3 l i).2.2 + (if i = k then by' else 0)) (h : MaxIs N s t l u) (h' : MaxIs N s t m v) : u ≤ v ∧ v ≤ u + by' := by
  constructor
  · obtain ⟨f, hf, e⟩ := h.flow
    have hw := hf.wider hlen fun i hi => ⟨(hm i hi).1, (hm i hi).2.1, by have := (hm i hi).2.2; split at this <;> omega⟩
    have := h'.le hE' hw
    rw [gone_same hlen fun i hi => ⟨(hm i hi).1, (hm i hi).2.1⟩] at this
    omega
  · obtain ⟨side, hs, e⟩ := h.side
    have h1 := h'.ge hE' hs.src hs.snk
    have h2 := capS_le (side := side) hlen (fun i => if i = k then by' else 0) fun i hi => ⟨(hm i hi).1, (hm i hi).2.1, by have := (hm i hi).2.2; omega, by split <;> omega⟩
    rw [sumN_single (k := k) hk (fun v _ hne => if_neg hne), if_pos rfl] at h2
    omega

/-! ### So many times; an arc more from the source to the sink -/

theorem MaxIs.times {N : Nat} {s t : Int} {l m : List Arc3} {v b : Int} (hb : 0 ≤ b) (hE : netErr N s t l = 0) (hlen : m.length = l.length)
    (hm : ∀ i, i < l.length → (at3 m i).1 = (at3 l i).1 ∧ (at3 m i).2.1 = (at3 l i).2.1 ∧ (at3 m i).2.2 = b * (at3 l i).2.2) (h : MaxIs N s t l v) : MaxIs N s t m (b * v) := by
  obtain ⟨f, hf, e⟩ := h.flow
  obtain ⟨side, hs, e'⟩ := h.side
  have hat : ∀ i, i < l.length → ati (f.map (b * ·)) i = b * ati f i := fun i hi => by
    have : i < f.length := by rw [hf.len]; exact hi
    simp [ati, this]
  have hg : ∀ u, gone m (ati (f.map (b * ·))) u = b * gone l (ati f) u := fun u => by
    rw [gone_same hlen fun i hi => ⟨(hm i hi).1, (hm i hi).2.1⟩, gone_congr hat]
    unfold gone goneK
    rw [← sumN_mul]
    refine sumN_congr fun i _ => ?_
    rw [Int.mul_sub]
    congr 1 <;> split <;> simp
  refine ⟨⟨f.map (b * ·), ⟨by rw [List.length_map, hlen]; exact hf.len, fun k hk => ?_, fun u hu h1 h2 => ?_⟩, by rw [hg, e]⟩, ⟨side, hs, ?_⟩⟩
  · rw [hlen] at hk
    rw [hat k hk, (hm k hk).2.2]
    have := hf.bnd k hk
    exact ⟨Int.mul_nonneg hb this.1, Int.mul_le_mul_of_nonneg_left this.2 hb⟩
  · rw [hg, hf.bal u hu h1 h2]; simp
  · rw [← e']
    unfold capS capK
    rw [hlen, ← sumN_mul]
    refine sumN_congr fun i hi => ?_
    rw [(hm i hi).1, (hm i hi).2.1, (hm i hi).2.2, Int.mul_assoc, Int.mul_assoc, Int.mul_assoc]

theorem at3_append_lt {l m : List Arc3} {i : Nat} (h : i < l.length) : at3 (l ++ m) i = at3 l i := by
  rw [at3_lt _ _ (by rw [List.length_append]; omega), at3_lt _ _ h, List.getElem_append_left h]
theorem at3_append_end {l : List Arc3} {a : Arc3} : at3 (l ++ [a]) l.length = a := by
  rw [at3_lt _ _ (by simp), List.getElem_append_right (Nat.le_refl _)]; simp
theorem ati_append_lt {f g : List Int} {i : Nat} (h : i < f.length) : ati (f ++ g) i = ati f i := by
  rw [ati_lt _ _ (by rw [List.length_append]; omega), ati_lt _ _ h, List.getElem_append_left h]
theorem ati_append_end {f : List Int} {a : Int} : ati (f ++ [a]) f.length = a := by
  rw [ati_lt _ _ (by simp), List.getElem_append_right (Nat.le_refl _)]; simp

theorem gone_snoc {l : List Arc3} {a : Arc3} {f : List Int} {x : Int} (hf : f.length = l.length) (v : Int) : gone (l ++ [a]) (ati (f ++ [x])) v = gone l (ati f) v + ((if a.1 = v then x else 0) - (if a.2.1 = v then x else 0)) := by
  unfold gone
  rw [List.length_append, show l.length + [a].length = l.length + 1 from rfl, goneK_succ, at3_append_end]
  have e : ati (f ++ [x]) l.length = x := by rw [← hf]; exact ati_append_end
  rw [e]
  congr 1
  unfold goneK
  exact sumN_congr fun i hi => by rw [at3_append_lt hi, ati_append_lt (by omega)]

theorem MaxIs.more {N : Nat} {s t : Int} {l : List Arc3} {v c : Int} (hc : 0 ≤ c) (hE : netErr N s t l = 0) (h : MaxIs N s t l v) : MaxIs N s t (l ++ [(s, t, c)]) (v + c) := by
  obtain ⟨f, hf, e⟩ := h.flow
  obtain ⟨side, hs, e'⟩ := h.side
  have hst := (net_ok hE).2.2.2
  refine ⟨⟨f ++ [c], ⟨by rw [List.length_append, List.length_append, hf.len]; rfl, fun k hk => ?_, fun u hu h1 h2 => ?_⟩, ?_⟩, ⟨side, hs, ?_⟩⟩
  · by_cases e1 : k < l.length
    · rw [at3_append_lt e1, ati_append_lt (by rw [hf.len]; exact e1)]; exact hf.bnd k e1
    · have e2 : k = l.length := by rw [List.length_append] at hk; simp at hk; omega
      subst e2
      have e3 : ati (f ++ [c]) l.length = c := by rw [← hf.len]; exact ati_append_end
      rw [at3_append_end, e3]; exact ⟨hc, Int.le_refl _⟩
  · rw [gone_snoc hf.len, hf.bal u hu h1 h2, if_neg (fun e => h1 e.symm), if_neg (fun e => h2 e.symm)]; rfl
  · rw [gone_snoc hf.len, e, if_pos rfl, if_neg (fun e => hst e.symm)]; omega
  · unfold capS
    rw [List.length_append, show l.length + [(s, t, c)].length = l.length + 1 from rfl, capK_succ, at3_append_end]
    simp only [hs.src, hs.snk]
    have e4 : capK side (l ++ [(s, t, c)]) l.length = capK side l l.length := by
      unfold capK
      exact sumN_congr fun i hi => by rw [at3_append_lt hi]
    rw [e4, ← e']
    simp [capS]

end Go.Proofs.Ytmneajmfoljflaa
