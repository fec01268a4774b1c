/- Plain facts: what more can come to, from the source, is the least side of as little as can be. -/
import Derived.Test.YtmneajmfoljflaaCutB
import Derived.Test.YtmneajmfoljflaaMostF
namespace Go.Proofs.Ytmneajmfoljflaa
set_option linter.unusedVariables false

theorem sums_tight {f g : Nat → Int} : ∀ {n : Nat}, (∀ i, i < n → f i ≤ g i) → sumN f n = sumN g n → ∀ i, i < n → f i = g i
  | 0, _, _, i, hi => absurd hi (Nat.not_lt_zero _)
  | n + 1, h, e, i, hi => by
    have e' : sumN f n + f n = sumN g n + g n := e
    have h1 := sumN_mono (f := f) (g := g) (n := n) fun i hi => h i (by omega)
    have h2 := h n (by omega)
    by_cases c : i = n
    · subst c; omega
    · exact sums_tight (n := n) (fun i hi => h i (by omega)) (by omega) i (by omega)
/-- along each arc that leads from a least side as much goes as it takes, along each that leads to it nothing -/
theorem tight {N : Nat} {s t : Int} {l : List Arc3} {f : List Int} {x : Int} (hE : netErr N s t l = 0) (hf : FlowIs N s t l f) (h1 : bt x s = 1) (h2 : bt x t = 0) (h : gone l (ati f) s = capS x l) : ∀ k, k < l.length →
    (bt x (at3 l k).1 = 1 → bt x (at3 l k).2.1 = 0 → ati f k = (at3 l k).2.2) ∧ (bt x (at3 l k).1 = 0 → bt x (at3 l k).2.1 = 1 → ati f k = 0) := by
  have e := hf.side hE (bt x)
  rw [h1, h2] at e
  have key := sums_tight (f := fun i => bt x (at3 l i).1 * ati f i - bt x (at3 l i).2.1 * ati f i) (g := fun i => (at3 l i).2.2 * bt x (at3 l i).1 * (1 - bt x (at3 l i).2.1)) (n := l.length)
    (fun i hi => bit_flow (bt_01 _ _) (bt_01 _ _) (hf.bnd i hi)) (by rw [e]; show 1 * gone l (ati f) s + 0 * _ = capS x l; rw [← h]; omega)
  intro k hk
  have := key k hk
  refine ⟨fun a b => ?_, fun a b => ?_⟩
  · rw [a, b] at this; simpa using this
  · rw [a, b] at this; simp at this; omega

/-- a side that has the source and no node more than each side of as little as can be -/
structure Win (N s t : Nat) (l : List Arc3) (best : Int) (x : Nat) : Prop where
  lt : x < 2 ^ N
  src : hasN x s = true
  sub : ∀ y, MinN N s t l best y → ∀ v, hasN x v = true → hasN y v = true
theorem Win.start {N s t : Nat} {l : List Arc3} {best : Int} (hs : s < N) {m : Nat} (hm : 2 ^ s = m) : Win N s t l best m := by
  subst hm
  refine ⟨Nat.pow_lt_pow_right (by omega) hs, by unfold hasN; simp, fun y hy v hv => ?_⟩
  unfold hasN at hv
  rw [Nat.testBit_two_pow] at hv
  have : s = v := by simpa using hv
  rw [← this]; exact hy.side.1
theorem Win.add {N s t : Nat} {l : List Arc3} {best : Int} {x v m : Nat} (h : Win N s t l best x) (hv : v < N) (hm : 2 ^ v = m) (hy : ∀ y, MinN N s t l best y → hasN y v = true) : Win N s t l best (x ||| m) := by
  refine ⟨Nat.or_lt_two_pow h.lt (by rw [← hm]; exact Nat.pow_lt_pow_right (by omega) hv), by rw [hasN_or _ _ _ _ hm, h.src]; rfl, fun y hy' u hu => ?_⟩
  rw [hasN_or _ _ _ _ hm, Bool.or_eq_true] at hu
  rcases hu with hu | hu
  · exact h.sub y hy' u hu
  · have : v = u := by simpa using hu
    rw [← this]; exact hy y hy'

/-- a node more, along an arc that isn't full; back along one that something goes along -/
theorem Win.on {N s t : Nat} {l : List Arc3} {f : List Int} {best : Int} {x k p q m : Nat} (hE : netErr N s t l = 0) (hf : FlowIs N s t l f) (hb : gone l (ati f) s = best) (h : Win N s t l best x) (hk : k < l.length)
    (hp : (at3 l k).1 = (p : Int)) (hq : (at3 l k).2.1 = (q : Int)) (hqN : q < N) (hm : 2 ^ q = m) (h1 : hasN x p = true) (h2 : ati f k < (at3 l k).2.2) : Win N s t l best (x ||| m) :=
  h.add hqN hm fun y hy => by
    have hs := sideN_bt.1 hy.side
    have ht := (tight hE hf hs.1 hs.2 (by rw [hb, hy.val]) k hk).1
    rw [hp, hq, hasN_bt, hasN_bt, h.sub y hy p h1] at ht
    cases e : hasN y q
    · rw [e] at ht
      have := ht rfl rfl
      omega
    · rfl
theorem Win.back {N s t : Nat} {l : List Arc3} {f : List Int} {best : Int} {x k p q m : Nat} (hE : netErr N s t l = 0) (hf : FlowIs N s t l f) (hb : gone l (ati f) s = best) (h : Win N s t l best x) (hk : k < l.length)
    (hp : (at3 l k).1 = (p : Int)) (hq : (at3 l k).2.1 = (q : Int)) (hpN : p < N) (hm : 2 ^ p = m) (h1 : hasN x q = true) (h2 : 0 < ati f k) : Win N s t l best (x ||| m) :=
  h.add hpN hm fun y hy => by
    have hs := sideN_bt.1 hy.side
    have ht := (tight hE hf hs.1 hs.2 (by rw [hb, hy.val]) k hk).2
    rw [hp, hq, hasN_bt, hasN_bt, h.sub y hy q h1] at ht
    cases e : hasN y p
    · rw [e] at ht
      have := ht rfl rfl
      omega
    · rfl

/-- along arc k no node more can be come to -/
def ShutAt (l : List Arc3) (f : List Int) (x k : Nat) : Prop :=
  ∀ p q : Nat, (at3 l k).1 = (p : Int) → (at3 l k).2.1 = (q : Int) → (hasN x p = true → ati f k < (at3 l k).2.2 → hasN x q = true) ∧ (hasN x q = true → 0 < ati f k → hasN x p = true)
/-- one pass over the arcs: x at first, y now, k arcs behind -/
structure PassIs (N s t : Nat) (l : List Arc3) (f : List Int) (best : Int) (x k y : Nat) : Prop where
  win : Win N s t l best y
  le : x ≤ y
  keep : y = x → ∀ i, i < k → ShutAt l f x i
/-- in the middle of an arc -/
structure MidIs (N s t : Nat) (l : List Arc3) (f : List Int) (best : Int) (x k y p q : Nat) : Prop where
  win : Win N s t l best y
  le : x ≤ y
  keep : y = x → (∀ i, i < k → ShutAt l f x i) ∧ (hasN x p = true → ati f k < (at3 l k).2.2 → hasN x q = true)

theorem PassIs.start {N s t : Nat} {l : List Arc3} {f : List Int} {best : Int} {x : Nat} (h : Win N s t l best x) : PassIs N s t l f best x 0 x := ⟨h, Nat.le_refl _, fun _ i hi => absurd hi (Nat.not_lt_zero _)⟩
theorem PassIs.not {N s t : Nat} {l : List Arc3} {f : List Int} {best : Int} {x k y p q : Nat} (h : PassIs N s t l f best x k y) (hn : hasN y p = true → ¬ ati f k < (at3 l k).2.2) : MidIs N s t l f best x k y p q :=
  ⟨h.win, h.le, fun e => ⟨h.keep e, fun a b => absurd b (hn (by rw [e]; exact a))⟩⟩
theorem PassIs.on {N s t : Nat} {l : List Arc3} {f : List Int} {best : Int} {x k y p q m : Nat} (hE : netErr N s t l = 0) (hf : FlowIs N s t l f) (hb : gone l (ati f) s = best) (h : PassIs N s t l f best x k y) (hk : k < l.length)
    (hp : (at3 l k).1 = (p : Int)) (hq : (at3 l k).2.1 = (q : Int)) (hqN : q < N) (hm : 2 ^ q = m) (h1 : hasN y p = true) (h2 : ati f k < (at3 l k).2.2) : MidIs N s t l f best x k (y ||| m) p q := by
  have hle : y ≤ y ||| m := Nat.left_le_or
  refine ⟨h.win.on hE hf hb hk hp hq hqN hm h1 h2, by have := h.le; omega, fun e => ?_⟩
  have hyx : y = x := by have := h.le; omega
  refine ⟨h.keep hyx, fun _ _ => ?_⟩
  rw [← e, hasN_or _ _ _ _ hm]
  simp
theorem MidIs.not {N s t : Nat} {l : List Arc3} {f : List Int} {best : Int} {x k y p q : Nat} (h : MidIs N s t l f best x k y p q) (hp : (at3 l k).1 = (p : Int)) (hq : (at3 l k).2.1 = (q : Int)) (hn : hasN y q = true → ¬ 0 < ati f k) : PassIs N s t l f best x (k + 1) y := by
  refine ⟨h.win, h.le, fun e i hi => ?_⟩
  by_cases c : i = k
  · subst c
    intro p' q' hp' hq'
    have e1 : p' = p := by omega
    have e2 : q' = q := by omega
    subst e1
    subst e2
    exact ⟨(h.keep e).2, fun a b => absurd b (hn (by rw [e]; exact a))⟩
  · exact (h.keep e).1 i (by omega)
theorem MidIs.back {N s t : Nat} {l : List Arc3} {f : List Int} {best : Int} {x k y p q m : Nat} (hE : netErr N s t l = 0) (hf : FlowIs N s t l f) (hb : gone l (ati f) s = best) (h : MidIs N s t l f best x k y p q) (hk : k < l.length)
    (hp : (at3 l k).1 = (p : Int)) (hq : (at3 l k).2.1 = (q : Int)) (hpN : p < N) (hm : 2 ^ p = m) (h1 : hasN y q = true) (h2 : 0 < ati f k) : PassIs N s t l f best x (k + 1) (y ||| m) := by
  have hle : y ≤ y ||| m := Nat.left_le_or
  refine ⟨h.win.back hE hf hb hk hp hq hpN hm h1 h2, by have := h.le; omega, fun e i hi => ?_⟩
  have hyx : y = x := by have := h.le; omega
  by_cases c : i = k
  · subst c
    intro p' q' hp' hq'
    have e1 : p' = p := by omega
    have e2 : q' = q := by omega
    subst e1
    subst e2
    refine ⟨(h.keep hyx).2, fun _ _ => ?_⟩
    rw [← e, hasN_or _ _ _ _ hm]
    simp
  · exact (h.keep hyx).1 i (by omega)

/-- what nothing more can come out of -/
theorem Win.part {N s t : Nat} {l : List Arc3} {f : List Int} {best : Int} {x : Nat} (hE : netErr N s t l = 0) (hf : FlowIs N s t l f) (hb : gone l (ati f) s = best) (hM : MaxIs N s t l best) (h : Win N s t l best x) (hs : ∀ i, i < l.length → ShutAt l f x i) : ∃ hi, PartIs N s t l best x hi := by
  have hmin : ∃ y, MinN N s t l best y := by
    obtain ⟨side, hS, e⟩ := hM.side
    obtain ⟨y, rfl, hy, hsy⟩ := hS.nat
    exact ⟨y, hy, hsy, e⟩
  have hside : SideN s t x := by
    refine ⟨h.src, ?_⟩
    obtain ⟨y, hy⟩ := hmin
    cases e : Nat.testBit x t
    · rfl
    · have h1 : hasN y t = true := h.sub y hy t e
      have h2 : hasN y t = false := hy.side.2
      rw [h1] at h2; cases h2
  have hval : capS x l = best := by
    have e := hf.side hE (bt x)
    obtain ⟨s1, s2⟩ := sideN_bt.1 hside
    rw [s1, s2] at e
    have e2 : sumN (fun i => bt x (at3 l i).1 * ati f i - bt x (at3 l i).2.1 * ati f i) l.length = capS x l := by
      refine sumN_congr fun i hi => ?_
      obtain ⟨⟨p1, p2⟩, ⟨p3, p4⟩⟩ := net_nodes hE _ (at3_mem l i hi)
      obtain ⟨p, hp⟩ := Int.eq_ofNat_of_zero_le p1
      obtain ⟨q, hq⟩ := Int.eq_ofNat_of_zero_le p3
      obtain ⟨c1, c2⟩ := hs i hi p q hp hq
      have hbd := hf.bnd i hi
      rw [hp, hq, hasN_bt, hasN_bt]
      cases e1 : hasN x p <;> cases e3 : hasN x q
      · simp
      · rw [e1, e3] at c2
        have : ¬ 0 < ati f i := fun c => by cases c2 rfl c
        have : ati f i = 0 := by omega
        simp [this]
      · rw [e1, e3] at c1
        have : ¬ ati f i < (at3 l i).2.2 := fun c => by cases c1 rfl c
        have : ati f i = (at3 l i).2.2 := by omega
        simp [this]
      · simp
    rw [e2] at e
    omega
  have hx : MinN N s t l best x := ⟨h.lt, hside, hval⟩
  obtain ⟨hi, hhi, hb2⟩ := side_of (fun v => @decide (∃ y, MinN N s t l best y ∧ Nat.testBit y v = true) (Classical.propDecidable _)) N
  refine ⟨hi, ⟨x, h.lt, hside, hval⟩, fun y hy hS => hM.ge hE (sideN_bt.1 hS).1 (sideN_bt.1 hS).2, fun v => ⟨fun a y hy h1 h2 => h.sub y ⟨hy, h1, h2⟩ v a, fun a => a x h.lt hside hval⟩, fun v => ?_⟩
  by_cases hv : v < N
  · have e := hb2 v hv
    rw [e]
    refine (@decide_eq_true_iff _ (Classical.propDecidable _)).trans ?_
    constructor
    · rintro ⟨y, hy, a⟩
      exact ⟨y, hy.lt, hy.side, hy.val, a⟩
    · rintro ⟨y, h1, h2, h3, a⟩
      exact ⟨y, ⟨h1, h2, h3⟩, a⟩
  · have hbig : ∀ y, y < 2 ^ N → Nat.testBit y v = false := fun y hy => Nat.testBit_lt_two_pow (Nat.lt_of_lt_of_le hy (Nat.pow_le_pow_right (by omega) (by omega)))
    rw [hbig hi hhi]
    exact ⟨fun a => (by cases a), fun ⟨y, h1, h2, h3, a⟩ => by rw [hbig y h1] at a; cases a⟩

end Go.Proofs.Ytmneajmfoljflaa
