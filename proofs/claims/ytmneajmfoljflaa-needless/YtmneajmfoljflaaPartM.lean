/- Plain facts on all sides of the source, one by one. -/
import Derived.Test.YtmneajmfoljflaaCutM
namespace Go.Proofs.Ytmneajmfoljflaa
set_option linter.unusedVariables false

theorem bt_nat (x v : Nat) : bt (x : Int) (v : Int) = if Nat.testBit x v then 1 else 0 := by
  unfold bt
  rw [Int.toNat_natCast]
  have e2 : ((x : Int) / 2 ^ v % 2) = ((x / 2 ^ v % 2 : Nat) : Int) := by simp
  rw [e2, Nat.testBit_eq_decide_div_mod_eq]
  have : x / 2 ^ v % 2 < 2 := Nat.mod_lt _ (by omega)
  by_cases c : x / 2 ^ v % 2 = 1
  · rw [if_pos (by simpa using c), c]; rfl
  · rw [if_neg (by simpa using c), show x / 2 ^ v % 2 = 0 by omega]; rfl

/-- a side, as a number -/
def SideN (s t x : Nat) : Prop := Nat.testBit x s = true ∧ Nat.testBit x t = false
theorem sideN_bt {s t x : Nat} : SideN s t x ↔ bt (x : Int) (s : Int) = 1 ∧ bt (x : Int) (t : Int) = 0 := by
  rw [bt_nat, bt_nat]
  unfold SideN
  cases Nat.testBit x s <;> cases Nat.testBit x t <;> simp
theorem SideN.is {N s t x : Nat} (h : SideN s t x) (hx : x < 2 ^ N) : SideIs N s t (x : Int) :=
  ⟨by omega, by exact_mod_cast hx, (sideN_bt.1 h).1, (sideN_bt.1 h).2⟩
theorem SideIs.nat {N s t : Nat} {side : Int} (h : SideIs N s t side) : ∃ x : Nat, side = (x : Int) ∧ x < 2 ^ N ∧ SideN s t x := by
  obtain ⟨x, rfl⟩ := Int.eq_ofNat_of_zero_le h.low
  exact ⟨x, rfl, by exact_mod_cast h.high, sideN_bt.2 ⟨h.src, h.snk⟩⟩

/-- of the sides below k: the least number, what all of that number have in common, and what they have together -/
structure LeastOf (s t : Nat) (l : List Arc3) (k : Nat) (best : Int) (lo hi : Nat) : Prop where
  some : ∃ x, x < k ∧ SideN s t x ∧ capS x l = best
  least : ∀ x, x < k → SideN s t x → best ≤ capS x l
  low : ∀ v, Nat.testBit lo v = true ↔ ∀ x, x < k → SideN s t x → capS x l = best → Nat.testBit x v = true
  high : ∀ v, Nat.testBit hi v = true ↔ ∃ x, x < k ∧ SideN s t x ∧ capS x l = best ∧ Nat.testBit x v = true

def PartK (s t : Nat) (l : List Arc3) (k : Nat) (best : Int) (lo hi : Nat) : Prop :=
  (best = -1 ∧ lo = 0 ∧ hi = 0 ∧ ∀ x, x < k → ¬ SideN s t x) ∨ (0 ≤ best ∧ LeastOf s t l k best lo hi)

theorem PartK.start (s t : Nat) (l : List Arc3) : PartK s t l 0 (-1) 0 0 := Or.inl ⟨rfl, rfl, rfl, fun x hx => absurd hx (Nat.not_lt_zero _)⟩
theorem LeastOf.skip {s t : Nat} {l : List Arc3} {k : Nat} {best : Int} {lo hi : Nat} (h : LeastOf s t l k best lo hi) (hk : SideN s t k → best < capS k l) : LeastOf s t l (k + 1) best lo hi := by
  obtain ⟨x, hx, h1, h2⟩ := h.some
  refine ⟨⟨x, by omega, h1, h2⟩, fun y hy hs => ?_, fun v => ?_, fun v => ?_⟩
  · by_cases e : y = k
    · subst e; exact Int.le_of_lt (hk hs)
    · exact h.least y (by omega) hs
  · rw [h.low]
    refine ⟨fun g y hy hs he => ?_, fun g y hy => g y (by omega)⟩
    by_cases e : y = k
    · subst e; have := hk hs; omega
    · exact g y (by omega) hs he
  · rw [h.high]
    refine ⟨fun ⟨y, hy, r⟩ => ⟨y, by omega, r⟩, fun ⟨y, hy, hs, he, r⟩ => ?_⟩
    by_cases e : y = k
    · subst e; have := hk hs; omega
    · exact ⟨y, by omega, hs, he, r⟩
theorem LeastOf.new {s t : Nat} {l : List Arc3} {k : Nat} (hs : SideN s t k) (h : ∀ x, x < k → SideN s t x → capS k l < capS x l) : LeastOf s t l (k + 1) (capS k l) k k := by
  have hone : ∀ x, x < k + 1 → SideN s t x → capS x l = capS k l → x = k := fun x hx hs he => by
    by_cases e : x = k
    · exact e
    · have := h x (by omega) hs; omega
  refine ⟨⟨k, by omega, hs, rfl⟩, fun x hx hx2 => ?_, fun v => ⟨fun g x hx h1 h2 => ?_, fun g => g k (by omega) hs rfl⟩, fun v => ⟨fun g => ⟨k, by omega, hs, rfl, g⟩, fun ⟨x, hx, h1, h2, g⟩ => ?_⟩⟩
  · by_cases e : x = k
    · subst e; exact Int.le_refl _
    · exact Int.le_of_lt (h x (by omega) hx2)
  · rw [hone x hx h1 h2]; exact g
  · rw [hone x hx h1 h2] at g; exact g
theorem LeastOf.same {s t : Nat} {l : List Arc3} {k : Nat} {lo hi : Nat} (hs : SideN s t k) (h : LeastOf s t l k (capS k l) lo hi) : LeastOf s t l (k + 1) (capS k l) (lo &&& k) (hi ||| k) := by
  refine ⟨⟨k, by omega, hs, rfl⟩, fun x hx hx2 => ?_, fun v => ?_, fun v => ?_⟩
  · by_cases e : x = k
    · subst e; exact Int.le_refl _
    · exact h.least x (by omega) hx2
  · rw [Nat.testBit_and, Bool.and_eq_true, h.low]
    refine ⟨fun ⟨g, g'⟩ x hx h1 h2 => ?_, fun g => ⟨fun x hx => g x (by omega), g k (by omega) hs rfl⟩⟩
    by_cases e : x = k
    · rw [e]; exact g'
    · exact g x (by omega) h1 h2
  · rw [Nat.testBit_or, Bool.or_eq_true, h.high]
    refine ⟨fun g => ?_, fun ⟨x, hx, h1, h2, g⟩ => ?_⟩
    · rcases g with ⟨x, hx, r⟩ | g
      · exact ⟨x, by omega, r⟩
      · exact ⟨k, by omega, hs, rfl, g⟩
    · by_cases e : x = k
      · rw [e] at g; exact Or.inr g
      · exact Or.inl ⟨x, by omega, h1, h2, g⟩

/-- the side k is none of the source -/
theorem PartK.none {s t : Nat} {l : List Arc3} {k : Nat} {best : Int} {lo hi : Nat} (h : PartK s t l k best lo hi) (hk : ¬ SideN s t k) : PartK s t l (k + 1) best lo hi := by
  rcases h with ⟨h1, h2, h3, h4⟩ | ⟨h1, h2⟩
  · refine Or.inl ⟨h1, h2, h3, fun x hx => ?_⟩
    by_cases e : x = k
    · rw [e]; exact hk
    · exact h4 x (by omega)
  · exact Or.inr ⟨h1, h2.skip fun h => absurd h hk⟩
theorem PartK.less {s t : Nat} {l : List Arc3} {k : Nat} {best : Int} {lo hi : Nat} (h : PartK s t l k best lo hi) (hk : SideN s t k) (h0 : 0 ≤ capS k l) (hb : best < 0 ∨ capS k l < best) : PartK s t l (k + 1) (capS k l) k k := by
  refine Or.inr ⟨h0, LeastOf.new hk fun x hx hs => ?_⟩
  rcases h with ⟨h1, _, _, h4⟩ | ⟨h1, h2⟩
  · exact absurd hs (h4 x hx)
  · have := h2.least x hx hs; omega
theorem PartK.same {s t : Nat} {l : List Arc3} {k : Nat} {best : Int} {lo hi : Nat} (h : PartK s t l k best lo hi) (hk : SideN s t k) (hb : 0 ≤ best) (he : capS k l = best) : PartK s t l (k + 1) best (lo &&& k) (hi ||| k) := by
  subst he
  rcases h with ⟨h1, _⟩ | ⟨h1, h2⟩
  · omega
  · exact Or.inr ⟨h1, h2.same hk⟩
theorem PartK.more {s t : Nat} {l : List Arc3} {k : Nat} {best : Int} {lo hi : Nat} (h : PartK s t l k best lo hi) (hb : 0 ≤ best) (he : best < capS k l) : PartK s t l (k + 1) best lo hi := by
  rcases h with ⟨h1, _⟩ | ⟨h1, h2⟩
  · omega
  · exact Or.inr ⟨h1, h2.skip fun _ => he⟩

/-- all sides -/
def PartIs (N s t : Nat) (l : List Arc3) (best : Int) (lo hi : Nat) : Prop := LeastOf s t l (2 ^ N) best lo hi
theorem PartK.done {N s t : Nat} {l : List Arc3} {best : Int} {lo hi : Nat} (hs : s < N) (hst : s ≠ t) (h : PartK s t l (2 ^ N) best lo hi) : PartIs N s t l best lo hi := by
  rcases h with ⟨_, _, _, h⟩ | ⟨_, h⟩
  · refine absurd ?_ (h (2 ^ s) (Nat.pow_lt_pow_right (by omega) hs))
    refine ⟨by simp, ?_⟩
    rw [Nat.testBit_two_pow]
    simp [hst]
  · exact h
theorem PartIs.unique {N s t : Nat} {l : List Arc3} {b b' : Int} {lo hi lo' hi' : Nat} (h : PartIs N s t l b lo hi) (h' : PartIs N s t l b' lo' hi') : b = b' ∧ lo = lo' ∧ hi = hi' := by
  obtain ⟨x, hx, h1, h2⟩ := h.some
  obtain ⟨y, hy, g1, g2⟩ := h'.some
  have e : b = b' := by
    have a1 := h.least y hy g1
    have a2 := h'.least x hx h1
    omega
  subst e
  refine ⟨rfl, Nat.eq_of_testBit_eq fun v => ?_, Nat.eq_of_testBit_eq fun v => ?_⟩
  · rw [Bool.eq_iff_iff, h.low, h'.low]
  · rw [Bool.eq_iff_iff, h.high, h'.high]
/-- where so much goes -/
theorem MaxIs.part {N s t : Nat} {l : List Arc3} {v best : Int} {lo hi : Nat} (hE : netErr N s t l = 0) (h : MaxIs N s t l v) (hp : PartIs N s t l best lo hi) : best = v := by
  obtain ⟨x, hx, h1, h2⟩ := hp.some
  have h3 := h.ge hE (sideN_bt.1 h1).1 (sideN_bt.1 h1).2
  obtain ⟨side, hs, e⟩ := h.side
  obtain ⟨y, rfl, hy, hsy⟩ := hs.nat
  have := hp.least y hy hsy
  omega

end Go.Proofs.Ytmneajmfoljflaa
