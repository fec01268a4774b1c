/- Plain facts on sides: what two have in common, and together; the least one, the greatest one; turned. -/
import Derived.Test.YtmneajmfoljflaaPartM
namespace Go.Proofs.Ytmneajmfoljflaa
set_option linter.unusedVariables false

theorem bt_int (side v : Int) : bt side v = bt side (v.toNat : Int) := by unfold bt; rw [Int.toNat_natCast]
theorem bt_and (x y : Nat) (v : Int) : bt ((x &&& y : Nat) : Int) v = bt x v * bt y v := by
  rw [bt_int _ v, bt_int (x : Int) v, bt_int (y : Int) v, bt_nat, bt_nat, bt_nat, Nat.testBit_and]
  cases Nat.testBit x v.toNat <;> cases Nat.testBit y v.toNat <;> simp
theorem bt_or (x y : Nat) (v : Int) : bt ((x ||| y : Nat) : Int) v = bt x v + bt y v - bt x v * bt y v := by
  rw [bt_int _ v, bt_int (x : Int) v, bt_int (y : Int) v, bt_nat, bt_nat, bt_nat, Nat.testBit_or]
  cases Nat.testBit x v.toNat <;> cases Nat.testBit y v.toNat <;> simp

theorem sub_bits {p q r u c : Int} (hp : p = 0 ∨ p = 1) (hq : q = 0 ∨ q = 1) (hr : r = 0 ∨ r = 1) (hu : u = 0 ∨ u = 1) (hc : 0 ≤ c) :
    c * (p * r) * (1 - q * u) + c * (p + r - p * r) * (1 - (q + u - q * u)) ≤ c * p * (1 - q) + c * r * (1 - u) := by
  rcases hp with rfl | rfl <;> rcases hq with rfl | rfl <;> rcases hr with rfl | rfl <;> rcases hu with rfl | rfl <;> simp <;> omega
/-- what two sides have in common, and together, take no more than both -/
theorem capS_sub {l : List Arc3} (hc : ∀ k, k < l.length → 0 ≤ (at3 l k).2.2) (x y : Nat) : capS ((x &&& y : Nat) : Int) l + capS ((x ||| y : Nat) : Int) l ≤ capS x l + capS y l := by
  unfold capS capK
  rw [← sumN_add, ← sumN_add]
  refine sumN_mono fun i hi => ?_
  rw [bt_and, bt_and, bt_or, bt_or]
  exact sub_bits (bt_01 _ _) (bt_01 _ _) (bt_01 _ _) (bt_01 _ _) (hc i hi)
theorem SideN.and {s t x y : Nat} (h : SideN s t x) (k : SideN s t y) : SideN s t (x &&& y) := ⟨by rw [Nat.testBit_and, h.1, k.1]; rfl, by rw [Nat.testBit_and, h.2]; rfl⟩
theorem SideN.or {s t x y : Nat} (h : SideN s t x) (k : SideN s t y) : SideN s t (x ||| y) := ⟨by rw [Nat.testBit_or, h.1]; rfl, by rw [Nat.testBit_or, h.2, k.2]; rfl⟩

/-- a side of as little as can be -/
structure MinN (N s t : Nat) (l : List Arc3) (best : Int) (x : Nat) : Prop where
  lt : x < 2 ^ N
  side : SideN s t x
  val : capS x l = best
theorem MinN.both {N s t : Nat} {l : List Arc3} {best : Int} {lo hi x y : Nat} (hc : ∀ k, k < l.length → 0 ≤ (at3 l k).2.2) (h : PartIs N s t l best lo hi) (hx : MinN N s t l best x) (hy : MinN N s t l best y) : MinN N s t l best (x &&& y) ∧ MinN N s t l best (x ||| y) := by
  have l1 : x &&& y < 2 ^ N := Nat.lt_of_le_of_lt Nat.and_le_left hx.lt
  have l2 : x ||| y < 2 ^ N := Nat.or_lt_two_pow hx.lt hy.lt
  have h1 := h.least _ l1 (hx.side.and hy.side)
  have h2 := h.least _ l2 (hx.side.or hy.side)
  have h3 := capS_sub hc x y
  rw [hx.val, hy.val] at h3
  exact ⟨⟨l1, hx.side.and hy.side, by omega⟩, ⟨l2, hx.side.or hy.side, by omega⟩⟩
/-- the least one is one; so is the greatest -/
theorem part_ends {N s t : Nat} {l : List Arc3} {best : Int} {lo hi : Nat} (hc : ∀ k, k < l.length → 0 ≤ (at3 l k).2.2) (h : PartIs N s t l best lo hi) : MinN N s t l best lo ∧ MinN N s t l best hi := by
  have key : ∀ k, (∃ x, x < k ∧ MinN N s t l best x) → ∃ y z, MinN N s t l best y ∧ MinN N s t l best z ∧ (∀ v, Nat.testBit y v = true ↔ ∀ x, x < k → MinN N s t l best x → Nat.testBit x v = true) ∧ (∀ v, Nat.testBit z v = true ↔ ∃ x, x < k ∧ MinN N s t l best x ∧ Nat.testBit x v = true) := by
    intro k
    induction k with
    | zero => rintro ⟨x, hx, _⟩; omega
    | succ k ih =>
      rintro ⟨x, hx, hm⟩
      by_cases hk : MinN N s t l best k
      · by_cases he : ∃ x, x < k ∧ MinN N s t l best x
        · obtain ⟨y, z, h1, h2, h3, h4⟩ := ih he
          refine ⟨y &&& k, z ||| k, (h1.both hc h hk).1, (h2.both hc h hk).2, fun v => ?_, fun v => ?_⟩
          · rw [Nat.testBit_and, Bool.and_eq_true, h3]
            refine ⟨fun ⟨a, b⟩ x hx hm => ?_, fun a => ⟨fun x hx => a x (by omega), a k (by omega) hk⟩⟩
            by_cases e : x = k
            · rw [e]; exact b
            · exact a x (by omega) hm
          · rw [Nat.testBit_or, Bool.or_eq_true, h4]
            refine ⟨fun a => ?_, fun ⟨x, hx, hm, a⟩ => ?_⟩
            · rcases a with ⟨x, hx, r⟩ | a
              · exact ⟨x, by omega, r⟩
              · exact ⟨k, by omega, hk, a⟩
            · by_cases e : x = k
              · rw [e] at a; exact Or.inr a
              · exact Or.inl ⟨x, by omega, hm, a⟩
        · have hone : ∀ x, x < k + 1 → MinN N s t l best x → x = k := fun x hx hm => by
            by_cases e : x = k
            · exact e
            · exact absurd ⟨x, by omega, hm⟩ he
          exact ⟨k, k, hk, hk, fun v => ⟨fun a x hx hm => by rw [hone x hx hm]; exact a, fun a => a k (by omega) hk⟩, fun v => ⟨fun a => ⟨k, by omega, hk, a⟩, fun ⟨x, hx, hm, a⟩ => by rw [hone x hx hm] at a; exact a⟩⟩
      · have hxk : x < k := by
          have : x ≠ k := fun e => hk (e ▸ hm)
          omega
        obtain ⟨y, z, h1, h2, h3, h4⟩ := ih ⟨x, hxk, hm⟩
        refine ⟨y, z, h1, h2, fun v => ?_, fun v => ?_⟩
        · rw [h3]
          refine ⟨fun a x hx hm => a x (by have : x ≠ k := fun e => hk (e ▸ hm); omega) hm, fun a x hx => a x (by omega)⟩
        · rw [h4]
          exact ⟨fun ⟨x, hx, r⟩ => ⟨x, by omega, r⟩, fun ⟨x, hx, hm, r⟩ => ⟨x, by have : x ≠ k := fun e => hk (e ▸ hm); omega, hm, r⟩⟩
  obtain ⟨x, hx, h1, h2⟩ := h.some
  obtain ⟨y, z, m1, m2, m3, m4⟩ := key (2 ^ N) ⟨x, hx, hx, h1, h2⟩
  have e1 : y = lo := Nat.eq_of_testBit_eq fun v => by
    rw [Bool.eq_iff_iff, m3, h.low]
    exact ⟨fun a x hx hs hv => a x hx ⟨hx, hs, hv⟩, fun a x hx hm => a x hx hm.side hm.val⟩
  have e2 : z = hi := Nat.eq_of_testBit_eq fun v => by
    rw [Bool.eq_iff_iff, m4, h.high]
    exact ⟨fun ⟨x, hx, hm, a⟩ => ⟨x, hx, hm.side, hm.val, a⟩, fun ⟨x, hx, hs, hv, a⟩ => ⟨x, hx, ⟨hx, hs, hv⟩, a⟩⟩
  rw [← e1, ← e2]
  exact ⟨m1, m2⟩
theorem sub_and {a b : Nat} (h : ∀ v, Nat.testBit a v = true → Nat.testBit b v = true) : b &&& a = a := Nat.eq_of_testBit_eq fun v => by
  rw [Nat.testBit_and]
  cases e : Nat.testBit a v
  · cases Nat.testBit b v <;> rfl
  · rw [h v e]; rfl
/-- each has all of the least one, and is within the greatest one -/
theorem part_within {N s t : Nat} {l : List Arc3} {best : Int} {lo hi x : Nat} (h : PartIs N s t l best lo hi) (hx : MinN N s t l best x) : x &&& lo = lo ∧ hi &&& x = x :=
  ⟨sub_and fun v a => (h.low v).1 a x hx.lt hx.side hx.val, sub_and fun v a => (h.high v).2 ⟨x, hx.lt, hx.side, hx.val, a⟩⟩

/-! ### Turned -/

theorem testBit_other {N x v : Nat} (hx : x < 2 ^ N) : Nat.testBit (2 ^ N - 1 - x) v = (decide (v < N) && !Nat.testBit x v) := by
  rw [show 2 ^ N - 1 - x = 2 ^ N - (x + 1) by omega, Nat.testBit_two_pow_sub_succ hx]
theorem nat_other {N x : Nat} (hx : x < 2 ^ N) : ((2 ^ N - 1 - x : Nat) : Int) = 2 ^ N - 1 - (x : Int) := by
  have : (1 : Nat) ≤ 2 ^ N := Nat.one_le_two_pow
  rw [Int.natCast_sub (by omega), Int.natCast_sub this]
  simp
theorem PartIs.turn {N s t : Nat} {l : List Arc3} {best : Int} {lo hi : Nat} (hs : s < N) (ht : t < N) (hl : ∀ a ∈ l, (0 ≤ a.1 ∧ a.1 < (N : Int)) ∧ (0 ≤ a.2.1 ∧ a.2.1 < (N : Int))) (hlo : lo < 2 ^ N) (hhi : hi < 2 ^ N) (h : PartIs N s t l best lo hi) :
    PartIs N t s (l.map turnA) best (2 ^ N - 1 - hi) (2 ^ N - 1 - lo) := by
  have h2 : 0 < 2 ^ N := Nat.two_pow_pos N
  have hsd : ∀ x, x < 2 ^ N → SideN s t x → SideN t s (2 ^ N - 1 - x) := fun x hx hS => by
    refine ⟨?_, ?_⟩ <;> rw [testBit_other hx]
    · rw [hS.2]; simp [ht]
    · rw [hS.1]; simp
  have hsd' : ∀ x, x < 2 ^ N → SideN t s x → SideN s t (2 ^ N - 1 - x) := fun x hx hS => by
    refine ⟨?_, ?_⟩ <;> rw [testBit_other hx]
    · rw [hS.2]; simp [hs]
    · rw [hS.1]; simp
  have hcp : ∀ x, x < 2 ^ N → capS ((2 ^ N - 1 - x : Nat) : Int) (l.map turnA) = capS x l := fun x hx => by
    rw [nat_other hx]
    exact capS_turn hl (by omega) (by exact_mod_cast hx)
  have hcp' : ∀ x, x < 2 ^ N → capS ((2 ^ N - 1 - x : Nat) : Int) l = capS x (l.map turnA) := fun x hx => by
    have := hcp (2 ^ N - 1 - x) (by omega)
    rw [← this]
    congr 2
    omega
  obtain ⟨x, hx, h3, h4⟩ := h.some
  refine ⟨⟨2 ^ N - 1 - x, by omega, hsd x hx h3, by rw [hcp x hx]; exact h4⟩, fun y hy hS => ?_, fun v => ?_, fun v => ?_⟩
  · have := h.least _ (by omega) (hsd' y hy hS)
    rwa [hcp' y hy] at this
  · rw [testBit_other hhi, Bool.and_eq_true, decide_eq_true_iff, Bool.not_eq_true', ← Bool.not_eq_true, h.high]
    refine ⟨fun ⟨a, b⟩ y hy hS hv => ?_, fun a => ⟨?_, fun ⟨y, hy, hS, hv, b⟩ => ?_⟩⟩
    · refine Classical.byContradiction fun c => b ⟨2 ^ N - 1 - y, by omega, hsd' y hy hS, by rw [hcp' y hy]; exact hv, ?_⟩
      rw [testBit_other hy]; simp [a]; simpa using c
    · have := a (2 ^ N - 1 - x) (by omega) (hsd x hx h3) (by rw [hcp x hx]; exact h4)
      rw [testBit_other hx] at this
      simp at this
      exact this.1
    · have := a (2 ^ N - 1 - y) (by omega) (hsd y hy hS) (by rw [hcp y hy]; exact hv)
      rw [testBit_other hy, b] at this
      simp at this
  · rw [testBit_other hlo, Bool.and_eq_true, decide_eq_true_iff, Bool.not_eq_true', ← Bool.not_eq_true, h.low]
    refine ⟨fun ⟨a, b⟩ => ?_, fun ⟨y, hy, hS, hv, b⟩ => ⟨?_, fun c => ?_⟩⟩
    · refine Classical.byContradiction fun c => b fun y hy hS hv => Classical.byContradiction fun d => c ⟨2 ^ N - 1 - y, by omega, hsd y hy hS, by rw [hcp y hy]; exact hv, ?_⟩
      rw [testBit_other hy]; simp [a]; simpa using d
    · exact Classical.byContradiction fun d => by
        have : y < 2 ^ v := Nat.lt_of_lt_of_le hy (Nat.pow_le_pow_right (by omega) (by omega))
        rw [Nat.testBit_lt_two_pow this] at b; cases b
    · have := c (2 ^ N - 1 - y) (by omega) (hsd' y hy hS) (by rw [hcp' y hy]; exact hv)
      rw [testBit_other hy, b] at this
      simp at this

end Go.Proofs.Ytmneajmfoljflaa
