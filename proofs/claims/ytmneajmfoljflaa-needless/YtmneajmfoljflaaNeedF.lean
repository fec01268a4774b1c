/- Plain facts on a net as needs; a list of needs in a row of its own. -/
import Derived.Test.YtmneajmfoljflaaNeedC
import Derived.Test.YtmneajmfoljflaaJoinedB
import Derived.Test.YtmneajmfoljflaaJoinedC
import Derived.Test.YtmneajmfoljflaaMk
import Derived.Test.YtmneajmfoljflaaOwns
namespace Go.Proofs.Ytmneajmfoljflaa
open Go.RowKit
set_option linter.unusedVariables false

theorem infoNeed : (Try.prog.info? 36).map (fun i => (i.zero, i.size, i.bytes)) = some (some (.agg #[.int .i64 0, .int .i64 0, .int .i64 0, .int .i64 0]), 4, 32) := by kernel_rfl
theorem needs_news {w : World} {b off : Nat} {l : List Need4} (h : NeedsAt w (some ⟨b, off, none⟩) l) : ∀ j u, (flat4 l)[j]? = some u → w.cell? ((⟨b, off, none⟩ : Addr).add j) = some u := by
  intro j u hj
  have hl := (List.getElem?_eq_some_iff.1 hj).1
  rw [flat4_len] at hl
  obtain ⟨b', off', e, _, c0, c1, c2, c3⟩ := h (j / 4) (by omega)
  cases e
  rw [Go.WideShapes.add_plain]
  obtain ⟨f0, f1, f2, f3⟩ := flat4_at l (j / 4) (by omega)
  rcases (by omega : j = j / 4 * 4 ∨ j = j / 4 * 4 + 1 ∨ j = j / 4 * 4 + 2 ∨ j = j / 4 * 4 + 3) with e | e | e | e
  · rw [← e] at c0 f0
    rw [hj] at f0
    rw [c0]; exact f0.symm
  · rw [Nat.add_assoc, ← e] at c1
    rw [← e] at f1
    rw [hj] at f1
    rw [c1]; exact f1.symm
  · rw [Nat.add_assoc, ← e] at c2
    rw [← e] at f2
    rw [hj] at f2
    rw [c2]; exact f2.symm
  · rw [Nat.add_assoc, ← e] at c3
    rw [← e] at f3
    rw [hj] at f3
    rw [c3]; exact f3.symm

/-- the cells of a row are these needs -/
def NeedR (f : Nat → Value) (l : List Need4) : Prop := ∀ i, i < l.length → f (i * 4) = .int .i64 (at4 l i).1 ∧ f (i * 4 + 1) = .int .i64 (at4 l i).2.1 ∧ f (i * 4 + 2) = .int .i64 (at4 l i).2.2.1 ∧ f (i * 4 + 3) = .int .i64 (at4 l i).2.2.2
theorem NeedR.in_ {w : World} {g cap : Nat} {f : Nat → Value} {l : List Need4} (h : w.rowIs g 36 (cap * 4) f) (hf : NeedR f l) (hle : l.length ≤ cap) (hm : cap ≤ maxLen) : NeedsIn w (some ⟨g, 0, none⟩) cap l := by
  refine ⟨fun i hi => ?_, hle, hm, fun e => by cases e⟩
  obtain ⟨h0, h1, h2, h3⟩ := hf i hi
  refine ⟨g, 0, rfl, h.lt, ?_, ?_, ?_, ?_⟩ <;> rw [Nat.zero_add]
  · rw [h.cell (i := i * 4) (by omega), h0]
  · rw [h.cell (i := i * 4 + 1) (by omega), h1]
  · rw [h.cell (i := i * 4 + 2) (by omega), h2]
  · rw [h.cell (i := i * 4 + 3) (by omega), h3]
theorem own_needs {w : World} {B : Nat} {v : Value} {l : List Need4} (h0 : 0 < l.length) (h : w.ownsRow B 36 4 v l.length (flat4 l)) :
    ∃ g cap f, v = .slice (some ⟨g, 0, none⟩) l.length cap ∧ B ≤ g ∧ l.length ≤ cap ∧ cap ≤ maxLen ∧ w.rowIs g 36 (cap * 4) f ∧ NeedR f l := by
  rcases h.2 with ⟨rfl, hn⟩ | ⟨g, cap, cur, rfl, hB, hg, hle, hcap, hcs, htk⟩
  · omega
  · have hr : w.rowIs g 36 (cap * 4) (fun i => cur.getD i (.bool false)) := ⟨cur, hg, hcs, fun i hi => by simp [Array.getD, hcs, hi]⟩
    refine ⟨g, cap, _, rfl, hB, hle, hcap, hr, fun i hi => ?_⟩
    obtain ⟨f0, f1, f2, f3⟩ := flat4_at l i hi
    have q0 := hr.cell (i := i * 4) (by omega)
    have q1 := hr.cell (i := i * 4 + 1) (by omega)
    have q2 := hr.cell (i := i * 4 + 2) (by omega)
    have q3 := hr.cell (i := i * 4 + 3) (by omega)
    rw [h.cellAt _ (by omega)] at q0 q1 q2 q3
    exact ⟨Option.some.inj (q0.symm.trans f0), Option.some.inj (q1.symm.trans f1), Option.some.inj (q2.symm.trans f2), Option.some.inj (q3.symm.trans f3)⟩

/-- one need changed -/
def setN (l : List Need4) (k : Nat) (a c : Int) : List Need4 := l.set k ((at4 l k).1, (at4 l k).2.1, a, c)
theorem setN_len (l : List Need4) (k : Nat) (a c : Int) : (setN l k a c).length = l.length := by unfold setN; rw [List.length_set]
theorem setN_at {l : List Need4} {k : Nat} (hk : k < l.length) (a c : Int) (i : Nat) (hi : i < l.length) : at4 (setN l k a c) i = if i = k then ((at4 l k).1, (at4 l k).2.1, a, c) else at4 l i := by
  rw [at4_lt _ _ (by rw [setN_len]; exact hi), at4_lt l i hi]
  unfold setN
  rw [List.getElem_set]
  by_cases e : k = i
  · subst e; simp
  · rw [if_neg e, if_neg (Ne.symm e)]
theorem NeedR.set {f : Nat → Value} {l m : List Need4} {k : Nat} (h : NeedR f l) (hlen : m.length = l.length) (hk : k < l.length) {a c : Int} (hm : ∀ i, i < l.length → at4 m i = if i = k then ((at4 l k).1, (at4 l k).2.1, a, c) else at4 l i) :
    NeedR (fun j => if j = k * 4 + 3 then .int .i64 c else if j = k * 4 + 2 then .int .i64 a else f j) m := by
  intro i hi
  rw [hlen] at hi
  rw [hm i hi]
  obtain ⟨h0, h1, h2, h3⟩ := h i hi
  by_cases e : i = k
  · subst e
    rw [if_pos rfl]
    refine ⟨?_, ?_, ?_, ?_⟩ <;> dsimp only
    · rw [if_neg (by omega), if_neg (by omega)]; exact h0
    · rw [if_neg (by omega), if_neg (by omega)]; exact h1
    · rw [if_neg (by omega), if_pos rfl]
    · rw [if_pos rfl]
  · rw [if_neg e]
    refine ⟨?_, ?_, ?_, ?_⟩ <;> dsimp only <;> rw [if_neg (by omega), if_neg (by omega)]
    · exact h0
    · exact h1
    · exact h2
    · exact h3

/-- a net as needs; with an arc from the sink to the source that must take so much -/
def needN (l : List Arc3) : List Need4 := l.map fun a => (a.1, a.2.1, 0, a.2.2)
def needF (s t amount : Int) (l : List Arc3) : List Need4 := (t, s, amount, 333) :: needN l
theorem needN_len (l : List Arc3) : (needN l).length = l.length := by unfold needN; rw [List.length_map]
theorem needF_len (s t a : Int) (l : List Arc3) : (needF s t a l).length = l.length + 1 := by unfold needF; rw [List.length_cons, needN_len]
theorem needN_at {l : List Arc3} {k : Nat} (hk : k < l.length) : at4 (needN l) k = ((at3 l k).1, (at3 l k).2.1, 0, (at3 l k).2.2) := by
  rw [at4_lt _ _ (by rw [needN_len]; exact hk), at3_lt _ _ hk]
  unfold needN
  rw [List.getElem_map]
theorem needF_zero (s t a : Int) (l : List Arc3) : at4 (needF s t a l) 0 = (t, s, a, 333) := rfl
theorem needF_succ (s t a : Int) (l : List Arc3) (k : Nat) : at4 (needF s t a l) (k + 1) = at4 (needN l) k := by simp [at4, needF]
theorem needF_A (s t a : Int) (l : List Arc3) : needA (needF s t a l) = (t, s, 333) :: l := by
  unfold needA needF needN
  rw [List.map_cons, List.map_map]
  congr 1
  conv => rhs; rw [← List.map_id l]
  exact List.map_congr_left fun a _ => rfl
theorem needF_err {N : Nat} {s t a : Int} {l : List Arc3} (hE : netErr N s t l = 0) (hN : N ≤ 10) (hl : l.length < 30) (hc : ∀ k, k < l.length → (at3 l k).2.2 ≤ 333) (ha : 0 ≤ a ∧ a ≤ 333) : needErr N (needF s t a l) = 0 := by
  obtain ⟨hge, hs, ht, _⟩ := net_ok hE
  obtain ⟨hn, _, hall⟩ := err_ok hge
  refine need_mk ⟨hn.1, by omega⟩ (by rw [needF_len]; omega) fun x hx => ?_
  unfold needF at hx
  rcases List.mem_cons.1 hx with rfl | hx
  · exact need1_mk ⟨ht, hs, ha.1, ha.2, Int.le_refl _⟩
  · obtain ⟨i, hi, rfl⟩ := List.mem_iff_getElem.1 hx
    rw [← at4_lt _ _ hi]
    rw [needN_len] at hi
    rw [needN_at hi]
    have := hall _ (at3_mem l i hi)
    exact need1_mk ⟨this.1, this.2.1, Int.le_refl _, this.2.2.1, hc i hi⟩
theorem gone_cons (a : Arc3) (l : List Arc3) (y : Int) (f : List Int) (v : Int) : gone (a :: l) (ati (y :: f)) v = ((if a.1 = v then y else 0) - (if a.2.1 = v then y else 0)) + gone l (ati f) v := by
  unfold gone goneK
  rw [List.length_cons, sumN_front]
  rfl
/-- a round is a flow, that takes what must go back -/
theorem round_flow {N : Nat} {s t a : Int} {l : List Arc3} {F : List Int} (hE : netErr N s t l = 0) (h : RoundIs N (needF s t a l) F) : ∃ y f, F = y :: f ∧ a ≤ y ∧ y ≤ 333 ∧ FlowIs N s t l f ∧ gone l (ati f) s = y := by
  obtain ⟨hge, hs, ht, hst⟩ := net_ok hE
  have hl := h.len
  rw [needF_len] at hl
  cases F with
  | nil => simp at hl
  | cons y f =>
    have hlf : f.length = l.length := by simpa using hl
    have h0 := h.bnd 0 (by rw [needF_len]; omega)
    have hb : ∀ v : Nat, v < N → ((if t = (v : Int) then y else 0) - (if s = (v : Int) then y else 0)) + gone l (ati f) v = 0 := fun v hv => by
      have := h.bal v hv
      rw [needF_A, gone_cons] at this
      exact this
    obtain ⟨sN, rfl⟩ := Int.eq_ofNat_of_zero_le hs.1
    obtain ⟨tN, rfl⟩ := Int.eq_ofNat_of_zero_le ht.1
    refine ⟨y, f, rfl, h0.1, h0.2, ⟨hlf, fun k hk => ?_, fun v hv h1 h2 => ?_⟩, ?_⟩
    · have := h.bnd (k + 1) (by rw [needF_len]; omega)
      rw [needF_succ, needN_at hk] at this
      exact this
    · have := hb v hv
      rw [if_neg (fun e => h2 e.symm), if_neg (fun e => h1 e.symm)] at this
      omega
    · have := hb sN (by omega)
      rw [if_neg (fun e => hst e.symm), if_pos rfl] at this
      omega
theorem strain_flow {N : Nat} {s t a v : Int} {l : List Arc3} {x : Int} (hE : netErr N s t l = 0) (hM : MaxIs N s t l v) (ha : 0 ≤ a ∧ a ≤ 333) (h : Strains (needF s t a l) x) : v < a ∧ bt x s = 1 ∧ bt x t = 0 := by
  have e1 : mustS (needF s t a l) x = (1 - bt x t) * bt x s * a := by
    unfold mustS mustK
    rw [needF_len, sumN_front, sumN_zero (f := fun k => (1 - bt x (at4 (needF s t a l) (k + 1)).1) * bt x (at4 (needF s t a l) (k + 1)).2.1 * (at4 (needF s t a l) (k + 1)).2.2.1) fun k hk => by rw [needF_succ, needN_at hk]; simp]
    rw [needF_zero]; simp
  have e2 : mayS (needF s t a l) x = bt x t * (1 - bt x s) * 333 + capS x l := by
    unfold mayS mayK capS capK
    rw [needF_len, sumN_front, needF_zero]
    congr 1
    refine sumN_congr fun k hk => ?_
    rw [needF_succ, needN_at hk]
    rcases bt_01 x (at3 l k).1 with e | e <;> rcases bt_01 x (at3 l k).2.1 with e' | e' <;> simp [e, e']
  have h0 : 0 ≤ capS x l := (capK_bound (side := x) (l := l) l.length fun i hi => ((err_ok (net_ok hE).1).2.2 _ (at3_mem l i hi)).2.2).1
  unfold Strains at h
  rw [e1, e2] at h
  rcases bt_01 x s with c1 | c1 <;> rcases bt_01 x t with c2 | c2 <;> rw [c1, c2] at h <;> simp at h
  · omega
  · omega
  · have := hM.ge hE c1 c2
    exact ⟨by omega, c1, c2⟩
  · omega
/-- a net takes so much just if there is a round -/
theorem tells_flow {N : Nat} {s t a v : Int} {l : List Arc3} {F : List Int} {E : Int} (hE : netErr N s t l = 0) (hN : N ≤ 10) (hl : l.length < 30) (hc : ∀ k, k < l.length → (at3 l k).2.2 ≤ 333) (ha : 0 ≤ a ∧ a ≤ 333) (hM : MaxIs N s t l v) (h : RoundTells N (needF s t a l) F E) : (E = 0 ∧ a ≤ v) ∨ (E = 5 ∧ v < a) := by
  rcases h.2 (needF_err hE hN hl hc ha) with ⟨h1, h2⟩ | ⟨h1, _, x, _, hs⟩
  · rw [Int.toNat_natCast] at h2
    obtain ⟨y, f, _, hy, _, hf, hg⟩ := round_flow hE h2
    have := hM.le hE hf
    exact Or.inl ⟨h1, by omega⟩
  · exact Or.inr ⟨h1, (strain_flow hE hM ha hs).1⟩

theorem needF_snoc (s t a : Int) (l : List Arc3) (k : Nat) (hk : k < l.length) : flat4 (needF s t a (l.take (k + 1))) = flat4 (needF s t a (l.take k)) ++ [.int .i64 (at3 l k).1, .int .i64 (at3 l k).2.1, .int .i64 0, .int .i64 (at3 l k).2.2] := by
  have e : needF s t a (l.take (k + 1)) = needF s t a (l.take k) ++ [((at3 l k).1, (at3 l k).2.1, 0, (at3 l k).2.2)] := by
    unfold needF needN
    have h : l.take (k + 1) = l.take k ++ [l[k]] := by simp
    rw [at3_lt _ _ hk, h, List.map_append]
    rfl
  rw [e, flat4_append]
  rfl

end Go.Proofs.Ytmneajmfoljflaa
