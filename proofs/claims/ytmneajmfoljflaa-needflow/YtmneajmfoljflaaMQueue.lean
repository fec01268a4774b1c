/- A queue of integers in memory of the call's own: read from the front, appended to at the end. -/
import Derived.Deep.AppendSrc
import Derived.Maps.AppendAt
import Derived.Test.YtmneajmfoljflaaOnly
import Derived.Test.YtmneajmfoljflaaCloneI
namespace Go.Proofs.Ytmneajmfoljflaa
open Go.RowKit
set_option linter.unusedVariables false

/-- numbers of a queue, as integers -/
def qn (K : List Nat) : List Int := K.map fun k : Nat => (k : Int)
theorem qn_len (K : List Nat) : (qn K).length = K.length := by simp [qn]

/-- a queue: spare memory behind it included -/
def QRow (w : World) (B : Nat) (pa : Option Addr) (pc : Nat) (K : List Nat) : Prop :=
  ∃ g off cur, pa = some ⟨g, off, none⟩ ∧ B ≤ g ∧ w.heap[g]? = some (.cells cur 3 (0, 0)) ∧ off + pc ≤ cur.size ∧ K.length ≤ pc ∧ pc ≤ maxLen ∧ ∀ i, i < K.length → cur[off + i]? = some (.int .i64 ((K.getD i 0 : Nat) : Int))
theorem QRow.of {w w' : World} {B : Nat} {pa : Option Addr} {pc : Nat} {K : List Nat} (h : QRow w B pa pc K) (hk : ∀ g o, B ≤ g → w.heap[g]? = some (.cells o 3 (0, 0)) → w'.heap[g]? = some (.cells o 3 (0, 0))) : QRow w' B pa pc K := by
  obtain ⟨g, off, cur, e, hB, hg, r⟩ := h
  exact ⟨g, off, cur, e, hB, hk g cur hB hg, r⟩
theorem QRow.alloc {w : World} {B : Nat} {pa : Option Addr} {pc : Nat} {K : List Nat} (h : QRow w B pa pc K) (o : Obj) : QRow (w.alloc o) B pa pc K := h.of fun g o' _ hg => blk_old hg o
theorem QRow.drewN {w : World} {B : Nat} {pa : Option Addr} {pc : Nat} {K : List Nat} (h : QRow w B pa pc K) (n : Nat) : QRow (w.drewN n) B pa pc K := by
  induction n with
  | zero => exact h
  | succ n ih => exact ih.of fun g o _ hg => hg
theorem QRow.only {w w' : World} {B b : Nat} {pa : Option Addr} {pc : Nat} {K : List Nat} (h : QRow w B pa pc K) (hb : b < B) (ho : Only b w w') : QRow w' B pa pc K := h.of fun g o hB hg => ho.blk hg (by omega)
/-- the first one -/
theorem QRow.head {w : World} {B : Nat} {pa : Option Addr} {pc : Nat} {k : Nat} {K : List Nat} (h : QRow w B pa pc (k :: K)) : ∃ g off, pa = some ⟨g, off, none⟩ ∧ B ≤ g ∧ g < w.heap.size ∧ 1 ≤ pc ∧ pc ≤ maxLen ∧ w.cell? ⟨g, off, none⟩ = some (.int .i64 (k : Int)) ∧
    QRow w B (some ⟨g, if pc = 1 then off else off + 1, none⟩) (pc - 1) K := by
  obtain ⟨g, off, cur, rfl, hB, hg, hs, hl, hm, hc⟩ := h
  rw [List.length_cons] at hl
  have h0 := hc 0 (by simp)
  refine ⟨g, off, rfl, hB, (Array.getElem?_eq_some_iff.1 hg).1, by omega, hm, by simp [World.cell?, hg]; simpa using h0, g, _, cur, rfl, hB, hg, ?_, by omega, by omega, fun i hi => ?_⟩
  · split <;> omega
  · have := hc (i + 1) (by rw [List.length_cons]; omega)
    rw [if_neg (by omega), show off + 1 + i = off + (i + 1) by omega, this]
    simp

theorem qrow_new (w : World) (B k : Nat) (hB : B ≤ w.heap.size) : QRow (w.alloc (.cells #[.int .i64 (k : Int)] 3)) B (some ⟨w.heap.size, 0, none⟩) 1 [k] :=
  ⟨w.heap.size, 0, _, rfl, hB, blk_new _ _, by simp, by simp, by unfold maxLen; omega, fun i hi => by
    have : i = 0 := by simp at hi; omega
    subst this; rfl⟩

/-- the block of a queue -/
def qb (pa : Option Addr) : Option Nat := (Value.slice pa 0 0).ownBlock
theorem QRow.qb {w : World} {B : Nat} {pa : Option Addr} {pc : Nat} {K : List Nat} (h : QRow w B pa pc K) : ∀ j, qb pa = some j → B ≤ j := by
  obtain ⟨g, off, cur, rfl, hB, r⟩ := h
  intro j e
  simp only [Ytmneajmfoljflaa.qb, Value.ownBlock, Option.some.injEq] at e
  omega

theorem QRow.ne {w : World} {B : Nat} {pa : Option Addr} {pc : Nat} {K : List Nat} (h : QRow w B pa pc K) {b : Nat} {c : Array Value} {t : TypeId} {fr : Nat × Nat} (hb : w.heap[b]? = some (.cells c t fr)) (ht : t ≠ 3) : some b ≠ Ytmneajmfoljflaa.qb pa := by
  obtain ⟨g, off, cur, rfl, hB, hg, r⟩ := h
  intro e
  simp only [Ytmneajmfoljflaa.qb, Value.ownBlock, Option.some.injEq] at e
  subst e
  rw [hb] at hg
  simp only [Option.some.injEq, Obj.cells.injEq] at hg
  exact ht hg.2.1

theorem run_append_q {w : World} {B : Nat} {pa : Option Addr} {pc : Nat} {K : List Nat} (h : QRow w B pa pc K) (hK : K.length ≤ 1000) (hB : B ≤ w.heap.size) (ad : Addr) (c k : Nat) (hx : w.cell? ad = some (.int .i64 (k : Int))) (ty : TypeId) :
    ∃ pa' pc' w', (Builtin.append_ #[23, 23] ty #[.slice pa K.length pc, .slice (some ad) 1 c]).run Try.prog w = .ok (.slice pa' (K.length + 1) pc') w' ∧ QRow w' B pa' pc' (K ++ [k]) ∧ w.grownBy w' (qb pa) := by
  obtain ⟨i0, hi, hz0, hz1, hz2⟩ := info_parts infoInt
  obtain ⟨g, off, cur, rfl, hBg, hg, hs, hl, hm, hc⟩ := h
  have hnews : ∀ j u, [Value.int .i64 (k : Int)][j]? = some u → w.cell? (ad.add j) = some u := by
    intro j u hj
    match j, hj with
    | 0, hj =>
      simp at hj; subst hj
      have : ad.add 0 = ad := by unfold Addr.add; simp
      rw [this]; exact hx
  have h1 : ∀ u ∈ [Value.int .i64 (k : Int)], u.oneCell' = true := by
    intro u hu; rw [List.mem_singleton] at hu; subst hu; rfl
  have hlen : [Value.int .i64 (k : Int)].length = 1 * i0.size := by rw [hz1]; rfl
  by_cases hroom : K.length + 1 ≤ pc
  · have hS := Src.ofSlice (P := Try.prog) w (size := i0.size) Try.underlying23 ad 1 c _ hlen hnews h1
    have hr := run_append_room_src (P := Try.prog) w 23 23 ty 3 i0 Try.underlying23 hi g off K.length pc _ 1 _ hS hroom
      (fun j hj => by
        simp only [List.length_singleton] at hj
        obtain rfl : j = 0 := by omega
        rw [hz1]
        have : off + K.length < cur.size := by omega
        simp [World.cell?, hg, this])
      (fun j hj => by simp [World.frozen?, hg])
    refine ⟨_, _, _, hr, ⟨g, off, cur.setIfInBounds (off + K.length) (.int .i64 (k : Int)), rfl, hBg, ?_, by rw [Array.size_setIfInBounds]; exact hs, by rw [List.length_append]; exact hroom, hm, fun i hi' => ?_⟩, ?_⟩
    · simp only [World.setCells, hz1, Nat.mul_one]
      simp [World.setCell, Array.getElem?_modify, hg]
    · rw [List.length_append, List.length_singleton] at hi'
      rw [Array.getElem?_setIfInBounds]
      by_cases e : i = K.length
      · subst e
        rw [if_pos rfl, if_pos (by omega)]
        simp
      · rw [if_neg (by omega), hc i (by omega)]
        have : i < K.length := by omega
        simp [List.getElem?_append_left this]
    · simp only [World.setCells]
      exact ⟨rfl, rfl, rfl, by simp [World.setCell], fun j hj hne => Below.heap_setCell _ _ _ _ (fun e => hne (by simp only [qb, Value.ownBlock]; rw [e]))⟩
  · have hol : (flati (qn K)).length = K.length * i0.size := by rw [hz1, flati_length, qn_len]
    have holds : ∀ j u, (flati (qn K))[j]? = some u → w.cell? ((⟨g, off, none⟩ : Addr).add j) = some u := by
      intro j u hj
      have hjl : j < K.length := by
        have := (List.getElem?_eq_some_iff.1 hj).1
        simpa [flati, qn] using this
      rw [Go.WideShapes.add_plain]
      have e1 : (flati (qn K))[j]? = some (.int .i64 ((K.getD j 0 : Nat) : Int)) := by simp [flati, qn, hjl]
      rw [hj] at e1
      cases e1
      simp [World.cell?, hg, hc j hjl]
    have hr := run_append_grow (P := Try.prog) w 23 ty 3 i0 (.int .i64 0) Try.underlying23 hi hz0 ⟨g, off, none⟩ K.length pc (flati (qn K)) hol holds ad 1 c _ hlen hnews (by omega) (by omega) (growslice_fits (by omega) (by rw [hz2]; omega))
    have hge := grownCap_ge w (K.length + 1) pc 3
    have hcm := grownCap_le_maxLen w (K.length + 1) pc 3 (by unfold maxLen; omega)
    refine ⟨_, _, _, hr, ⟨w.heap.size, 0, _, rfl, hB, heap_alloc_new w.drew _, ?_, by rw [List.length_append]; exact hge, hcm, fun i hi' => ?_⟩, ⟨rfl, rfl, rfl, by simp, fun j hj _ => heap_alloc_old w.drew _ hj⟩⟩
    · simp [size_zeroCells, flati, qn, Value.cells]
      omega
    · rw [List.length_append, List.length_singleton] at hi'
      rw [Nat.zero_add, Array.getElem?_append_left (by simp [flati, qn]; omega)]
      by_cases e : i = K.length
      · subst e
        simp [flati, qn]
      · have : i < K.length := by omega
        simp [flati, qn, List.getElem?_append_left, this]

theorem wpList_append_q {ops : Array Oper} {rest : List Oper} {o : Oper} {a : Act} {w : World} {Q : Exit → Act → World → Prop} (hgd : o.guard = none) (s x : Operand)
    (ho : o.op = .call { callee := .builtin .append, args := #[s, x], argTypes := #[23, 23] })
    (B : Nat) (pa : Option Addr) (pc : Nat) (K : List Nat) (hs : a.eval s = .slice pa K.length pc) (h : QRow w B pa pc K) (hK : K.length ≤ 1000) (hB : B ≤ w.heap.size) (ad : Addr) (c k : Nat) (hxv : a.eval x = .slice (some ad) 1 c) (hx : w.cell? ad = some (.int .i64 (k : Int)))
    (hN : ∀ pa' pc' w', QRow w' B pa' pc' (K ++ [k]) → w.grownBy w' (qb pa) → wpList Try.prog ops Q rest (a.put o.dst (.slice pa' (K.length + 1) pc')) w') : wpList Try.prog ops Q (o :: rest) a w := by
  refine wpList_plain hgd fun K' hK' => ?_
  obtain ⟨pa', pc', w', hr, h1, h2⟩ := run_append_q h hK hB ad c k hx o.type
  unfold Oper.wp execOp
  simp only [ho, resolve, invoke, builtin, Sem.run_bind, Sem.run_pure, Result.andThen_ok, List.map_toArray, List.map_cons, List.map_nil, hs, hxv, hr]
  exact hK' _ _ (hN pa' pc' w' h1 h2)

end Go.Proofs.Ytmneajmfoljflaa
