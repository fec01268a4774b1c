/- Pieces of a flow in memory; slices.Grow of nothing and slices.Concat of two lists of them. -/
import Derived.Lib.AppendZeros
import Derived.Deep.AppendSrc
import Derived.Test.YthlcbhbjngcnkaaMk
import Derived.Test.YthlcbhbjngcnkaaOwns
import Derived.Test.YthlcbhbjngcnkaaSplitM
namespace Go.Proofs.Ythlcbhbjngcnkaa
open Go.RowKit
set_option linter.unusedVariables false

/-- a piece as it lies in memory -/
structure PcV where
  a : Int
  ao : Option Addr
  cap : Nat
  k : List Nat

def PcV.pc (p : PcV) : Pc := (p.a, p.k)
def numP (K : List Nat) : List Int := K.map fun k : Nat => (k : Int)
theorem numP_len (K : List Nat) : (numP K).length = K.length := by simp [numP]
theorem numP_at {K : List Nat} {i : Nat} (h : i < K.length) : ati (numP K) i = ((K.getD i 0 : Nat) : Int) := by
  rw [ati_lt _ _ (by rw [numP_len]; exact h)]; simp [numP, h]

def atp (P : List PcV) (i : Nat) : PcV := P.getD i ⟨0, none, 0, []⟩
theorem atp_lt (P : List PcV) (i : Nat) (h : i < P.length) : atp P i = P[i] := by simp [atp, h]

/-- its numbers lie there -/
structure PcV.At (w : World) (p : PcV) : Prop where
  ints : IntsAt w p.ao (numP p.k)
  le : p.k.length ≤ p.cap
  max : p.cap ≤ maxLen
  nil : p.ao = none → p.k.length = 0 ∧ p.cap = 0
theorem PcV.At.below {B : Nat} {w w' : World} {p : PcV} (h : p.At w) (hb : Below B w w') (hB : w.heap.size ≤ B) : p.At w' := ⟨h.ints.below hb hB, h.le, h.max, h.nil⟩

/-- the pieces lie where the slice leads -/
def PiecesAt (w : World) (ao : Option Addr) (P : List PcV) : Prop :=
  ∀ i, i < P.length → ∃ b off, ao = some ⟨b, off, none⟩ ∧ b < w.heap.size ∧ w.cell? ⟨b, off + i * 2, none⟩ = some (.int .i64 (atp P i).a) ∧ w.cell? ⟨b, off + i * 2 + 1, none⟩ = some (.slice (atp P i).ao (atp P i).k.length (atp P i).cap) ∧ (atp P i).At w
theorem PiecesAt.below {B : Nat} {w w' : World} {ao : Option Addr} {P : List PcV} (h : PiecesAt w ao P) (hb : Below B w w') (hB : w.heap.size ≤ B) : PiecesAt w' ao P := by
  intro i hi
  obtain ⟨b, off, e, hlt, c0, c1, r⟩ := h i hi
  exact ⟨b, off, e, Nat.lt_of_lt_of_le hlt hb.size, later hb c0 (by omega), later hb c1 (by omega), r.below hb hB⟩
theorem PiecesAt.alloc {w : World} {ao : Option Addr} {P : List PcV} (h : PiecesAt w ao P) (o : Obj) : PiecesAt (w.alloc o) ao P := h.below (below_one w o) (Nat.le_refl _)
theorem PiecesAt.isNil {w : World} {P : List PcV} (h : PiecesAt w none P) : P = [] := by
  cases P with
  | nil => rfl
  | cons p P => obtain ⟨b, off, e, _⟩ := h 0 (by simp); cases e

/-- pieces as the cells of a row -/
def flatp : List PcV → List Value
  | [] => []
  | p :: P => .int .i64 p.a :: .slice p.ao p.k.length p.cap :: flatp P
theorem flatp_len : ∀ P : List PcV, (flatp P).length = P.length * 2
  | [] => rfl
  | p :: P => by simp only [flatp, List.length_cons, flatp_len P]; omega
theorem flatp_append : ∀ P Q : List PcV, flatp (P ++ Q) = flatp P ++ flatp Q
  | [], Q => rfl
  | p :: P, Q => by simp only [List.cons_append, flatp, flatp_append P Q]
theorem flatp_one (P : List PcV) : ∀ u ∈ flatp P, u.oneCell' = true := by
  induction P with
  | nil => intro u hu; cases hu
  | cons p P ih =>
    intro u hu
    simp only [flatp, List.mem_cons] at hu
    rcases hu with rfl | rfl | hu
    · rfl
    · rfl
    · exact ih u hu
theorem flatp_at : ∀ (P : List PcV) (i : Nat), i < P.length → (flatp P)[i * 2]? = some (.int .i64 (atp P i).a) ∧ (flatp P)[i * 2 + 1]? = some (.slice (atp P i).ao (atp P i).k.length (atp P i).cap)
  | p :: P, 0, _ => ⟨rfl, rfl⟩
  | p :: P, i + 1, h => by
    have := flatp_at P i (by simpa using h)
    have e1 : (i + 1) * 2 = i * 2 + 2 := by omega
    rw [e1]
    have e2 : atp (p :: P) (i + 1) = atp P i := by simp [atp]
    rw [e2]
    exact ⟨by simpa [flatp] using this.1, by simpa [flatp] using this.2⟩
theorem PiecesAt.news {w : World} {b off : Nat} {P : List PcV} (h : PiecesAt w (some ⟨b, off, none⟩) P) : ∀ j u, (flatp P)[j]? = some u → w.cell? ((⟨b, off, none⟩ : Addr).add j) = some u := by
  intro j u hj
  have hl := (List.getElem?_eq_some_iff.1 hj).1
  rw [flatp_len] at hl
  obtain ⟨b', off', e, _, c0, c1, _⟩ := h (j / 2) (by omega)
  cases e
  rw [Go.WideShapes.add_plain]
  obtain ⟨f0, f1⟩ := flatp_at P (j / 2) (by omega)
  rcases (by omega : j = j / 2 * 2 ∨ j = j / 2 * 2 + 1) with e | e
  · rw [← e] at c0 f0
    rw [hj] at f0
    rw [c0]; exact f0.symm
  · rw [Nat.add_assoc, ← e] at c1
    rw [← e] at f1
    rw [hj] at f1
    rw [c1]; exact f1.symm

theorem owns_pieces {w : World} {B : Nat} {t : TypeId} {v : Value} {P : List PcV} (h : w.ownsRow B t 2 v P.length (flatp P)) (hA : ∀ i, i < P.length → (atp P i).At w) :
    ∃ ao cap, v = .slice ao P.length cap ∧ PiecesAt w ao P ∧ P.length ≤ cap ∧ cap ≤ maxLen ∧ (∀ b off, ao = some ⟨b, off, none⟩ → B ≤ b) := by
  rcases h.2 with ⟨rfl, hn⟩ | ⟨g, cap, cur, rfl, hB, hg, hle, hcap, hcs, htk⟩
  · exact ⟨none, 0, by rw [hn], fun i hi => absurd hi (by omega), by omega, Nat.zero_le _, fun b off e => by cases e⟩
  · refine ⟨some ⟨g, 0, none⟩, cap, rfl, fun i hi => ?_, hle, hcap, fun b off e => by cases e; exact hB⟩
    obtain ⟨f0, f1⟩ := flatp_at P i hi
    refine ⟨g, 0, rfl, (Array.getElem?_eq_some_iff.1 hg).1, ?_, ?_, hA i hi⟩
    · rw [Nat.zero_add, h.cellAt _ (by omega)]; exact f0
    · rw [Nat.zero_add, h.cellAt _ (by omega)]; exact f1

theorem infoPiece : (Try.prog.info? 50).map (fun i => (i.zero, i.size, i.bytes)) = some (some (.agg #[.int .i64 0, .slice none 0 0]), 2, 32) := by kernel_rfl

/-- 'append(own, nil...)': nothing happens -/
theorem wpList_append_own_nil {P : Program} (w : World) {ops : Array Oper} {rest : List Oper} {o : Oper} {a : Act} {Q : Exit → Act → World → Prop} (hgd : o.guard = none) (s x : Operand) (t : TypeId)
    (ho : o.op = .call { callee := .builtin .append, args := #[s, x], argTypes := #[t, t] }) (base : Nat) (e : TypeId) (i : TypeInfo) (size : Nat) (ht : P.underlying t = some (.slice e)) (hi : P.info? e = some i) (hsize : i.size = size)
    (v : Value) (n : Nat) (xs : List Value) (hs : a.eval s = v) (hown : w.ownsRow base e size v n xs) (c : Nat) (hx : a.eval x = .slice none 0 c) (h : wpList P ops Q rest (a.put o.dst v) w) : wpList P ops Q (o :: rest) a w := by
  have hr : (Builtin.append_ #[t, t] o.type #[v, .slice none 0 c]).run P w = .ok v w := by
    have hS := Src.ofNil (P := P) w (size := i.size) ht c
    rcases hown.2 with ⟨rfl, _⟩ | ⟨g, cap, cur, rfl, hB, hg, hle, hcap, hcs, htk⟩
    · simp [Builtin.append_, run_underlying ht, sizeOf, typeInfo, hi, hS.len, hS.cells]
    · have := run_append_room_src (P := P) w t t o.type e i ht hi g 0 n cap _ 0 [] hS (by omega) (fun j hj => absurd hj (Nat.not_lt_zero _)) (fun j hj => absurd hj (Nat.not_lt_zero _))
      simpa [World.setCells] using this
  refine wpList_plain hgd fun K hK => ?_
  unfold Oper.wp execOp
  simp only [ho, resolve, invoke, builtin, Sem.run_bind, Sem.run_pure, Result.andThen_ok, List.map_toArray, List.map_cons, List.map_nil, hs, hx, hr]
  exact hK _ _ h

set_option maxHeartbeats 400000 in
set_option maxRecDepth 100000 in
theorem growP_nil (n : Nat) (hn : n ≤ 1000) (w : World) :
    Calls Try.prog 36 #[.slice none 0 0, .int .i64 (n : Int)] w fun e w' => Below w.heap.size w w' ∧
      ∃ ao cap, e = .returned (.slice ao 0 cap) ∧ w'.ownsRow w.heap.size 50 2 (.slice ao 0 cap) 0 [] := by
  by_cases h0 : n = 0
  · subst h0
    go_enter Try.func36, Try.ntmps36
    go_wp2
    go_ret
    exact ⟨Below.refl _ _, _, _, rfl, World.ownsRow_nil _ _ _ _⟩
  obtain ⟨i0, hi, hz0, hz1, hz2⟩ := info_parts infoPiece
  have hrun := Lib.run_append_nil_zeros (P := Try.prog) w 44 3 44 50 i0 (.agg #[.int .i64 0, .slice none 0 0]) .i64 .i64 Try.underlying44 Try.underlying3 hi hz0 n (by omega) (by rw [hz1]; decide) (by omega) (by rw [hz2]; omega)
  have hcl := grownCap_le_maxLen w n 0 50 (by unfold maxLen; omega)
  have hcg := grownCap_ge w n 0 50
  have HR : Hid ((Builtin.append_ #[44, 3] 44 #[.slice none 0 0, .int .i64 (n : Int)]).run Try.prog w = .ok (.slice (some ⟨w.heap.size, 0, none⟩) n (grownCap w n 0 50)) (w.drew.alloc (.cells (Builtin.zeroCells (Value.agg #[.int .i64 0, .slice none 0 0]).cells n ++ Builtin.zeroCells (Value.agg #[.int .i64 0, .slice none 0 0]).cells (grownCap w n 0 50 - n)) 50))) := hrun
  have hB : Below w.heap.size w (w.drew.alloc (.cells (Builtin.zeroCells (Value.agg #[.int .i64 0, .slice none 0 0]).cells n ++ Builtin.zeroCells (Value.agg #[.int .i64 0, .slice none 0 0]).cells (grownCap w n 0 50 - n)) 50)) := ((Below.refl w.heap.size w).drew).alloc (Nat.le_refl _) _
  have hO : (w.drew.alloc (.cells (Builtin.zeroCells (Value.agg #[.int .i64 0, .slice none 0 0]).cells n ++ Builtin.zeroCells (Value.agg #[.int .i64 0, .slice none 0 0]).cells (grownCap w n 0 50 - n)) 50)).ownsRow w.heap.size 50 2 (.slice (some ⟨w.heap.size, 0, none⟩) 0 (grownCap w n 0 50)) 0 [] := by
    refine ⟨rfl, Or.inr ⟨w.heap.size, grownCap w n 0 50, _, rfl, Nat.le_refl _, blk_new w.drew _, Nat.zero_le _, hcl, ?_, by simp⟩⟩
    rw [Array.size_append, size_zeroCells, size_zeroCells]
    simp [Value.cells]
    omega
  generalize (Obj.cells (Builtin.zeroCells (Value.agg #[.int .i64 0, .slice none 0 0]).cells n ++ Builtin.zeroCells (Value.agg #[.int .i64 0, .slice none 0 0]).cells (grownCap w n 0 50 - n)) 50) = ob at *
  have HO : Hid ((w.drew.alloc ob).ownsRow w.heap.size 50 2 (.slice (some ⟨w.heap.size, 0, none⟩) 0 (grownCap w n 0 50)) 0 []) := hO
  have HB : Hid (Below w.heap.size w (w.drew.alloc ob)) := hB
  generalize grownCap w n 0 50 = cap at *
  clear hrun hO hB
  unfold maxLen at hcl
  have hpos : 0 < n := by omega
  go_enter Try.func36, Try.ntmps36
  go_wp2_with (at_builtin; refine Lib.wpList_append_run _ rfl (.tmp 20) (.tmp 21) _ _ rfl _ _ rfl rfl _ _ HR.out ?_)
  go_ret
  exact ⟨HB.out, _, _, rfl, HO.out⟩

/-- so many pieces behind k lists -/
def szP (P Q : List PcV) : Nat → List PcV
  | 0 => []
  | 1 => P
  | _ => P ++ Q

set_option maxHeartbeats 2000000 in
set_option maxRecDepth 100000 in
theorem concatP_any (b : Nat) (a1 a2 : Option Addr) (c1 c2 : Nat) (P Q : List PcV) (w : World) (hb : b < w.heap.size) (hc0 : w.cell? ⟨b, 0, none⟩ = some (.slice a1 P.length c1)) (hc1 : w.cell? ⟨b, 1, none⟩ = some (.slice a2 Q.length c2))
    (hP : PiecesAt w a1 P) (hQ : PiecesAt w a2 Q) (hn : P.length + Q.length ≤ 60) :
    Calls Try.prog 21 #[.slice (some ⟨b, 0, none⟩) 2 2] w fun e w' => Below w.heap.size w w' ∧
      ∃ ao cap, e = .returned (.slice ao (P.length + Q.length) cap) ∧ PiecesAt w' ao (P ++ Q) ∧ P.length + Q.length ≤ cap ∧ cap ≤ maxLen ∧ (∀ b off, ao = some ⟨b, off, none⟩ → w.heap.size ≤ b) := by
  obtain ⟨i0, hi, hz0, hz1, hz2⟩ := info_parts infoPiece
  have HP : Hid (PiecesAt w a1 P) := hP
  have HQ : Hid (PiecesAt w a2 Q) := hQ
  clear hP hQ
  obtain ⟨m1, hm1⟩ : ∃ m, P.length = m := ⟨_, rfl⟩
  obtain ⟨m2, hm2⟩ : ∃ m, Q.length = m := ⟨_, rfl⟩
  rw [hm1] at hc0 hn
  rw [hm2] at hc1 hn
  rw [hm1, hm2]
  have Hm1 : Hid (P.length = m1) := hm1
  have Hm2 : Hid (Q.length = m2) := hm2
  clear hm1 hm2
  go_enter Try.func21, Try.ntmps21
  go_wp2
  go_loop [3, 11] (fun s i => (i = .int .i64 0 ∧ s = .int .i64 0) ∨ (i = .int .i64 1 ∧ s = .int .i64 (m1 : Int)) ∨ (i = .int .i64 2 ∧ s = .int .i64 ((m1 + m2 : Nat) : Int))) (fun _ i => 2 - (intOf i).toNat)
  case atStart => exact Or.inl ⟨rfl, rfl⟩
  case round =>
    rcases hrel with ⟨rfl, rfl⟩ | ⟨rfl, rfl⟩ | ⟨rfl, rfl⟩
    · go_wp2
      go_round
      case rel => exact Or.inr (Or.inl ⟨rfl, by go_num⟩)
      case measure => simp [intOf]
    · go_wp2
      go_round
      case rel => exact Or.inr (Or.inr ⟨rfl, by go_num⟩)
      case measure => simp [intOf]
    · have hg := growP_nil (m1 + m2) (by omega) w
      go_wp2_with fail
      refine hg.mono ?_
      clear hg
      rintro e w1 ⟨hb1, ao1, cap1, rfl, hown⟩
      have HB1 : Hid (Below w.heap.size w w1) := hb1
      have HO1 : Hid (w1.ownsRow w.heap.size 50 2 (.slice ao1 0 cap1) 0 []) := hown
      clear hb1 hown
      go_wp2
      go_loopw [6, 27] (fun s i wr => ∃ k : Nat, k ≤ 2 ∧ i = .int .i64 k ∧ (∃ ao' cap', s = .slice ao' (szP P Q k).length cap' ∧ Hid (wr.ownsRow w.heap.size 50 2 (.slice ao' (szP P Q k).length cap') (szP P Q k).length (flatp (szP P Q k)))) ∧ Hid (Below w.heap.size w wr)) (fun _ i _ => 2 - (intOf i).toNat)
      case atStart => exact ⟨0, by omega, rfl, ⟨_, _, rfl, HO1⟩, HB1⟩
      case round =>
        obtain ⟨k, hk, rfl, ⟨ao', cap', rfl, HO⟩, HB⟩ := hrel
        have hzw := HB.out.size
        by_cases hlt : k < 2
        · obtain ⟨ax, cx, X, hcell, hX, hsz, hlen⟩ : ∃ ax cx X, wr.cell? ⟨b, k, none⟩ = some (.slice ax (X : List PcV).length cx) ∧ PiecesAt wr ax X ∧ szP P Q (k + 1) = szP P Q k ++ X ∧ (szP P Q k).length + X.length ≤ 60 := by
            rcases (by omega : k = 0 ∨ k = 1) with rfl | rfl
            · exact ⟨a1, c1, P, by rw [Hm1.out]; exact later HB.out hc0 hb, HP.out.below HB.out (Nat.le_refl _), rfl, by simp only [szP, List.length_nil]; rw [Hm1.out]; omega⟩
            · exact ⟨a2, c2, Q, by rw [Hm2.out]; exact later HB.out hc1 hb, HQ.out.below HB.out (Nat.le_refl _), rfl, by simp only [szP]; rw [Hm1.out, Hm2.out]; omega⟩
          have HSz : Hid (szP P Q (k + 1) = szP P Q k ++ X) := hsz
          have HS1 : Hid ((szP P Q (k + 1)).length = (szP P Q k).length + X.length) := by rw [Hid, hsz, List.length_append]
          have HS2 : Hid (flatp (szP P Q (k + 1)) = flatp (szP P Q k) ++ flatp X) := by rw [Hid, hsz, flatp_append]
          have HX : Hid (PiecesAt wr ax X) := hX
          have hbr : b < wr.heap.size := by omega
          clear hsz hX
          cases ax with
          | none =>
            have e := HX.out.isNil
            subst e
            simp only [List.length_nil, Nat.add_zero] at HS1 hcell hlen
            simp only [flatp, List.append_nil] at HS2
            generalize (szP P Q k).length = y at *
            go_wp2_with (at_builtin; refine wpList_append_own_nil _ rfl (.tmp 31) (.tmp 32) 44 rfl w.heap.size 50 i0 2 Try.underlying44 hi hz1 _ _ _ rfl HO.out cx rfl ?_)
            go_roundw
            case rel => exact ⟨k + 1, by omega, by go_num, ⟨ao', cap', by rw [HS1.out], by rw [HS1.out, HS2.out]; exact HO⟩, HB⟩
            case measure => simp [intOf]; omega
          | some ad =>
            have HNw : Hid (∀ j u, (flatp X)[j]? = some u → wr.cell? (ad.add j) = some u) := by
              intro j u hj
              have hl := (List.getElem?_eq_some_iff.1 hj).1
              rw [flatp_len] at hl
              obtain ⟨xb, xo, e, _⟩ := HX.out 0 (by omega)
              cases e
              exact HX.out.news j u hj
            have HLn : Hid ((flatp X).length = X.length * 2) := flatp_len X
            have H1 : Hid (∀ u ∈ flatp X, u.oneCell' = true) := flatp_one X
            have HM : Hid ((szP P Q k).length + X.length ≤ maxLen) := by unfold Hid maxLen; omega
            have HM2 : Hid (((szP P Q k).length + X.length) * 32 ≤ 140737488355328) := by unfold Hid; omega
            have HZ : Hid (w.heap.size ≤ wr.heap.size) := hzw
            generalize flatp X = xs at *
            generalize X.length = c at *
            generalize (szP P Q k).length = y at *
            generalize flatp (szP P Q k) = ys at *
            go_wp2_with (at_builtin; refine wpList_append_own _ rfl (.tmp 31) (.tmp 32) 44 rfl w.heap.size 50 i0 _ 2 32 Try.underlying44 hi hz0 hz1 hz2 rfl (by decide) _ _ _ rfl HO.out ad c cx xs rfl HLn.out HNw.out H1.out HM.out HM2.out HZ.out ?_; intro v' w2 hown' hgrow _; obtain ⟨ao2, cap2, rfl⟩ := owns_form hown'; have HO2 : Hid (w2.ownsRow w.heap.size 50 2 (.slice ao2 (y + c) cap2) (y + c) (ys ++ xs)) := hown'; have HG2 : Hid (wr.grownBy w2 (Value.slice ao' y cap').ownBlock) := hgrow; clear hown' hgrow)
            go_roundw
            case rel =>
              refine ⟨k + 1, by omega, by go_num, ⟨ao2, cap2, by rw [HS1.out], by rw [HS1.out, HS2.out]; exact HO2⟩, ?_⟩
              refine HB.out.grown HG2.out HZ.out (fun g hg => ?_)
              rcases HO.out.2 with ⟨e', _⟩ | ⟨g', _, _, e', hB0, _⟩
              · rw [e'] at hg; cases hg
              · rw [e'] at hg; simp only [Value.ownBlock, Option.some.injEq] at hg; omega
            case measure => simp [intOf]; omega
        · have hk2 : k = 2 := by omega
          subst hk2
          have hall : szP P Q 2 = P ++ Q := rfl
          rw [hall] at HO ⊢
          have hA : ∀ i, i < (P ++ Q).length → (atp (P ++ Q) i).At wr := fun i hi => by
            by_cases c : i < P.length
            · obtain ⟨_, _, _, _, _, _, h⟩ := HP.out.below HB.out (Nat.le_refl _) i c
              have e : atp (P ++ Q) i = atp P i := by rw [atp_lt _ _ hi, atp_lt _ _ c, List.getElem_append_left c]
              rw [e]; exact h
            · have hi2 : i - P.length < Q.length := by rw [List.length_append] at hi; omega
              obtain ⟨_, _, _, _, _, _, h⟩ := HQ.out.below HB.out (Nat.le_refl _) (i - P.length) hi2
              have e : atp (P ++ Q) i = atp Q (i - P.length) := by rw [atp_lt _ _ hi, atp_lt _ _ hi2, List.getElem_append_right (by omega)]
              rw [e]; exact h
          obtain ⟨ao3, cap3, ev, hP3, hle3, hmx3, hfr3⟩ := owns_pieces HO.out hA
          obtain ⟨rfl, rfl⟩ : ao' = ao3 ∧ cap' = cap3 := by cases ev; exact ⟨rfl, rfl⟩
          have hl3 : (P ++ Q).length = m1 + m2 := by rw [List.length_append, Hm1.out, Hm2.out]
          rw [hl3] at hle3 ⊢
          have HP3 : Hid (PiecesAt wr ao' (P ++ Q)) := hP3
          have HFr3 : Hid (∀ b off, ao' = some ⟨b, off, none⟩ → w.heap.size ≤ b) := hfr3
          clear hP3 hA ev hl3 hall hfr3
          go_wp2
          go_ret
          exact ⟨HB.out, ao', cap', rfl, HP3.out, hle3, hmx3, HFr3.out⟩

end Go.Proofs.Ythlcbhbjngcnkaa
