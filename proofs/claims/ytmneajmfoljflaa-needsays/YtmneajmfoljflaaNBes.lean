/- Package need: beside: the net for what goes beside the Lows. -/
import Derived.Test.YtmneajmfoljflaaNeedP
import Derived.Test.YtmneajmfoljflaaNChk
import Derived.Test.YtmneajmfoljflaaNet
import Derived.Test.YtmneajmfoljflaaMk
import Derived.Test.YtmneajmfoljflaaOwns
import Derived.Test.YtmneajmfoljflaaFlat
import Derived.Test.YtmneajmfoljflaaOnly
import Derived.Test.YtmneajmfoljflaaAppJoin
import Derived.Test.YtmneajmfoljflaaJoinedC
import Derived.BigRegion
import Derived.Deep.WholeRow
import Derived.Deep.DeepCutAuto
import Derived.Laws.Rows
namespace Go.Proofs.Ytmneajmfoljflaa
open Go.RowKit
set_option linter.unusedVariables false

/-! ### Plain: the arcs that are made so far -/

def upR (l : List Need4) (k : Nat) : List Arc3 := restA (l.take k)
def upX (N : Nat) (l : List Need4) (k : Nat) : List Arc3 := restA l ++ extraK N (brgN l) k
theorem upR_len {l : List Need4} {k : Nat} (hk : k ≤ l.length) : (upR l k).length = k := by unfold upR; rw [restA_len, List.length_take]; omega
theorem upR_flat {l : List Need4} {k : Nat} (hk : k < l.length) : flat (upR l (k + 1)) = flat (upR l k) ++ [.int .i64 (at4 l k).1, .int .i64 (at4 l k).2.1, .int .i64 ((at4 l k).2.2.2 - (at4 l k).2.2.1)] := by
  have e : l.take (k + 1) = l.take k ++ [at4 l k] := by rw [at4_lt l k hk, List.take_add_one, List.getElem?_eq_getElem hk]; rfl
  unfold upR restA
  rw [e, List.map_append, flat_append]; rfl
theorem upX_zero (N : Nat) (l : List Need4) : upX N l 0 = upR l l.length := by unfold upX upR; rw [List.take_length]; exact List.append_nil _
theorem upX_pos {N : Nat} {l : List Need4} {k : Nat} (h : 0 < brgN l k) : (upX N l (k + 1)).length = (upX N l k).length + 1 ∧ flat (upX N l (k + 1)) = flat (upX N l k) ++ [.int .i64 (N : Int), .int .i64 (k : Int), .int .i64 (brgN l k)] := by
  have e : upX N l (k + 1) = upX N l k ++ [((N : Int), (k : Int), brgN l k)] := by
    show restA l ++ (extraK N (brgN l) k ++ extra1 N (brgN l k) k) = _
    unfold extra1
    rw [if_pos h, ← List.append_assoc]; rfl
  rw [e, List.length_append, flat_append]
  exact ⟨rfl, rfl⟩
theorem upX_neg {N : Nat} {l : List Need4} {k : Nat} (h : brgN l k < 0) : (upX N l (k + 1)).length = (upX N l k).length + 1 ∧ flat (upX N l (k + 1)) = flat (upX N l k) ++ [.int .i64 (k : Int), .int .i64 ((N : Int) + 1), .int .i64 (-brgN l k)] := by
  have e : upX N l (k + 1) = upX N l k ++ [((k : Int), (N : Int) + 1, -brgN l k)] := by
    show restA l ++ (extraK N (brgN l) k ++ extra1 N (brgN l k) k) = _
    unfold extra1
    rw [if_neg (by omega), if_pos h, ← List.append_assoc]; rfl
  rw [e, List.length_append, flat_append]
  exact ⟨rfl, rfl⟩
theorem upX_not {N : Nat} {l : List Need4} {k : Nat} (h : brgN l k = 0) : upX N l (k + 1) = upX N l k := by
  show restA l ++ (extraK N (brgN l) k ++ extra1 N (brgN l k) k) = _
  unfold extra1
  rw [h, if_neg (by omega), if_neg (by omega), List.append_nil]; rfl
theorem upX_len (N : Nat) (l : List Need4) (k : Nat) : (upX N l k).length ≤ l.length + k := by
  have := extraK_len N (brgN l) k
  unfold upX
  rw [List.length_append, restA_len]; omega
theorem owed_pos {X : Nat → Int} {k : Nat} (h : 0 < X k) : owedK X (k + 1) = owedK X k + X k := by
  show owedK X k + (if 0 < X k then X k else 0) = _
  rw [if_pos h]
theorem owed_not {X : Nat → Int} {k : Nat} (h : ¬ 0 < X k) : owedK X (k + 1) = owedK X k := by
  show owedK X k + (if 0 < X k then X k else 0) = _
  rw [if_neg h, Int.add_zero]
theorem owed_bound {X : Nat → Int} (h : ∀ v, -9990 ≤ X v ∧ X v ≤ 9990) : ∀ k, 0 ≤ owedK X k ∧ owedK X k ≤ 9990 * (k : Int)
  | 0 => by simp [owedK, sumN]
  | k + 1 => by
    have ih := owed_bound h k
    have h1 := h k
    have e : (9990 : Int) * ((k + 1 : Nat) : Int) = 9990 * k + 9990 := by omega
    show 0 ≤ owedK X k + (if 0 < X k then X k else 0) ∧ owedK X k + (if 0 < X k then X k else 0) ≤ _
    rw [e]
    split <;> omega

/-! ### What lies in memory while the net is made -/

structure BesAt (w0 wr : World) (N : Nat) (S2 S1 : Int) (ao : Option Addr) (m cap : Nat) (X : List Value) (F : Nat → Int) : Prop where
  res : wr.heap[w0.heap.size]? = some (.cells #[.int .i64 0, .int .i64 0, .int .i64 0, .slice none 0 0] 43 (0, 0))
  net : wr.heap[w0.heap.size + 1]? = some (.cells #[.int .i64 S2, .int .i64 (N : Int), .int .i64 S1, .slice ao m cap] 43 (0, 0))
  more : wr.rowIs (w0.heap.size + 2) 3 N (fun j => .int .i64 (F j))
  own : wr.ownsRow (w0.heap.size + 3) 47 3 (.slice ao m cap) m X
  below : Below w0.heap.size w0 wr
  big : w0.heap.size + 2 < wr.heap.size
theorem BesAt.alloc {w0 wr : World} {N : Nat} {S2 S1 : Int} {ao : Option Addr} {m cap : Nat} {X : List Value} {F : Nat → Int} (h : BesAt w0 wr N S2 S1 ao m cap X F) (o : Obj) : BesAt w0 (wr.alloc o) N S2 S1 ao m cap X F :=
  ⟨blk_old h.res o, blk_old h.net o, h.more.alloc o, h.own.alloc o, h.below.alloc (by have := h.big; omega) o, by have := h.big; simp; omega⟩
theorem BesAt.drew {w0 wr : World} {N : Nat} {S2 S1 : Int} {ao : Option Addr} {m cap : Nat} {X : List Value} {F : Nat → Int} (h : BesAt w0 wr N S2 S1 ao m cap X F) : BesAt w0 wr.drew N S2 S1 ao m cap X F :=
  ⟨h.res, h.net, World.rowIs.drew h.more, h.own.drew, h.below.drew, h.big⟩
theorem BesAt.lt {w0 wr : World} {N : Nat} {S2 S1 : Int} {ao : Option Addr} {m cap : Nat} {X : List Value} {F : Nat → Int} (h : BesAt w0 wr N S2 S1 ao m cap X F) : ∀ j, (Value.slice ao m cap).ownBlock = some j → w0.heap.size + 3 ≤ j ∧ j < wr.heap.size := fun j e => h.own.lt j e
theorem BesAt.set {w0 wr : World} {N : Nat} {S2 S1 : Int} {ao : Option Addr} {m cap : Nat} {X : List Value} {F : Nat → Int} (h : BesAt w0 wr N S2 S1 ao m cap X F) (i : Nat) (y : Int) :
    BesAt w0 (wr.setCell ⟨w0.heap.size + 2, i, none⟩ (.int .i64 y)) N S2 S1 ao m cap X (fun j => if j = i then y else F j) := by
  refine ⟨(Below.heap_setCell _ _ _ _ (by show w0.heap.size ≠ w0.heap.size + 2; omega)).trans h.res, (Below.heap_setCell _ _ _ _ (by show w0.heap.size + 1 ≠ w0.heap.size + 2; omega)).trans h.net, (h.more.set i _).congr fun j hj => ?_, owns_set h.own (fun _ _ g c e => by have := (owns_lt h.own g c e).1; show g ≠ w0.heap.size + 2; omega) _, h.below.setCell (by show w0.heap.size ≤ w0.heap.size + 2; omega) _, by have := h.big; simp [World.setCell]; omega⟩
  by_cases e : j = i
  · rw [if_pos e, if_pos e]
  · rw [if_neg e, if_neg e]
theorem BesAt.to {w0 wr : World} {N : Nat} {S2 S1 : Int} {ao : Option Addr} {m cap : Nat} {X : List Value} {F G : Nat → Int} (h : BesAt w0 wr N S2 S1 ao m cap X F) (hF : ∀ j, j < N → F j = G j) : BesAt w0 wr N S2 S1 ao m cap X G :=
  ⟨h.res, h.net, h.more.congr fun j hj => by rw [hF j hj], h.own, h.below, h.big⟩
theorem netB_cell3 {w : World} {p : Nat} {x y z u : Value} {t : TypeId} (h : w.heap[p]? = some (.cells #[x, y, z, u] t (0, 0))) (v : Value) : (w.setCell ⟨p, 3, none⟩ v).heap[p]? = some (.cells #[x, y, z, v] t (0, 0)) := by
  simp [World.setCell, Array.getElem?_modify, h]
/-- an arc appended, its slice not yet stored: what lies as it did -/
theorem BesAt.keeps {w0 wr w5 : World} {N : Nat} {S2 S1 : Int} {ao : Option Addr} {m cap : Nat} {X : List Value} {F : Nat → Int} (h : BesAt w0 wr N S2 S1 ao m cap X F) (hg : wr.grownBy w5 (Value.slice ao m cap).ownBlock) :
    w5.heap[w0.heap.size + 1]? = some (.cells #[.int .i64 S2, .int .i64 (N : Int), .int .i64 S1, .slice ao m cap] 43 (0, 0)) := by
  have hb := h.big
  exact (hg.block _ (by omega) (fun e => by have := (h.lt _ e.symm).1; omega)).trans h.net
theorem BesAt.add {w0 wr w5 : World} {N : Nat} {S2 S1 : Int} {ao ao5 : Option Addr} {m cap cap5 : Nat} {X Y : List Value} {F : Nat → Int} (h : BesAt w0 wr N S2 S1 ao m cap X F) (hg : wr.grownBy w5 (Value.slice ao m cap).ownBlock)
    (hown : w5.ownsRow (w0.heap.size + 3) 47 3 (.slice ao5 (m + 1) cap5) (m + 1) Y) : BesAt w0 (w5.setCell ⟨w0.heap.size + 1, 3, none⟩ (.slice ao5 (m + 1) cap5)) N S2 S1 ao5 (m + 1) cap5 Y F := by
  have hb := h.big
  have hsz := hg.size
  have hne : ∀ p, p < w0.heap.size + 3 → some p ≠ (Value.slice ao m cap).ownBlock := fun p hp e => by have := (h.lt p e.symm).1; omega
  refine ⟨(Below.heap_setCell _ _ _ _ (by show w0.heap.size ≠ w0.heap.size + 1; omega)).trans ((hg.block _ (by omega) (hne _ (by omega))).trans h.res), netB_cell3 (h.keeps hg) _, ?_, owns_set hown (fun _ _ g c e => by have := (owns_lt hown g c e).1; show g ≠ w0.heap.size + 1; omega) _, ?_, by simp [World.setCell]; omega⟩
  · exact (h.more.of_block (hg.block _ (by omega) (hne _ (by omega)))).setOther (by show w0.heap.size + 2 ≠ w0.heap.size + 1; omega) _
  · exact (h.below.grown hg (by omega) (fun j e => by have := (h.lt j e).1; omega)).setCell (by show w0.heap.size ≤ w0.heap.size + 1; omega) _
theorem BesAt.graph {w0 wr : World} {N : Nat} {S2 S1 : Int} {ao : Option Addr} {m cap : Nat} {L : List Arc3} {F : Nat → Int} (h : BesAt w0 wr N S2 S1 ao m cap (flat L) F) (hm : m = L.length) : GraphIn wr ao cap L ∧ ∀ b off, ao = some ⟨b, off, none⟩ → w0.heap.size + 3 ≤ b := by
  have hrow := h.own
  rw [hm] at hrow
  obtain ⟨ao', cap', e, h2, h5, h3, h4⟩ := owns_arcs hrow
  cases e
  refine ⟨⟨h2, h3, h4, fun e => ?_⟩, h5⟩
  rcases hrow.2 with ⟨e1, e2⟩ | ⟨g, _, _, e1, _⟩
  · simp only [Value.slice.injEq] at e1; exact ⟨e2, e1.2.2⟩
  · simp only [Value.slice.injEq] at e1; rw [e] at e1; cases e1.1

theorem infoNetS : (Try.prog.info? 43).map (·.size) = some 4 := by kernel_rfl
/-- a Net stored whole -/
theorem wpList_store_net {ops : Array Oper} {rest : List Oper} {o : Oper} {a : Act} {w : World} {Q : Exit → Act → World → Prop} (hgd : o.guard = none) (x y : Operand) (ho : o.op = .store 43 x y)
    (g : Nat) (o0 o1 o2 o3 : Value) (n s t : Int) (a1 : Option Addr) (l1 c1 : Nat) (hx : a.eval x = .pointer (some ⟨g, 0, none⟩))
    (hy : a.eval y = .agg #[.int .i64 n, .int .i64 s, .int .i64 t, .slice a1 l1 c1]) (hb : w.heap[g]? = some (.cells #[o0, o1, o2, o3] 43 (0, 0)))
    (h : ∀ w', Only g w w' → w'.heap[g]? = some (.cells #[.int .i64 n, .int .i64 s, .int .i64 t, .slice a1 l1 c1] 43 (0, 0)) → w'.heap.size = w.heap.size → wpList Try.prog ops Q rest (a.put o.dst undef) w') : wpList Try.prog ops Q (o :: rest) a w :=
  wpList_store_row hgd 43 x y ho g _ hx hy 43 #[o0, o1, o2, o3] hb infoNetS rfl (by simp [Value.oneCell']) (h _ ⟨rfl, rfl, rfl, by simp, fun k _ hne => setRow_other _ _ _ _ hne⟩ (setRow_heap _ _ _ _ _ _ hb) (by simp))

set_option maxHeartbeats 4000000 in
set_option maxRecDepth 100000 in
theorem beside_any (N : Nat) (ao : Option Addr) (cap : Nat) (l : List Need4) (w : World) (hE : needErr N l = 0) (hX : NeedsIn w ao cap l) :
    Calls Try.prog 21 #[.int .i64 (N : Int), .slice ao l.length cap] w fun e w' => Below w.heap.size w w' ∧
      ∃ a1 c1, e = .returned (.tuple #[.agg #[.int .i64 ((N : Int) + 2), .int .i64 (N : Int), .int .i64 ((N : Int) + 1), .slice a1 (besideL N l).length c1], .int .i64 (owedN N l)]) ∧ GraphIn w' a1 c1 (besideL N l) := by
  obtain ⟨hn, hl30, hall⟩ := need_ok hE
  have hN10 : N ≤ 10 := by omega
  have hmk := make_ints N (by omega)
  obtain ⟨i0, hi, hz0, hz1i, hz2i⟩ := info_parts infoArc
  have HX : Hid (NeedsIn w ao cap l) := hX
  have HAll : Hid (∀ k, k < l.length → (0 ≤ (at4 l k).1 ∧ (at4 l k).1 < (N : Int)) ∧ (0 ≤ (at4 l k).2.1 ∧ (at4 l k).2.1 < (N : Int)) ∧ 0 ≤ (at4 l k).2.2.1 ∧ (at4 l k).2.2.1 ≤ (at4 l k).2.2.2 ∧ (at4 l k).2.2.2 ≤ 333) := hall
  have HMb : Hid (∀ (v : Int) k, k ≤ l.length → -9990 ≤ brgK l k v ∧ brgK l k v ≤ 9990) := fun v k hk => by
    have := brg_bound (fun i hi => by have := hall i hi; omega) v k hk
    omega
  have HOb : Hid (∀ k, k ≤ N → 0 ≤ owedK (brgN l) k ∧ owedK (brgN l) k ≤ 99900) := fun k hk => by
    have := owed_bound (X := brgN l) (fun v => HMb.out v l.length (Nat.le_refl _)) k
    omega
  obtain ⟨S2, hS2⟩ : ∃ S2, (N : Int) + 2 = S2 := ⟨_, rfl⟩
  obtain ⟨S1, hS1⟩ : ∃ S1, (N : Int) + 1 = S1 := ⟨_, rfl⟩
  have wS2 : IntKind.i64.wrap ((N : Int) + 2) = S2 := by rw [IntKind.wrap_i64]; omega
  have wS1 : IntKind.i64.wrap ((N : Int) + 1) = S1 := by rw [IntKind.wrap_i64]; omega
  have HS1 : Hid ((N : Int) + 1 = S1) := hS1
  rw [hS2, hS1]
  clear hE hX hall hn hS2 hS1
  go_enter Try.func21, Try.ntmps21
  go_wp2
  go_loopw [23] (fun i wr => ∃ (k : Nat) (ao2 : Option Addr) (cap2 : Nat), k ≤ l.length ∧ i = .int .i64 k ∧ Hid (BesAt w wr N S2 S1 ao2 k cap2 (flat (upR l k)) (fun j => brgK l k (j : Int)))) (fun i _ => l.length - (intOf i).toNat)
  case atStart =>
    refine ⟨0, none, 0, Nat.zero_le _, rfl, ?_, ?_, ?_, ?_, ?_, ?_⟩
    · exact blk_old (blk_old (blk_new _ _) _) _
    · exact blk_old blk_new1 _
    · have := zeri_row ((w.alloc (.cells #[.int .i64 0, .int .i64 0, .int .i64 0, .slice none 0 0] 43)).alloc (.cells #[.int .i64 S2, .int .i64 (N : Int), .int .i64 S1, .slice none 0 0] 43)) N 3
      simp only [World.size_alloc] at this
      exact this
    · exact World.ownsRow_nil _ _ _ _
    · exact ((below_one w _).alloc (by simp) _).alloc (by simp; omega) _
    · simp
  case round =>
    obtain ⟨k, ao2, cap2, hk, rfl, HBe⟩ := hrel
    have hbig := HBe.out.big
    have hB := HBe.out.below
    have hb1 : w.heap.size + 1 < wr.heap.size := by omega
    have hb0 : w.heap.size < wr.heap.size := by omega
    obtain ⟨s0, s1, s2, s3⟩ := blk4 HBe.out.net
    by_cases hlt : k < l.length
    · have HK : Hid (k + 1 ≤ l.length) := hlt
      obtain ⟨b, off, rfl, hbb, c0, c1, c2, c3⟩ := HX.out.needs.below hB (Nat.le_refl _) k hlt
      have HFl : Hid (flat (upR l (k + 1)) = flat (upR l k) ++ [.int .i64 (at4 l k).1, .int .i64 (at4 l k).2.1, .int .i64 ((at4 l k).2.2.2 - (at4 l k).2.2.1)]) := upR_flat hlt
      have HMo : Hid (∀ v : Int, brgK l (k + 1) v = brgK l k v + ((if (at4 l k).2.1 = v then (at4 l k).2.2.1 else 0) - (if (at4 l k).1 = v then (at4 l k).2.2.1 else 0))) := fun v => rfl
      obtain ⟨⟨p1, p2⟩, ⟨p3, p4⟩, p5, p6, p7⟩ := HAll.out k hlt
      generalize (at4 l k).1 = p at *
      generalize (at4 l k).2.1 = q at *
      generalize (at4 l k).2.2.1 = lo at *
      generalize (at4 l k).2.2.2 = c at *
      obtain ⟨p, rfl⟩ := Int.eq_ofNat_of_zero_le p1
      obtain ⟨q, rfl⟩ := Int.eq_ofNat_of_zero_le p3
      obtain ⟨d, hd⟩ : ∃ d : Int, c - lo = d := ⟨_, rfl⟩
      have wd : IntKind.i64.wrap (c - lo) = d := by rw [IntKind.wrap_i64]; omega
      rw [hd] at HFl
      have hpN : p < N := by omega
      have hqN : q < N := by omega
      clear p1 p2 p3 p4 hd hB
      have HO1 : Hid (∀ cv ∈ [Value.int .i64 (p : Int), .int .i64 (q : Int), .int .i64 d], cv.oneCell' = true) := by intro cv hu; simp at hu; rcases hu with rfl | rfl | rfl <;> rfl
      have HK1 : Hid (k + 1 ≤ maxLen) := by rw [Hid]; unfold maxLen; omega
      have HK2 : Hid ((k + 1) * 24 ≤ 140737488355328) := by rw [Hid]; omega
      have HBa : Hid (BesAt w ((wr.alloc (.cells #[.int .i64 (p : Int), .int .i64 (q : Int), .int .i64 lo, .int .i64 c] 36)).alloc (.cells #[.int .i64 (p : Int), .int .i64 (q : Int), .int .i64 d] 47)) N S2 S1 ao2 k cap2 (flat (upR l k)) (fun j => brgK l k (j : Int))) := (HBe.out.alloc _).alloc _
      have HK3 : Hid (w.heap.size + 3 ≤ ((wr.alloc (.cells #[.int .i64 (p : Int), .int .i64 (q : Int), .int .i64 lo, .int .i64 c] 36)).alloc (.cells #[.int .i64 (p : Int), .int .i64 (q : Int), .int .i64 d] 47)).heap.size) := by rw [Hid]; simp; omega
      have HNb : Hid (((wr.alloc (.cells #[.int .i64 (p : Int), .int .i64 (q : Int), .int .i64 lo, .int .i64 c] 36)).alloc (.cells #[.int .i64 (p : Int), .int .i64 (q : Int), .int .i64 d] 47)).heap[wr.heap.size]? = some (.cells #[.int .i64 (p : Int), .int .i64 (q : Int), .int .i64 lo, .int .i64 c] 36 (0, 0))) := blk_old (blk_new _ _) _
      have HLb : Hid (∀ j, (Value.slice ao2 k cap2).ownBlock = some j → j < wr.heap.size) := fun j e => (HBe.out.lt j e).2
      go_upto_region 6 with fail
      go_cut [9, 23] (fun p9 i wx => p9 = .pointer (some ⟨wr.heap.size, 0, none⟩) ∧ i = .int .i64 k ∧ ∃ (ao5 : Option Addr) (cap5 : Nat), Hid (BesAt w wx N S2 S1 ao5 (k + 1) cap5 (flat (upR l (k + 1))) (fun j => brgK l k (j : Int))) ∧
        Hid (wx.heap[wr.heap.size]? = some (.cells #[.int .i64 (p : Int), .int .i64 (q : Int), .int .i64 lo, .int .i64 c] 36 (0, 0))))
      case first =>
        go_wp2_with (at_builtin; refine wpList_append_own _ rfl (.tmp 28) (.tmp 39) 41 rfl (w.heap.size + 3) 47 i0 _ 3 24 Try.underlying41 hi hz0 hz1i hz2i rfl (by decide) (.slice ao2 k cap2) k (flat (upR l k)) rfl HBa.out.own ⟨wr.heap.size + 1, 0, none⟩ 1 1 [.int .i64 (p : Int), .int .i64 (q : Int), .int .i64 d] rfl rfl (news3 (t := 47) blk_new1) HO1.out HK1.out HK2.out HK3.out ?_; intro v' w5 hown' hgrow _; obtain ⟨ao5, cap5, rfl⟩ := owns_shape hown'; have xO := HBa.out.keeps hgrow; have HAd : Hid (BesAt w (w5.setCell ⟨w.heap.size + 1, 3, none⟩ (.slice ao5 (k + 1) cap5)) N S2 S1 ao5 (k + 1) cap5 (flat (upR l (k + 1))) (fun j => brgK l k (j : Int))) := (by rw [HFl.out]; exact HBa.out.add hgrow hown'); have HNb5 : Hid ((w5.setCell ⟨w.heap.size + 1, 3, none⟩ (.slice ao5 (k + 1) cap5)).heap[wr.heap.size]? = some (.cells #[.int .i64 (p : Int), .int .i64 (q : Int), .int .i64 lo, .int .i64 c] 36 (0, 0))) := (Below.heap_setCell _ _ _ _ (by show wr.heap.size ≠ w.heap.size + 1; omega)).trans ((hgrow.block _ (by simp; omega) (fun e => by have := HLb.out _ e.symm; omega)).trans HNb.out); obtain ⟨t0, t1, t2, t3⟩ := blk4 xO; obtain ⟨z0, z1, z2, z3⟩ := blk4z xO; clear hown' hgrow xO)
        go_meet
        case rel => exact ⟨rfl, rfl, ao5, cap5, HAd, HNb5⟩
      case rest =>
        obtain ⟨rfl, rfl, ao5, cap5, HBc, HNc⟩ := hcut
        have hbig2 := HBc.out.big
        have hwb : wr.heap.size < wc.heap.size := (Array.getElem?_eq_some_iff.1 HNc.out).1
        have hbc1 : w.heap.size + 1 < wc.heap.size := by omega
        have hbc0 : w.heap.size < wc.heap.size := by omega
        have hne0 : wr.heap.size ≠ w.heap.size + 2 := by omega
        have hrow := HBc.out.more
        obtain ⟨n0, n1, n2, n3⟩ := blk4 HNc.out
        have r0 := hrow.cell (i := p) hpN
        have r1 := hrow.cell (i := q) hqN
        have f0 := hrow.frozen p
        have f1 := hrow.frozen q
        have hD0 := HMb.out p k hk
        have hD1 := HMb.out q k hk
        have hxz : q = p → brgK l k (q : Int) = brgK l k (p : Int) := fun e => by rw [e]
        have HXx : Hid (brgK l k (p : Int) = brgK l k (p : Int)) := rfl
        obtain ⟨x, hx⟩ : ∃ x, brgK l k (p : Int) = x := ⟨_, rfl⟩
        obtain ⟨z, hzz⟩ : ∃ z, brgK l k (q : Int) = z := ⟨_, rfl⟩
        rw [hx] at r0 hD0 hxz
        rw [hzz] at r1 hD1 hxz
        have HXx : Hid (brgK l k (p : Int) = x) := hx
        have HZz : Hid (brgK l k (q : Int) = z) := hzz
        clear hx hzz hrow s0 s1 s2 s3 c0 c1 c2 c3 HBa HNb HLb HBe hbb HFl HO1 HK1 HK2 HK3
        have w1 : IntKind.i64.wrap (z + lo) = z + lo := by rw [IntKind.wrap_i64]; omega
        have w2 : IntKind.i64.wrap (x - lo) = x - lo := by rw [IntKind.wrap_i64]; omega
        by_cases e : q = p
        · subst e
          obtain rfl := hxz rfl
          have w3 : IntKind.i64.wrap (z + lo - lo) = z + lo - lo := by rw [IntKind.wrap_i64]; omega
          go_wp2
          go_region
          go_wp2
          go_region
          go_wp2
          go_roundw
          case rel =>
            refine ⟨k + 1, ao5, cap5, HK.out, by go_num, (((HBc.out.set q (z + lo)).set q z).drew.drew).to fun j hj => ?_⟩
            rw [HMo.out]
            by_cases ej : j = q
            · subst ej
              rw [if_pos rfl, if_pos rfl, HZz.out]; omega
            · rw [if_neg ej, if_neg ej, if_neg (show ¬ (q : Int) = (j : Int) by omega)]; omega
          case measure => have := HK.out; simp [intOf]; omega
        · go_wp2
          go_region
          go_wp2
          go_region
          go_wp2
          go_roundw
          case rel =>
            refine ⟨k + 1, ao5, cap5, HK.out, by go_num, (((HBc.out.set q (z + lo)).set p (x - lo)).drew.drew).to fun j hj => ?_⟩
            rw [HMo.out]
            by_cases ej : j = p
            · subst ej
              rw [if_pos rfl, HXx.out, if_neg (show ¬ (q : Int) = (j : Int) by omega), if_pos rfl]; omega
            · rw [if_neg ej, if_neg (show ¬ (p : Int) = (j : Int) by omega)]
              by_cases eq : j = q
              · subst eq
                rw [if_pos rfl, HZz.out, if_pos rfl]; omega
              · rw [if_neg eq, if_neg (show ¬ (q : Int) = (j : Int) by omega)]; omega
          case measure => have := HK.out; simp [intOf]; omega
    · have hkk : l.length = k := by omega
      subst hkk
      have HBl : Hid (BesAt w wr N S2 S1 ao2 l.length cap2 (flat (upX N l 0)) (brgN l)) := by rw [Hid, upX_zero]; exact HBe.out
      have HLen0 : Hid (l.length = (upX N l 0).length) := by rw [Hid, upX_zero, upR_len (Nat.le_refl _)]
      clear HBe hB s0 s1 s2 s3
      obtain ⟨s0, s1, s2, s3⟩ := blk4 HBl.out.net
      have hrw := HBl.out.more.lt
      go_wp2
      go_loopw [10, 63] (fun y i wx => ∃ (k : Nat) (ao3 : Option Addr) (m cap3 : Nat), k ≤ N ∧ i = .int .i64 k ∧ y = .int .i64 (owedK (brgN l) k) ∧ Hid (m = (upX N l k).length) ∧ Hid (BesAt w wx N S2 S1 ao3 m cap3 (flat (upX N l k)) (brgN l))) (fun _ i _ => N - (intOf i).toNat)
      case atStart => exact ⟨0, ao2, l.length, cap2, Nat.zero_le _, rfl, rfl, HLen0, HBl⟩
      case round =>
        obtain ⟨k, ao3, m, cap3, hk, rfl, rfl, HM, HBx⟩ := hrel
        have hbig := HBx.out.big
        have hb1 : w.heap.size + 1 < wr.heap.size := by omega
        have hb0 : w.heap.size < wr.heap.size := by omega
        clear s0 s1 s2 s3
        obtain ⟨s0, s1, s2, s3⟩ := blk4 HBx.out.net
        have hml : m ≤ l.length + k := by rw [HM.out]; exact upX_len N l k
        obtain ⟨o, ho⟩ : ∃ o, owedK (brgN l) k = o := ⟨_, rfl⟩
        rw [ho]
        by_cases hlt : k < N
        · have HK : Hid (k + 1 ≤ N) := hlt
          have hrow := HBx.out.more
          have r0 := hrow.cell (i := k) hlt
          have hxb := HMb.out (k : Int) l.length (Nat.le_refl _)
          have hyb := HOb.out k hk
          rw [ho] at hyb
          have HPos : Hid (0 < brgN l k → ((upX N l (k + 1)).length = (upX N l k).length + 1 ∧ flat (upX N l (k + 1)) = flat (upX N l k) ++ [.int .i64 (N : Int), .int .i64 (k : Int), .int .i64 (brgN l k)]) ∧ owedK (brgN l) (k + 1) = o + brgN l k) := fun h => ⟨upX_pos h, by rw [owed_pos h, ho]⟩
          have HNeg : Hid (brgN l k < 0 → ((upX N l (k + 1)).length = (upX N l k).length + 1 ∧ flat (upX N l (k + 1)) = flat (upX N l k) ++ [.int .i64 (k : Int), .int .i64 S1, .int .i64 (-brgN l k)]) ∧ owedK (brgN l) (k + 1) = o) := fun h => ⟨by rw [← HS1.out]; exact upX_neg h, by rw [owed_not (by omega), ho]⟩
          have HNot : Hid (brgN l k = 0 → upX N l (k + 1) = upX N l k ∧ owedK (brgN l) (k + 1) = o) := fun h => ⟨upX_not h, by rw [owed_not (by omega), ho]⟩
          have hxb' : -9990 ≤ brgN l k ∧ brgN l k ≤ 9990 := hxb
          obtain ⟨x, hx⟩ : ∃ x, brgN l k = x := ⟨_, rfl⟩
          rw [hx] at r0 hxb' HPos HNeg HNot
          clear hxb hrow hx ho
          have HK1 : Hid (m + 1 ≤ maxLen) := by rw [Hid]; unfold maxLen; omega
          have HK2 : Hid ((m + 1) * 24 ≤ 140737488355328) := by rw [Hid]; omega
          by_cases c1 : 0 < x
          · obtain ⟨⟨hL, hF⟩, hOw⟩ := HPos.out c1
            have HFl : Hid (flat (upX N l (k + 1)) = flat (upX N l k) ++ [.int .i64 (N : Int), .int .i64 (k : Int), .int .i64 x]) := hF
            have HL : Hid (m + 1 = (upX N l (k + 1)).length) := by rw [Hid, hL, HM.out]
            have HOw : Hid (owedK (brgN l) (k + 1) = o + x) := hOw
            have g1 : decide (x > 0) = true := decide_eq_true c1
            have g2 : decide (0 < x) = true := decide_eq_true c1
            have g3 : decide (x < 0) = false := decide_eq_false (by omega)
            have wo : IntKind.i64.wrap (o + x) = o + x := by rw [IntKind.wrap_i64]; omega
            clear hL hF hOw HPos HNeg HNot
            have HO1 : Hid (∀ cv ∈ [Value.int .i64 (N : Int), .int .i64 (k : Int), .int .i64 x], cv.oneCell' = true) := by intro cv hu; simp at hu; rcases hu with rfl | rfl | rfl <;> rfl
            have HBa : Hid (BesAt w (wr.alloc (.cells #[.int .i64 (N : Int), .int .i64 (k : Int), .int .i64 x] 47)) N S2 S1 ao3 m cap3 (flat (upX N l k)) (brgN l)) := HBx.out.alloc _
            have HK3 : Hid (w.heap.size + 3 ≤ (wr.alloc (.cells #[.int .i64 (N : Int), .int .i64 (k : Int), .int .i64 x] 47)).heap.size) := by rw [Hid]; simp; omega
            go_wp2_with (at_builtin; refine wpList_append_own _ rfl (.tmp 71) (.tmp 77) 41 rfl (w.heap.size + 3) 47 i0 _ 3 24 Try.underlying41 hi hz0 hz1i hz2i rfl (by decide) (.slice ao3 m cap3) m (flat (upX N l k)) rfl HBa.out.own ⟨wr.heap.size, 0, none⟩ 1 1 [.int .i64 (N : Int), .int .i64 (k : Int), .int .i64 x] rfl rfl (news3 (t := 47) (blk_new _ _)) HO1.out HK1.out HK2.out HK3.out ?_; intro v' w5 hown' hgrow _; obtain ⟨ao5, cap5, rfl⟩ := owns_shape hown'; have xO := HBa.out.keeps hgrow; have HAd : Hid (BesAt w (w5.setCell ⟨w.heap.size + 1, 3, none⟩ (.slice ao5 (m + 1) cap5)) N S2 S1 ao5 (m + 1) cap5 (flat (upX N l (k + 1))) (brgN l)) := (by rw [HFl.out]; exact HBa.out.add hgrow hown'); obtain ⟨t0, t1, t2, t3⟩ := blk4 xO; obtain ⟨z0, z1, z2, z3⟩ := blk4z xO; clear hown' hgrow xO)
            go_roundw
            case rel => exact ⟨k + 1, ao5, m + 1, cap5, HK.out, by go_num, by rw [HOw.out], HL, HAd⟩
            case measure => have := HK.out; simp [intOf]; omega
          · by_cases c2 : x < 0
            · obtain ⟨⟨hL, hF⟩, hOw⟩ := HNeg.out c2
              have HOw : Hid (owedK (brgN l) (k + 1) = o) := hOw
              have HL : Hid (m + 1 = (upX N l (k + 1)).length) := by rw [Hid, hL, HM.out]
              have g1 : decide (x > 0) = false := decide_eq_false c1
              have g2 : decide (0 < x) = false := decide_eq_false c1
              have g3 : decide (x < 0) = true := decide_eq_true c2
              obtain ⟨u, hu⟩ : ∃ u, -x = u := ⟨_, rfl⟩
              have wu : IntKind.i64.wrap (-x) = u := by rw [IntKind.wrap_i64]; omega
              rw [hu] at hF
              have HFl : Hid (flat (upX N l (k + 1)) = flat (upX N l k) ++ [.int .i64 (k : Int), .int .i64 S1, .int .i64 u]) := hF
              clear hL hF hOw HPos HNeg HNot hu
              have HO1 : Hid (∀ cv ∈ [Value.int .i64 (k : Int), .int .i64 S1, .int .i64 u], cv.oneCell' = true) := by intro cv hu; simp at hu; rcases hu with rfl | rfl | rfl <;> rfl
              have HBa : Hid (BesAt w (wr.alloc (.cells #[.int .i64 (k : Int), .int .i64 S1, .int .i64 u] 47)) N S2 S1 ao3 m cap3 (flat (upX N l k)) (brgN l)) := HBx.out.alloc _
              have HK3 : Hid (w.heap.size + 3 ≤ (wr.alloc (.cells #[.int .i64 (k : Int), .int .i64 S1, .int .i64 u] 47)).heap.size) := by rw [Hid]; simp; omega
              go_wp2_with (at_builtin; refine wpList_append_own _ rfl (.tmp 86) (.tmp 93) 41 rfl (w.heap.size + 3) 47 i0 _ 3 24 Try.underlying41 hi hz0 hz1i hz2i rfl (by decide) (.slice ao3 m cap3) m (flat (upX N l k)) rfl HBa.out.own ⟨wr.heap.size, 0, none⟩ 1 1 [.int .i64 (k : Int), .int .i64 S1, .int .i64 u] rfl rfl (news3 (t := 47) (blk_new _ _)) HO1.out HK1.out HK2.out HK3.out ?_; intro v' w5 hown' hgrow _; obtain ⟨ao5, cap5, rfl⟩ := owns_shape hown'; have xO := HBa.out.keeps hgrow; have HAd : Hid (BesAt w (w5.setCell ⟨w.heap.size + 1, 3, none⟩ (.slice ao5 (m + 1) cap5)) N S2 S1 ao5 (m + 1) cap5 (flat (upX N l (k + 1))) (brgN l)) := (by rw [HFl.out]; exact HBa.out.add hgrow hown'); obtain ⟨t0, t1, t2, t3⟩ := blk4 xO; obtain ⟨z0, z1, z2, z3⟩ := blk4z xO; clear hown' hgrow xO)
              go_roundw
              case rel => exact ⟨k + 1, ao5, m + 1, cap5, HK.out, by go_num, by rw [HOw.out], HL, HAd⟩
              case measure => have := HK.out; simp [intOf]; omega
            · have hx0 : x = 0 := by omega
              obtain ⟨hU, hOw⟩ := HNot.out hx0
              subst hx0
              have HOw : Hid (owedK (brgN l) (k + 1) = o) := hOw
              have HU : Hid (upX N l (k + 1) = upX N l k) := hU
              clear hU hOw HPos HNeg HNot c1 c2
              go_wp2
              go_roundw
              case rel => exact ⟨k + 1, ao3, m, cap3, HK.out, by go_num, by rw [HOw.out], by rw [HU.out]; exact HM, by rw [HU.out]; exact HBx⟩
              case measure => have := HK.out; simp [intOf]; omega
        · have hkk : N = k := by omega
          subst hkk
          have HOo : Hid (owedN N l = o) := ho
          obtain ⟨HGr, hBo⟩ := HBx.out.graph HM.out
          have hA3 : GraphIn wr ao3 cap3 (besideL N l) := HGr
          have HA3 : Hid (GraphIn wr ao3 cap3 (besideL N l)) := hA3
          have HLen : Hid (m = (besideL N l).length) := HM
          have HBo : Hid (∀ b off, ao3 = some ⟨b, off, none⟩ → w.heap.size + 3 ≤ b) := hBo
          have HZ : Hid (wr.heap[w.heap.size]? = some (.cells #[.int .i64 0, .int .i64 0, .int .i64 0, .slice none 0 0] 43 (0, 0))) := HBx.out.res
          have HBw : Hid (Below w.heap.size w wr) := HBx.out.below
          clear ho HGr hBo hA3
          go_wp2_with (refine wpList_store_net rfl (.tmp 4) (.tmp 97) rfl w.heap.size _ _ _ _ S2 (N : Int) S1 ao3 m cap3 rfl rfl HZ.out ?_; intro w4 ho4 hb4 hs4)
          obtain ⟨q0, q1, q2, q3⟩ := blk4 hb4
          (try simp only [Exit.inBlock, Exit.then])
          refine bodyPost_ret (v := .tuple #[.agg #[.int .i64 S2, .int .i64 (N : Int), .int .i64 S1, .slice ao3 m cap3], .int .i64 o]) (by simp [results, Try.results21, go_sem, q0, q1, q2, q3]) rfl ⟨?_, ao3, cap3, by rw [HOo.out, HLen.out], ?_⟩
          · exact HBw.out.trans (ho4.below (Nat.le_refl _) (by omega))
          · exact ⟨ho4.arcs HA3.out.arcs (fun c off e => by have := HBo.out c off e; omega), HA3.out.le, HA3.out.max, HA3.out.nil⟩

end Go.Proofs.Ytmneajmfoljflaa
