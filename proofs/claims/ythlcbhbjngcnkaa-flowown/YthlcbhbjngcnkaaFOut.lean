/- Package flow: pieces taken out until nothing goes from a node any more. -/
import Derived.Maps.AppendAt
import Derived.Maps.Range
import Derived.Test.YthlcbhbjngcnkaaFFol
import Derived.Test.YthlcbhbjngcnkaaAppJoin
namespace Go.Proofs.Ythlcbhbjngcnkaa
open Go.RowKit
set_option linter.unusedVariables false

/-- two lists of pieces, in memory that a call has made itself -/
structure Two (w : World) (B : Nat) (a1 : Option Addr) (c1 : Nat) (W : List PcV) (a2 : Option Addr) (c2 : Nat) (R : List PcV) : Prop where
  ways : w.ownsRow B 50 2 (.slice a1 W.length c1) W.length (flatp W)
  rounds : w.ownsRow B 50 2 (.slice a2 R.length c2) R.length (flatp R)
  apart : ∀ g, (Value.slice a1 W.length c1).ownBlock = some g → (Value.slice a2 R.length c2).ownBlock ≠ some g
  rows : ∀ p ∈ W ++ R, NumRow w B p.ao p.cap p.k

theorem owns_keep {w w' : World} {B : Nat} {t : TypeId} {s : Nat} {v : Value} {n : Nat} {xs : List Value} (h : w.ownsRow B t s v n xs) (hk : ∀ g o t, B ≤ g → w.heap[g]? = some (.cells o t (0, 0)) → w'.heap[g]? = some (.cells o t (0, 0))) : w'.ownsRow B t s v n xs := by
  obtain ⟨h1, h2⟩ := h
  refine ⟨h1, ?_⟩
  rcases h2 with h2 | ⟨g, cap, cur, hv, hg, hh, r⟩
  · exact Or.inl h2
  · exact Or.inr ⟨g, cap, cur, hv, hg, hk g _ _ hg hh, r⟩
theorem Two.none (w : World) (B : Nat) : Two w B none 0 [] none 0 [] :=
  ⟨World.ownsRow_nil _ _ _ _, World.ownsRow_nil _ _ _ _, (fun g e => by cases e), fun p hp => absurd hp (List.not_mem_nil)⟩
theorem Two.keep {w w' : World} {B : Nat} {a1 a2 : Option Addr} {c1 c2 : Nat} {W R : List PcV} (h : Two w B a1 c1 W a2 c2 R) (hk : ∀ g o t, B ≤ g → w.heap[g]? = some (.cells o t (0, 0)) → w'.heap[g]? = some (.cells o t (0, 0))) : Two w' B a1 c1 W a2 c2 R :=
  ⟨owns_keep h.ways hk, owns_keep h.rounds hk, h.apart, fun p hp => (h.rows p hp).of fun g o hg ho => hk g o _ hg ho⟩
theorem Two.weaken {w : World} {B C : Nat} {a1 a2 : Option Addr} {c1 c2 : Nat} {W R : List PcV} (h : Two w B a1 c1 W a2 c2 R) (hC : C ≤ B) : Two w C a1 c1 W a2 c2 R :=
  ⟨owns_weaken h.ways hC, owns_weaken h.rounds hC, h.apart, fun p hp => (h.rows p hp).weaken hC⟩

theorem flatp_snoc (P : List PcV) (p : PcV) : flatp (P ++ [p]) = flatp P ++ [.int .i64 p.a, .slice p.ao p.k.length p.cap] := by rw [flatp_append]; rfl
/-- integers stay where they are while a list of pieces grows -/
theorem grown_ints {w w' : World} {B n : Nat} {v : Value} {xs : List Value} (hown : w.ownsRow B 50 2 v n xs) (hg : w.grownBy w' v.ownBlock) {g : Nat} {o : Array Value} (h : w.heap[g]? = some (.cells o 3 (0, 0))) : w'.heap[g]? = some (.cells o 3 (0, 0)) := by
  rw [hg.block g (Array.getElem?_eq_some_iff.1 h).1 ?_]
  · exact h
  · intro e
    rcases hown.2 with ⟨rfl, _⟩ | ⟨g', cap, cur, rfl, _, hh, _⟩
    · cases e
    · simp only [Value.ownBlock, Option.some.injEq] at e
      subst e
      rw [h] at hh
      simp at hh
theorem Two.addR {w w' : World} {B : Nat} {a1 a2 a3 : Option Addr} {c1 c2 c3 : Nat} {W R : List PcV} (h : Two w B a1 c1 W a2 c2 R) {p : PcV} (hp : NumRow w B p.ao p.cap p.k)
    (hown : w'.ownsRow B 50 2 (.slice a3 (R.length + 1) c3) (R.length + 1) (flatp R ++ [.int .i64 p.a, .slice p.ao p.k.length p.cap])) (hg : w.grownBy w' (Value.slice a2 R.length c2).ownBlock)
    (hl : (Value.slice a3 (R.length + 1) c3).ownBlock = (Value.slice a2 R.length c2).ownBlock ∨ (Value.slice a3 (R.length + 1) c3).ownBlock = some w.heap.size) : Two w' B a1 c1 W a3 c3 (R ++ [p]) := by
  have hlen : (R ++ [p]).length = R.length + 1 := by rw [List.length_append, List.length_singleton]
  refine ⟨h.ways.kept hg (Classical.or_iff_not_imp_left.2 fun hn e => ?_), by rw [hlen, flatp_snoc]; exact hown, fun g e e2 => ?_, fun q hq => ?_⟩
  · cases e1 : (Value.slice a1 W.length c1).ownBlock with
    | none => exact hn e1
    | some g => exact h.apart g e1 (by rw [← e]; exact e1)
  · rw [hlen] at e2
    rcases hl with hl | hl
    · exact h.apart g e (by rw [← hl]; exact e2)
    · rw [hl] at e2
      have := (h.ways.lt g e).2
      cases e2
      omega
  · have hq' : NumRow w B q.ao q.cap q.k := by
      rcases List.mem_append.1 hq with hq | hq
      · exact h.rows q (List.mem_append_left _ hq)
      · rcases List.mem_append.1 hq with hq | hq
        · exact h.rows q (List.mem_append_right _ hq)
        · rw [List.mem_singleton] at hq; subst hq; exact hp
    exact hq'.of fun g o hB ho => grown_ints h.rounds hg ho
theorem Two.addRs {w w' : World} {B : Nat} {a1 a2 a3 : Option Addr} {c1 c2 c3 : Nat} {W R Q : List PcV} (h : Two w B a1 c1 W a2 c2 R) (hp : ∀ p ∈ Q, NumRow w B p.ao p.cap p.k)
    (hown : w'.ownsRow B 50 2 (.slice a3 (R.length + Q.length) c3) (R.length + Q.length) (flatp R ++ flatp Q)) (hg : w.grownBy w' (Value.slice a2 R.length c2).ownBlock)
    (hl : (Value.slice a3 (R.length + Q.length) c3).ownBlock = (Value.slice a2 R.length c2).ownBlock ∨ (Value.slice a3 (R.length + Q.length) c3).ownBlock = some w.heap.size) : Two w' B a1 c1 W a3 c3 (R ++ Q) := by
  have hlen : (R ++ Q).length = R.length + Q.length := List.length_append
  refine ⟨h.ways.kept hg (Classical.or_iff_not_imp_left.2 fun hn e => ?_), by rw [hlen, flatp_append]; exact hown, fun g e e2 => ?_, fun q hq => ?_⟩
  · cases e1 : (Value.slice a1 W.length c1).ownBlock with
    | none => exact hn e1
    | some g => exact h.apart g e1 (by rw [← e]; exact e1)
  · rw [hlen] at e2
    rcases hl with hl | hl
    · exact h.apart g e (by rw [← hl]; exact e2)
    · rw [hl] at e2
      have := (h.ways.lt g e).2
      cases e2
      omega
  · have hq' : NumRow w B q.ao q.cap q.k := by
      rcases List.mem_append.1 hq with hq | hq
      · exact h.rows q (List.mem_append_left _ hq)
      · rcases List.mem_append.1 hq with hq | hq
        · exact h.rows q (List.mem_append_right _ hq)
        · exact hp q hq
    exact hq'.of fun g o hB ho => grown_ints h.rounds hg ho
theorem Two.turn {w : World} {B : Nat} {a1 a2 : Option Addr} {c1 c2 : Nat} {W R : List PcV} (h : Two w B a1 c1 W a2 c2 R) : Two w B a2 c2 R a1 c1 W :=
  ⟨h.rounds, h.ways, fun g e1 e2 => h.apart g e2 e1, fun p hp => h.rows p (List.mem_append.2 (List.mem_append.1 hp).symm)⟩
theorem Two.addW {w w' : World} {B : Nat} {a1 a2 a3 : Option Addr} {c1 c2 c3 : Nat} {W R : List PcV} (h : Two w B a1 c1 W a2 c2 R) {p : PcV} (hp : NumRow w B p.ao p.cap p.k)
    (hown : w'.ownsRow B 50 2 (.slice a3 (W.length + 1) c3) (W.length + 1) (flatp W ++ [.int .i64 p.a, .slice p.ao p.k.length p.cap])) (hg : w.grownBy w' (Value.slice a1 W.length c1).ownBlock)
    (hl : (Value.slice a3 (W.length + 1) c3).ownBlock = (Value.slice a1 W.length c1).ownBlock ∨ (Value.slice a3 (W.length + 1) c3).ownBlock = some w.heap.size) : Two w' B a3 c3 (W ++ [p]) a2 c2 R :=
  (h.turn.addR hp hown hg hl).turn

theorem owns_own {w : World} {B n s : Nat} {t : TypeId} {v : Value} {xs : List Value} (h : w.ownsRow B t s v n xs) : ∀ j, v.ownBlock = some j → B ≤ j := fun j e => (h.lt j e).1
/-- left's own block -/
def lb (af : Option Addr) : Option Nat := (Value.slice af 0 0).ownBlock
theorem OwnIs.keep {w w' : World} {B : Nat} {af : Option Addr} {cap : Nat} {l : List Int} (h : OwnIs w B af cap l) (hk : ∀ (g : Nat) (o : Array Value), w.heap[g]? = some (.cells o 3 (0, 0)) → w'.heap[g]? = some (.cells o 3 (0, 0))) : OwnIs w' B af cap l := by
  rcases h with h | ⟨g, e, hB, hc, f, ⟨cur, hg, r⟩, h2⟩
  · exact Or.inl h
  · exact Or.inr ⟨g, e, hB, hc, f, ⟨cur, hk g _ hg, r⟩, h2⟩
theorem OwnIs.lt {w : World} {B : Nat} {af : Option Addr} {cap : Nat} {l : List Int} (h : OwnIs w B af cap l) : ∀ j, lb af = some j → B ≤ j ∧ j < w.heap.size := by
  intro j e
  rcases h with ⟨rfl, _⟩ | ⟨g, rfl, hB, hc, hO⟩
  · cases e
  · simp only [lb, Value.ownBlock, Option.some.injEq] at e
    subst e
    exact ⟨hB, hO.lt⟩

theorem nodup_few {K : List Nat} {m : Nat} (hn : K.Nodup) (h : ∀ k ∈ K, k < m) : K.length ≤ m := by
  have := List.Nodup.length_le_of_subset (l₂ := List.range m) hn (fun x hx => List.mem_range.2 (h x hx))
  simpa using this

/-- what takeOut answers -/
def OutAns (l : List Arc3) (s : Int) (F0 : List Int) (B : Nat) (af : Option Addr) (capf : Nat) (w : World) (e : Ending) (w' : World) : Prop :=
  ∃ (F : List Int) (W R : List PcV) (a1 : Option Addr) (c1 : Nat) (a2 : Option Addr) (c2 : Nat), e = .returned (.tuple #[.slice a1 W.length c1, .slice a2 R.length c2]) ∧ Taken l s F0 F (W.map PcV.pc) (R.map PcV.pc) ∧ Dead l F s ∧
    OwnIs w' B af capf F ∧ Two w' w.heap.size a1 c1 W a2 c2 R ∧ w.grownBy w' (lb af)

set_option maxHeartbeats 4000000 in
set_option maxRecDepth 100000 in
theorem takeOut_any (N sN B : Nat) (ao af : Option Addr) (cap capf : Nat) (l : List Arc3) (F0 : List Int) (w : World) (hN : N ≤ 12) (hs : sN < N) (hl60 : l.length ≤ 60) (hl : ∀ a ∈ l, (0 ≤ a.1 ∧ a.1 < (N : Int)) ∧ (0 ≤ a.2.1 ∧ a.2.1 < (N : Int)))
    (hNn : Nn l F0) (hA : ArcsAt w ao l) (hO : OwnIs w B af capf F0) (hab : 0 < l.length → ∀ b off, ao = some ⟨b, off, none⟩ → b < B) :
    Calls Try.prog 35 #[.slice ao l.length cap, .slice af l.length capf, .int .i64 (sN : Int)] w fun e w' => OutAns l sN F0 B af capf w e w' := by
  obtain ⟨i0, hi, hz0, hz1, hz2⟩ := info_parts infoPiece
  have HA : Hid (ArcsAt w ao l) := hA
  have HL : Hid (∀ a ∈ l, (0 ≤ a.1 ∧ a.1 < (N : Int)) ∧ (0 ≤ a.2.1 ∧ a.2.1 < (N : Int))) := hl
  have HNn : Hid (Nn l F0) := hNn
  have HO0 : Hid (OwnIs w B af capf F0) := hO
  have HAB : Hid (0 < l.length → ∀ b off, ao = some ⟨b, off, none⟩ → b < B) := hab
  have HLb : Hid (∀ j, lb af = some j → B ≤ j ∧ j < w.heap.size) := hO.lt
  clear hA hl hNn hO hab
  go_enter Try.func35, Try.ntmps35
  go_wp2
  go_loopw [6, 7] (fun s1 s2 wr => ∃ (F : List Int) (W R : List PcV) (a1 : Option Addr) (c1 : Nat) (a2 : Option Addr) (c2 : Nat), s1 = .slice a1 W.length c1 ∧ s2 = .slice a2 R.length c2 ∧ Hid (Taken l sN F0 F (W.map PcV.pc) (R.map PcV.pc)) ∧
    Hid (OwnIs wr B af capf F) ∧ Hid (Two wr w.heap.size a1 c1 W a2 c2 R) ∧ Hid (w.grownBy wr (lb af))) (fun s1 s2 _ => 61 - lenS s1 - lenS s2)
  case atStart => exact ⟨F0, [], [], none, 0, none, 0, rfl, rfl, Taken.none _ _ _, HO0, Two.none _ _, World.grownBy.refl _ _⟩
  case round =>
    obtain ⟨F, W, R, a1, c1, a2, c2, rfl, rfl, hT, hO, hTwo, hG⟩ := hrel
    have hK := hT.out.kept HNn.out
    have hfew := hK.few
    have hc60 := cntF_le (ati F0) l.length
    rw [List.length_map, List.length_map] at hfew
    have HNF : Hid (Nn l F) := hK.nn
    have hzw := hG.out.size
    have HA1 : Hid (ArcsAt wr ao l) := fun i hi => by
      obtain ⟨b, off, e, hb, c0, c1, c2⟩ := HA.out i hi
      have hne : some b ≠ lb af := fun c => by have := (HLb.out b c.symm).1; have := HAB.out (by omega) b off e; omega
      exact ⟨b, off, e, by omega, hG.out.cell c0 hne, hG.out.cell c1 hne, hG.out.cell c2 hne⟩
    have hfo := follow_any N sN ao af cap capf l F wr hN hs hl60 HL.out HNF.out.len HA1.out hO.out.arg.ints
    clear hK
    go_wp2_with fail
    refine hfo.mono ?_
    clear hfo
    rintro e w2 ⟨hb2, pa, pc, K, b, rfl, hSay, hNR⟩
    have hz2' := hb2.size
    have HO2 : Hid (OwnIs w2 B af capf F) := hO.out.below hb2 (Nat.le_refl _)
    have HTwo2 : Hid (Two w2 w.heap.size a1 c1 W a2 c2 R) := hTwo.out.keep fun g o t _ h => blk_below hb2 h (Array.getElem?_eq_some_iff.1 h).1
    have HG2 : Hid (w.grownBy w2 (lb af)) := hG.out.trans ⟨hb2.os, hb2.tape, hb2.output, hb2.size, fun i hi _ => hb2.block i hi⟩
    clear hO hTwo hG hb2 HA1
    by_cases hK0 : K = []
    · subst hK0
      have hb : b = false := by
        cases b with
        | false => rfl
        | true => exact absurd rfl (hSay.some rfl)
      subst hb
      obtain ⟨u, _, hd, hu, _⟩ := hSay.way rfl
      have HD : Hid (Dead l F sN) := by rw [Hid, ← hu rfl]; exact hd
      clear hSay hNR hd hu
      go_wp2
      go_ret2
      exact ⟨F, W, R, a1, c1, a2, c2, rfl, hT.out, HD.out, HO2.out, HTwo2.out, HG2.out⟩
    · have hKl : 0 < K.length := List.length_pos_iff.2 hK0
      have hne0 : ((K.length : Int) == 0) = false := by simp; omega
      have HNR : Hid (NumRow w2 wr.heap.size pa pc K) := hNR hK0
      have HSay : Hid (FolSays l F sN K b) := hSay
      have hlt : ∀ k ∈ K, k < l.length := by
        cases b with
        | true => obtain ⟨u, h⟩ := hSay.round rfl; exact h.lt
        | false => obtain ⟨u, h, _⟩ := hSay.way rfl; exact h.lt
      obtain ⟨g, rfl, hBg, hgz, hcg, hgx, hgy⟩ := HO2.out.at (i := K.head hK0) (by rw [HNF.out.len]; exact hlt _ (List.head_mem hK0))
      have hOg : OwnI w2 g capf F.length (ati F) := by
        rcases HO2.out with ⟨e, _⟩ | ⟨g', e, _, _, h⟩
        · cases e
        · cases e; exact h
      have hgw : g < w.heap.size := (HLb.out g rfl).2
      have hpg : ∀ b off, pa = some ⟨b, off, none⟩ → b ≠ g := fun b off e => by
        obtain ⟨g', off', _, e', hB', _⟩ := HNR.out
        rw [e'] at e; cases e; omega
      have htk := take_any g pa capf pc F K w2 (by rw [HNF.out.len]; exact hl60) (Nat.le_trans (nodup_few hSay.nd hlt) hl60) hOg HNR.out.ints hpg hK0 hSay.nd (fun k hk => ⟨by rw [HNF.out.len]; exact hlt k hk, hSay.pos k hk, (HNF.out.bnd k (hlt k hk)).2⟩)
      rw [HNF.out.len] at htk
      have HLt : Hid (∀ k ∈ K, k < l.length) := hlt
      have HK0 : Hid (K ≠ []) := hK0
      clear hgx hgy hSay hNR hlt hK0 hOg hpg hcg
      go_wp2_with fail
      refine htk.mono ?_
      clear htk
      rintro e w3 ⟨a, rfl, ha, hTk, hO3, hOn⟩
      have hz3 := hOn.size
      have HTk : Hid (Takes F (a, K)) := hTk
      have HO3 : Hid (OwnIs w3 B (some ⟨g, 0, none⟩) capf (takeA F a K)) := Or.inr ⟨g, rfl, hBg, HO2.out.arg.max, by rw [takeA_len, HNF.out.len]; exact hO3⟩
      have HTwo3 : Hid (Two w3 w.heap.size a1 c1 W a2 c2 R) := HTwo2.out.keep fun i o t hi h => hOn.blk h (by omega)
      have HG3 : Hid (w.grownBy w3 (lb (some ⟨g, 0, none⟩))) := HG2.out.trans hOn.grown
      have HNR3 : Hid (NumRow w3 w.heap.size pa pc K) := (HNR.out.of fun i o hi h => hOn.blk h (by omega)).weaken (by omega)
      clear hTk hO3 hOn HO2 HTwo2 HG2 HNR
      have hWR : W.length + R.length ≤ 60 := by omega
      have HTwo4 : Hid (Two ((w3.alloc (.cells #[.int .i64 a, .slice pa K.length pc] 50)).alloc (.cells #[.int .i64 a, .slice pa K.length pc] 50)) w.heap.size a1 c1 W a2 c2 R) := HTwo3.out.keep fun g o t _ h => blk_old (blk_old h _) _
      cases b with
      | true =>
        obtain ⟨u, hway⟩ := HSay.out.round rfl
        have HT1 : Hid (Taken l sN F0 (takeA F a K) (W.map PcV.pc) ((R ++ [(⟨a, pa, pc, K⟩ : PcV)]).map PcV.pc)) := by
          rw [List.map_append]
          exact hT.out.round (p := (a, K)) ⟨ha, HK0.out, HSay.out.nd, hway⟩ HTk.out
        clear hway HSay HTk hT
        go_wp2_with (at_builtin; refine wpList_append_own_at _ rfl (.tmp 29) (.tmp 31) 44 rfl w.heap.size 50 i0 _ 2 32 Try.underlying44 hi hz0 hz1 hz2 rfl (by decide) _ _ _ rfl HTwo4.out.rounds ⟨w3.heap.size + 1, 0, none⟩ 1 1 [.int .i64 a, .slice pa K.length pc] rfl rfl ?c1 ?c2 ?c3 ?c4 ?c5 ?_)
        case c1 =>
          intro j u hj
          match j, hj with
          | 0, hj => simp at hj; subst hj; simp [Addr.add]
          | 1, hj => simp at hj; subst hj; simp [Addr.add]
        case c2 => intro u hu; simp at hu; rcases hu with rfl | rfl <;> rfl
        case c3 => unfold maxLen; omega
        case c4 => omega
        case c5 => simp; omega
        · intro v' w4 hown' hgrow _ hloc
          obtain ⟨a3, c3, rfl⟩ := owns_form hown'
          have HTwo5 : Hid (Two w4 w.heap.size a1 c1 W a3 c3 (R ++ [⟨a, pa, pc, K⟩])) := HTwo4.out.addR (p := ⟨a, pa, pc, K⟩) (HNR3.out.of fun g o _ h => blk_old (blk_old h _) _) hown' hgrow (by rw [World.size_alloc, World.size_alloc]; exact hloc)
          have HO5 : Hid (OwnIs w4 B (some ⟨g, 0, none⟩) capf (takeA F a K)) := ((HO3.out.alloc _).alloc _).keep fun g o h => grown_ints HTwo4.out.rounds hgrow h
          have HG5 : Hid (w.grownBy w4 (lb (some ⟨g, 0, none⟩))) := ((HG3.out.trans (World.grownBy_alloc _ _ _)).trans (World.grownBy_alloc _ _ _)).andThen hgrow fun j e => Or.inl (owns_own HTwo4.out.rounds j e)
          have Hlen : Hid ((R ++ [(⟨a, pa, pc, K⟩ : PcV)]).length = R.length + 1) := by rw [Hid, List.length_append, List.length_singleton]
          clear hown' hgrow hloc HTwo4 HTwo3 HO3 HG3 HNR3
          go_wp2
          go_roundw
          case rel => exact ⟨takeA F a K, W, R ++ [⟨a, pa, pc, K⟩], a1, c1, a3, c3, rfl, by rw [Hlen.out], HT1, HO5, HTwo5, HG5⟩
          case measure => simp [lenS]; omega
      | false =>
        obtain ⟨u, hway, hd, hu1, hu2⟩ := HSay.out.way rfl
        have HT1 : Hid (Taken l sN F0 (takeA F a K) ((W ++ [(⟨a, pa, pc, K⟩ : PcV)]).map PcV.pc) (R.map PcV.pc)) := by
          rw [List.map_append]
          exact hT.out.way (p := (a, K)) ⟨ha, HK0.out, HSay.out.nd, hway⟩ HTk.out (hu2 HK0.out) hd
        clear hway HSay HTk hT hd hu1 hu2
        go_wp2_with (at_builtin; refine wpList_append_own_at _ rfl (.tmp 33) (.tmp 35) 44 rfl w.heap.size 50 i0 _ 2 32 Try.underlying44 hi hz0 hz1 hz2 rfl (by decide) _ _ _ rfl HTwo4.out.ways ⟨w3.heap.size + 1, 0, none⟩ 1 1 [.int .i64 a, .slice pa K.length pc] rfl rfl ?c1 ?c2 ?c3 ?c4 ?c5 ?_)
        case c1 =>
          intro j u hj
          match j, hj with
          | 0, hj => simp at hj; subst hj; simp [Addr.add]
          | 1, hj => simp at hj; subst hj; simp [Addr.add]
        case c2 => intro u hu; simp at hu; rcases hu with rfl | rfl <;> rfl
        case c3 => unfold maxLen; omega
        case c4 => omega
        case c5 => simp; omega
        · intro v' w4 hown' hgrow _ hloc
          obtain ⟨a3, c3, rfl⟩ := owns_form hown'
          have HTwo5 : Hid (Two w4 w.heap.size a3 c3 (W ++ [⟨a, pa, pc, K⟩]) a2 c2 R) := HTwo4.out.addW (p := ⟨a, pa, pc, K⟩) (HNR3.out.of fun g o _ h => blk_old (blk_old h _) _) hown' hgrow (by rw [World.size_alloc, World.size_alloc]; exact hloc)
          have HO5 : Hid (OwnIs w4 B (some ⟨g, 0, none⟩) capf (takeA F a K)) := ((HO3.out.alloc _).alloc _).keep fun g o h => grown_ints HTwo4.out.ways hgrow h
          have HG5 : Hid (w.grownBy w4 (lb (some ⟨g, 0, none⟩))) := ((HG3.out.trans (World.grownBy_alloc _ _ _)).trans (World.grownBy_alloc _ _ _)).andThen hgrow fun j e => Or.inl (owns_own HTwo4.out.ways j e)
          have Hlen : Hid ((W ++ [(⟨a, pa, pc, K⟩ : PcV)]).length = W.length + 1) := by rw [Hid, List.length_append, List.length_singleton]
          clear hown' hgrow hloc HTwo4 HTwo3 HO3 HG3 HNR3
          go_wp2
          go_roundw
          case rel => exact ⟨takeA F a K, W ++ [⟨a, pa, pc, K⟩], R, a3, c3, a2, c2, by rw [Hlen.out], rfl, HT1, HO5, HTwo5, HG5⟩
          case measure => simp [lenS]; omega

end Go.Proofs.Ythlcbhbjngcnkaa
