/- Package flow: along arcs that have something left, until a node comes again. -/
import Derived.Maps.OwnSet
import Derived.Maps.OwnOps
import Derived.Test.YthlcbhbjngcnkaaFTake
namespace Go.Proofs.Ythlcbhbjngcnkaa
open Go.RowKit Go.Maps
set_option linter.unusedVariables false

theorem lawInt : Keyed Try.prog 3 := int_keyed Try.underlying3
theorem zeroInt (w : World) : (zeroValue 3).run Try.prog w = .ok (.int .i64 0) w := by kernel_rfl

/-- a first entry of a map that is written out, at the operation -/
theorem wpList_insert_own {H : Type} {P : Program} (w : World) {ops : Array Oper} {rest : List Oper} {o : Oper} {a : Act} {Q : Exit → Act → World → Prop}
    (hg : o.guard = none) (m x v : Operand) (t : TypeId) (hop : o.op = Op.insert t m x v)
    (k e : TypeId) (K : Keyed P k) (ht : P.underlying t = some (.map k e)) (R : Value → Option (DataW H × List MemPlace)) (b n : Nat) (D : DataW H)
    (hm : a.eval m = .map (some b)) (hown : w.ownsMap P k R b n D) (hn : n < maxLen) (key val : Value) (kl : Lit) (hx : a.eval x = key) (hv : a.eval v = val) (hkey : keyOf P k key = some kl)
    (d : DataW H) (ps : List MemPlace) (hval : R val = some (d, ps))
    (hK : ∀ w', w'.ownsMap P k R b (n + 1) (D.put kl d) → w.grownBy w' (some b) → wpList P ops Q rest (a.put o.dst undef) w') :
    wpList P ops Q (o :: rest) a w := by
  refine wpList_plain hg fun K' hK' => ?_
  obtain ⟨w', hrun, r1, r2⟩ := hown.update K ht hn hkey hval
  unfold Oper.wp
  simp [execOp, hop, hm, hx, hv, hrun, Result.andThen]
  exact hK' _ _ (hK w' r1 r2)

/-- a map tells of each node that was come to how many arcs had been gone -/
structure BeenIs (D : DataW Unit) (V : List Int) : Prop where
  map : IsMap D
  has : ∀ v : Int, Maps.has D (.int .i64 v) = decide (v ∈ V)
  val : ∀ i : Nat, i < V.length → ∀ z, D.atKey (.int .i64 (ati V i)) z = .lit (.int .i64 (i : Int))
theorem BeenIs.none : BeenIs (.map []) [] := ⟨isMap_empty, fun v => by simp [Maps.has], fun i hi => absurd hi (Nat.not_lt_zero _)⟩
theorem BeenIs.put {D : DataW Unit} {V : List Int} (h : BeenIs D V) {u : Int} (hu : u ∉ V) : BeenIs (D.put (.int .i64 u) (.lit (.int .i64 (V.length : Int)))) (V ++ [u]) := by
  refine ⟨h.map.put _ _, fun v => ?_, fun i hi z => ?_⟩
  · by_cases e : v = u
    · subst e
      rw [has_put_same (k := .int .i64 v) h.map trivial]
      simp
    · rw [has_put_other (fun c => e (by cases c; rfl)), h.has]
      simp [e]
  · rw [List.length_append, List.length_singleton] at hi
    by_cases e : i = V.length
    · subst e
      rw [ati_snoc_new, atKey_put_same (k := .int .i64 u) h.map trivial]
    · have hlt : i < V.length := by omega
      rw [ati_snoc_old hlt, atKey_put_other, h.val i hlt]
      intro c
      cases c
      exact hu (ati_mem V i hlt)

/-- numbers in a block that a call has made itself, spare memory included -/
def NumRow (w : World) (B : Nat) (pa : Option Addr) (pc : Nat) (K : List Nat) : Prop :=
  ∃ g off cur, pa = some ⟨g, off, none⟩ ∧ B ≤ g ∧ w.heap[g]? = some (.cells cur 3 (0, 0)) ∧ cur.size = off + pc ∧ K.length ≤ pc ∧ off + pc ≤ maxLen ∧ ∀ i, i < K.length → cur[off + i]? = some (.int .i64 ((K.getD i 0 : Nat) : Int))
theorem numRow_drop {w : World} {B : Nat} {ao : Option Addr} {cap : Nat} {K : List Nat} (h : w.ownsRow B 3 1 (.slice ao K.length cap) K.length (flati (numP K))) {i : Nat} (hi : i < K.length) :
    ∃ g, ao = some ⟨g, 0, none⟩ ∧ K.length ≤ cap ∧ cap ≤ maxLen ∧ NumRow w B (some ⟨g, i, none⟩) (cap - i) (K.drop i) := by
  rcases h.2 with ⟨e, hn⟩ | ⟨g, cap', cur, e, hB, hg, hle, hcap, hcs, htk⟩
  · omega
  · cases e
    refine ⟨g, rfl, hle, hcap, g, i, cur, rfl, hB, hg, by omega, by rw [List.length_drop]; omega, by omega, fun j hj => ?_⟩
    rw [List.length_drop] at hj
    have h1 : (flati (numP K))[i + j]? = some (.int .i64 ((K.getD (i + j) 0 : Nat) : Int)) := by
      have : i + j < K.length := by omega
      simp [flati, numP, this]
    rw [← htk, Nat.mul_one, List.getElem?_take_of_lt (by omega)] at h1
    rw [← Array.getElem?_toList, h1]
    simp
theorem NumRow.of {w w' : World} {B : Nat} {pa : Option Addr} {pc : Nat} {K : List Nat} (h : NumRow w B pa pc K) (hk : ∀ g o, B ≤ g → w.heap[g]? = some (.cells o 3 (0, 0)) → w'.heap[g]? = some (.cells o 3 (0, 0))) : NumRow w' B pa pc K := by
  obtain ⟨g, off, cur, e, hB, hg, r⟩ := h
  exact ⟨g, off, cur, e, hB, hk g cur hB hg, r⟩
theorem NumRow.weaken {w : World} {B C : Nat} {pa : Option Addr} {pc : Nat} {K : List Nat} (h : NumRow w B pa pc K) (hC : C ≤ B) : NumRow w C pa pc K := by
  obtain ⟨g, off, cur, e, hB, r⟩ := h
  exact ⟨g, off, cur, e, by omega, r⟩
theorem NumRow.ints {w : World} {B : Nat} {pa : Option Addr} {pc : Nat} {K : List Nat} (h : NumRow w B pa pc K) : IntsAt w pa (numP K) := by
  obtain ⟨g, off, cur, rfl, hB, hg, hs, hle, hm, hc⟩ := h
  intro i hi
  rw [numP_len] at hi
  refine ⟨g, off, rfl, (Array.getElem?_eq_some_iff.1 hg).1, ?_⟩
  rw [numP_at hi]
  simp [World.cell?, hg, hc i hi]

/-- what follow answers -/
def FolAns (l : List Arc3) (F : List Int) (s : Int) (B : Nat) (e : Ending) (w' : World) : Prop :=
  ∃ (pa : Option Addr) (pc : Nat) (K : List Nat) (b : Bool), e = .returned (.tuple #[.slice pa K.length pc, .bool b]) ∧ FolSays l F s K b ∧ (K ≠ [] → NumRow w' B pa pc K)

/-- a slice's length, for a measure -/
def lenS : Value → Nat
  | .slice _ n _ => n
  | _ => 0

theorem flati_snoc (K : List Nat) (k : Nat) : flati (numP (K ++ [k])) = flati (numP K) ++ [.int .i64 (k : Int)] := by simp [flati, numP]

set_option maxHeartbeats 4000000 in
set_option maxRecDepth 100000 in
theorem follow_any (N sN : Nat) (ao af : Option Addr) (cap capf : Nat) (l : List Arc3) (F : List Int) (w : World) (hN : N ≤ 12) (hs : sN < N) (hl60 : l.length ≤ 60) (hl : ∀ a ∈ l, (0 ≤ a.1 ∧ a.1 < (N : Int)) ∧ (0 ≤ a.2.1 ∧ a.2.1 < (N : Int)))
    (hFl : F.length = l.length) (hA : ArcsAt w ao l) (hF : IntsAt w af F) :
    Calls Try.prog 44 #[.slice ao l.length cap, .slice af l.length capf, .int .i64 (sN : Int)] w fun e w' => Below w.heap.size w w' ∧ FolAns l F sN w.heap.size e w' := by
  have hmm := @run_makeMap Try.prog
  obtain ⟨i0, hi, hz0, hz1, hz2⟩ := info_parts infoInt
  have HA : Hid (ArcsAt w ao l) := hA
  have HF : Hid (IntsAt w af F) := hF
  have HL : Hid (∀ a ∈ l, (0 ≤ a.1 ∧ a.1 < (N : Int)) ∧ (0 ≤ a.2.1 ∧ a.2.1 < (N : Int))) := hl
  have HFl : Hid (F.length = l.length) := hFl
  have hwf : ∀ v : Nat, v < N → (Lit.int .i64 (v : Int)).wf = true := fun v hv => WalkArith.wf_i64 (by omega)
  have HWf : Hid (∀ v : Nat, v < N → (Lit.int .i64 (v : Int)).wf = true) := hwf
  have hkey0 : keyOf Try.prog 3 (.int .i64 (sN : Int)) = some (.int .i64 (sN : Int)) := keyOf_int_mk Try.underlying3 (hwf sN hs)
  have HKey : Hid (∀ v : Nat, v < N → keyOf Try.prog 3 (.int .i64 (v : Int)) = some (.int .i64 (v : Int))) := fun v hv => keyOf_int_mk Try.underlying3 (hwf v hv)
  clear hA hF hl hFl hwf
  go_enter Try.func44, Try.ntmps44
  go_wp2_with (refine wpList_insert_own _ rfl _ _ _ 89 rfl 3 3 lawInt Try.underlying89 _ w.heap.size 0 _ rfl (World.ownsMap_made (H := Unit) w Try.prog 3 (plainElem Try.prog 3)) (by unfold maxLen; omega) _ _ _ rfl rfl hkey0 _ [] (plainElem_int Try.underlying3 (by decide)) ?_; intro w1 hown1 hgrow1)
  have hB1 : Below w.heap.size w w1 := (below_one w _).grown hgrow1 (by simp) (fun j hj => by cases hj; exact Nat.le_refl _)
  have hBe : BeenIs ((DataW.map []).put (.int .i64 (sN : Int)) (.lit (.int .i64 0))) [(sN : Int)] := BeenIs.none.put (u := (sN : Int)) List.not_mem_nil
  have hzw1 := hgrow1.size
  simp only [World.size_alloc] at hzw1
  clear hgrow1
  go_loopw [8, 10] (fun s at_ wr => ∃ (K : List Nat) (V : List Int) (D : DataW Unit) (ao' : Option Addr) (cap' : Nat) (vN : Nat), s = .slice ao' K.length cap' ∧ at_ = .int .i64 (vN : Int) ∧ (vN : Int) = ati V K.length ∧ Hid (FolIs N l F sN K V) ∧
      Hid (wr.ownsRow (w.heap.size + 1) 3 1 (.slice ao' K.length cap') K.length (flati (numP K))) ∧ Hid (wr.ownsMap Try.prog 3 (plainElem Try.prog 3) w.heap.size (K.length + 1) D) ∧ Hid (BeenIs D V) ∧ Below w.heap.size w wr ∧ w.heap.size + 1 ≤ wr.heap.size) (fun s _ _ => N - lenS s)
  case atStart => exact ⟨[], [(sN : Int)], _, none, 0, sN, rfl, rfl, rfl, FolIs.start (by omega), World.ownsRow_nil _ _ _ _, hown1, hBe, hB1, hzw1⟩
  case round =>
    obtain ⟨K, V, D, ao', cap', vN, rfl, rfl, hvN, hFol, hO, hM, hBe, hB, hzr⟩ := hrel
    have hKN := hFol.out.bound
    have hnx := next_any (vN : Int) ao af cap capf l F wr hl60 HFl.out (HA.out.below hB (Nat.le_refl _)) (HF.out.below hB (Nat.le_refl _))
    have HvN : Hid ((vN : Int) = ati V K.length) := hvN
    clear hvN
    go_wp2_with fail
    refine hnx.mono ?_
    clear hnx
    rintro e w2 ⟨hb2, h⟩
    have HB2 : Hid (Below w.heap.size w w2) := hB.trans (hb2.mono hB.size)
    have HO2 : Hid (w2.ownsRow (w.heap.size + 1) 3 1 (.slice ao' K.length cap') K.length (flati (numP K))) := owns_below hO.out hb2 (Nat.le_refl _)
    have HM2 : Hid (w2.ownsMap Try.prog 3 (plainElem Try.prog 3) w.heap.size (K.length + 1) D) := hM.out.kept (row := none) ⟨hb2.os, hb2.tape, hb2.output, hb2.size, fun i hi _ => hb2.block i hi⟩ (by simp)
    have hsz2 := hb2.size
    clear hO hM hB
    rcases h with ⟨k, hk, hf, hp, rfl⟩ | ⟨hd, rfl⟩
    · have hlt0 : decide ((k : Int) < 0) = false := decide_eq_false (by omega)
      have HOn : Hid (FolOn l F sN (K ++ [k]) V (at3 l k).2.1) := hFol.out.on hk (by rw [hf]; exact HvN.out) hp
      obtain ⟨_, hu⟩ := HL.out _ (at3_mem l k hk)
      obtain ⟨b, off, rfl, hbb, _, cw1, _⟩ := HA.out k hk
      obtain ⟨uN, hue⟩ := Int.eq_ofNat_of_zero_le hu.1
      have huN : uN < N := by omega
      rw [hue] at cw1 HOn
      clear hb2 hf hp hu hue
      have HO3 : Hid ((w2.alloc (.cells #[.int .i64 (k : Int)] 3)).ownsRow (w.heap.size + 1) 3 1 (.slice ao' K.length cap') K.length (flati (numP K))) := HO2.out.alloc _
      go_wp2_with (at_builtin; refine wpList_append_own _ rfl (.tmp 25) (.tmp 27) 25 rfl (w.heap.size + 1) 3 i0 _ 1 8 Try.underlying25 hi hz0 hz1 hz2 rfl (by decide) _ _ _ rfl HO3.out ⟨w2.heap.size, 0, none⟩ 1 1 [.int .i64 (k : Int)] rfl rfl ?c1 ?c2 ?c3 ?c4 ?c5 ?_)
      case c1 =>
        intro j u hj
        match j, hj with
        | 0, hj =>
          simp at hj; subst hj
          exact newest (w := w2) #[.int .i64 (k : Int)] 3 0
      case c2 => intro u hu; simp at hu; subst hu; rfl
      case c3 => unfold maxLen; omega
      case c4 => omega
      case c5 => simp; omega
      · intro v' w3 hown' hgrow _
        have hb3 : Below (w.heap.size + 1) (w2.alloc (.cells #[.int .i64 (k : Int)] 3)) w3 := (Below.refl _ _).grown hgrow (by simp; omega) (fun g hg => (HO3.out.lt g hg).1)
        have hM3 : w3.ownsMap Try.prog 3 (plainElem Try.prog 3) w.heap.size (K.length + 1) D := (HM2.out.alloc _).kept hgrow (fun e => by have := (HO3.out.lt _ e.symm).1; omega)
        obtain ⟨ao3, cap3, rfl⟩ := owns_form hown'
        have hlen : (K ++ [k]).length = K.length + 1 := by rw [List.length_append, List.length_singleton]
        have HO4 : Hid (w3.ownsRow (w.heap.size + 1) 3 1 (.slice ao3 (K ++ [k]).length cap3) (K ++ [k]).length (flati (numP (K ++ [k])))) := by
          rw [Hid, hlen, flati_snoc]; exact hown'
        have HB3 : Hid (Below w.heap.size w w3) := (HB2.out.alloc (by omega) _).trans (hb3.mono (by omega))
        have c1 : w3.cell? ⟨b, off + k * 3 + 1, none⟩ = some (.int .i64 (uN : Int)) := later HB3.out cw1 hbb
        have hbz : b < w3.heap.size := Nat.lt_of_lt_of_le hbb HB3.out.size
        have hz3 : w.heap.size + 1 ≤ w3.heap.size := by have := hb3.size; simp at this; omega
        have Hlen : Hid ((K ++ [k]).length = K.length + 1) := hlen
        clear hown' hgrow hb3 HO3 HO2 HM2 cw1 hsz2 hlen
        by_cases hv : (uN : Int) ∈ V
        · obtain ⟨i, hi', hiv⟩ := List.mem_iff_getElem.1 hv
          have hVl := hFol.out.len
          have hiu : ati V i = (uN : Int) := by rw [ati_lt V i hi']; exact hiv
          have hiK : i < K.length + 1 := by omega
          have HS : Hid (FolSays l F sN ((K ++ [k]).drop i) true) := .ofRound HOn.out (by rw [Hlen.out]; exact hiK) hiu
          have hh : Maps.has D (.int .i64 (uN : Int)) = true := by rw [hBe.out.has]; exact decide_eq_true hv
          have HVal : Hid (∀ z, D.atKey (.int .i64 (uN : Int)) z = .lit (.int .i64 (i : Int))) := fun z => by
            have := hBe.out.val i (by omega) z
            rwa [hiu] at this
          obtain ⟨g, rfl, hle, hmx, hNR⟩ := numRow_drop HO4.out (i := i) (by rw [Hlen.out]; exact hiK)
          rw [Hlen.out] at hle
          have HNR : Hid (NumRow w3 (w.heap.size + 1) (some ⟨g, i, none⟩) (cap3 - i) ((K ++ [k]).drop i)) := hNR
          unfold maxLen at hmx
          clear hiv hi' hiu hv hNR hVl
          go_wp2_with (at_lookup; refine wpList_lookup_own_ok_int _ rfl _ _ 89 rfl 3 3 .i64 lawInt Try.underlying89 Try.underlying3 (zeroInt _) w.heap.size (K.length + 1) D rfl hM3 _ _ rfl (HKey.out uN huN) ?_; intro c hat hwc; rw [HVal.out] at hat; obtain rfl : c = (i : Int) := (by simpa using hat.symm))
          go_ret2
          exact ⟨HB3.out, some ⟨g, i, none⟩, cap3 - i, (K ++ [k]).drop i, true, by rw [List.length_drop, Hlen.out]; rfl, HS.out, fun _ => HNR.out.weaken (by omega)⟩
        · have hh : Maps.has D (.int .i64 (uN : Int)) = false := by rw [hBe.out.has]; exact decide_eq_false hv
          have HF1 : Hid (FolIs N l F sN (K ++ [k]) (V ++ [(uN : Int)])) := HOn.out.next hFol.out.lt hFol.out.first (by rw [Hlen.out]; omega) (by omega) hv
          have HBe1 : Hid (BeenIs (D.put (.int .i64 (uN : Int)) (.lit (.int .i64 ((K.length + 1 : Nat) : Int)))) (V ++ [(uN : Int)])) := by
            have := hBe.out.put hv
            rwa [hFol.out.len] at this
          have HLast : Hid ((uN : Int) = ati (V ++ [(uN : Int)]) (K ++ [k]).length) := by
            rw [Hid, Hlen.out, ← hFol.out.len, ati_snoc_new]
          clear hv
          go_wp2_with (first
            | (at_lookup; refine wpList_lookup_own_ok_int _ rfl _ _ 89 rfl 3 3 .i64 lawInt Try.underlying89 Try.underlying3 (zeroInt _) w.heap.size (K.length + 1) D rfl hM3 _ _ rfl (HKey.out uN huN) ?_; intro c hat hwc; clear hat hwc)
            | (at_mapUpdate; refine wpList_mapUpdate_own _ rfl _ _ _ 89 rfl 3 3 lawInt Try.underlying89 _ w.heap.size (K.length + 1) D rfl hM3 (by unfold maxLen; omega) _ _ _ rfl rfl (HKey.out uN huN) _ [] (plainElem_int Try.underlying3 (WalkArith.wf_i64 (by omega))) ?_; intro w4 hown4 hgrow4)
            | go_in)
          simp only [Act.put]
          go_wp2
          go_roundw
          case rel =>
            have hB4 : Below w.heap.size w w4 := HB3.out.grown hgrow4 HB3.out.size (fun j hj => by cases hj; exact Nat.le_refl _)
            have hz4 := hgrow4.size
            exact ⟨K ++ [k], V ++ [(uN : Int)], _, ao3, cap3, uN, by rw [Hlen.out], rfl, HLast.out, HF1, HO4.out.kept hgrow4 (Or.inr fun e => by have := (HO4.out.lt _ e).1; omega), by rw [Hlen.out]; exact hown4, HBe1, hB4, by omega⟩
          case measure =>
            simp [lenS]; omega
    · have hlt1 : decide ((-1 : Int) < 0) = true := by decide
      have HS : Hid (FolSays l F sN K false) := .ofWay hFol.out (by rw [← HvN.out]; exact hd)
      have HNR : Hid (K ≠ [] → NumRow w2 (w.heap.size + 1) ao' cap' K) := fun hK => by
        obtain ⟨g, e, h1, h2, h3⟩ := numRow_drop HO2.out (i := 0) (List.length_pos_iff.2 hK)
        rw [List.drop_zero, Nat.sub_zero, ← e] at h3
        exact h3
      clear hd HO2 HM2
      go_wp2
      go_ret2
      exact ⟨HB2.out, ao', cap', K, false, rfl, HS.out, fun h => (HNR.out h).weaken (by omega)⟩

end Go.Proofs.Ythlcbhbjngcnkaa
