/- Contracts of package tree: standingByCode, Decode. -/
import Derived.Test.YtamckjbddnocpaaTLeaf
namespace Go.Proofs.Ytamckjbddnocpaa
open Go.RowKit
set_option linter.unusedVariables false

/-- a code as numbers of nodes -/
def codeN (l : List Int) : List Nat := l.map Int.toNat

theorem codeN_len (l : List Int) : (codeN l).length = l.length := by simp [codeN]
theorem codeN_at {l : List Int} {N : Nat} (h : ∀ x ∈ l, 0 ≤ x ∧ x < (N : Int)) {k : Nat} (hk : k < l.length) : ati l k = (((codeN l).getD k 0 : Nat) : Int) ∧ (codeN l).getD k 0 < N := by
  have e : (codeN l).getD k 0 = (ati l k).toNat := by
    rw [ati_lt l k hk, List.getD_eq_getElem?_getD, codeN, List.getElem?_map, List.getElem?_eq_getElem hk]; rfl
  have := h _ (ati_mem l k hk)
  rw [e]; omega

theorem count_snoc (m : List Nat) (x j : Nat) : ((m ++ [x]).count j : Int) = if j = x then (m.count j : Int) + 1 else (m.count j : Int) := by
  rw [List.count_append]
  by_cases e : j = x
  · subst e; simp
  · rw [if_neg e, List.count_eq_zero (l := [x]).2 (by simpa using e)]; rfl

theorem take_snocn (l : List Nat) (k : Nat) (h : k < l.length) : l.take (k + 1) = l.take k ++ [l.getD k 0] := by
  rw [List.take_succ_eq_append_getElem h, List.getD_eq_getElem?_getD, List.getElem?_eq_getElem h]; rfl

set_option maxHeartbeats 800000 in
theorem standingByCode_any (ao : Option Addr) (cap : Nat) (l : List Int) (w : World) (hA : IntsAt w ao l) (h10 : l.length ≤ 10) (hl : ∀ x ∈ l, 0 ≤ x ∧ x < ((l.length + 2 : Nat) : Int)) :
    Calls Try.prog 30 #[.slice ao l.length cap] w fun e w' => Below w.heap.size w w' ∧
      ∃ g, w.heap.size ≤ g ∧ e = .returned (.slice (some ⟨g, 0, none⟩) (l.length + 2) (l.length + 2)) ∧ w'.rowIs g 3 (l.length + 2) (fun j => .int .i64 (((codeN l).count j : Int) + 1)) := by
  have HL : Hid (∀ x ∈ l, 0 ≤ x ∧ x < ((l.length + 2 : Nat) : Int)) := hl
  have HA : Hid (IntsAt w ao l) := hA
  clear hl hA
  go_enter Try.func30, Try.ntmps30
  have hcall := repeat_one 1 w.heap.size 0 1 (l.length + 2) (w.alloc (.cells #[.int .i64 1] 3)) (by omega) (by omega) (by simp) (newest _ _ _)
  rw [show ((l.length + 2 : Nat) : Int) = (l.length : Int) + 2 from by omega] at hcall
  go_wp2_with fail
  refine hcall.mono ?_
  rintro e w1 ⟨hb1, g, hg, rfl, hrow⟩
  have hz := hb1.size
  simp only [World.size_alloc] at hz hb1 hg
  have hgz := hrow.lt
  have HB1 : Hid (Below (w.heap.size + 1) (w.alloc (.cells #[.int .i64 1] 3)) w1) := hb1
  clear hb1 hcall
  go_wp2_with fail
  go_loopw [13] (fun i wr => ∃ k : Nat, k ≤ l.length ∧ i = .int .i64 k ∧ wr.rowIs g 3 (l.length + 2) (fun j => .int .i64 ((((codeN l).take k).count j : Int) + 1)) ∧ Hid (Below (w.heap.size + 1) w1 wr)) (fun i _ => l.length - (intOf i).toNat)
  case atStart => exact ⟨0, Nat.zero_le _, rfl, hrow.congr fun j _ => by simp, Below.refl _ _⟩
  case round =>
    obtain ⟨k, hk, rfl, hro, hB⟩ := hrel
    have hzr := hro.lt
    by_cases hlt : k < l.length
    · obtain ⟨b, off, rfl, hb, c0⟩ := HA.out k hlt
      have c0 := later hB.out (later HB1.out (later (below_one w _) c0 hb) (by omega)) (by omega)
      obtain ⟨hx, hxN⟩ := codeN_at HL.out hlt
      have hsn := take_snocn (codeN l) k (by rw [codeN_len]; exact hlt)
      rw [hx] at c0
      generalize (codeN l).getD k 0 = x at *
      have HO : Hid (∀ j, ((((codeN l).take (k + 1)).count j : Nat) : Int) = if j = x then ((((codeN l).take k).count j : Nat) : Int) + 1 else ((((codeN l).take k).count j : Nat) : Int)) := fun j => by rw [hsn, count_snoc]
      have r0 := hro.cell (i := x) hxN
      have f0 := hro.frozen x
      have q0 : ((codeN l).take k).count x ≤ 10 := Nat.le_trans (List.count_le_length) (by rw [List.length_take, codeN_len]; omega)
      generalize hc : ((codeN l).take k).count x = cx at *
      have HC : Hid (((codeN l).take k).count x = cx) := hc
      have hbg : b ≠ g := by omega
      have hbz : b < wr.heap.size := by omega
      clear hc hsn hx
      go_wp2
      go_roundw
      case rel =>
        refine ⟨k + 1, by omega, by go_num, (hro.set x _).congr fun j hj => ?_, hB.out.setCell (by simp; omega) _⟩
        rw [HO.out j]
        by_cases e : j = x
        · subst e; simp [HC.out]
        · simp [e]
      case measure => simp [intOf]; omega
    · have hkl : k = l.length := by omega
      subst hkl
      rw [List.take_of_length_le (by rw [codeN_len]; exact Nat.le_refl _)] at hro
      have HR : Hid (wr.rowIs g 3 (l.length + 2) (fun j => .int .i64 (((codeN l).count j : Int) + 1))) := hro
      go_wp2
      go_ret
      exact ⟨below_in (HB1.out.trans hB.out) (by omega), g, by omega, rfl, HR.out⟩

theorem least_of {p : Nat → Prop} [DecidablePred p] (h : ∃ k, p k) : ∃ k, p k ∧ ∀ j, j < k → ¬ p j := by
  obtain ⟨k, hk⟩ := h
  induction k using Nat.strongRecOn with
  | ind k ih =>
    by_cases h : ∃ j, j < k ∧ p j
    · obtain ⟨j, hj, hp⟩ := h
      exact ih j hj hp
    · exact ⟨k, hk, fun j hj hp => h ⟨j, hj, hp⟩⟩

def decErr (l : List Int) : Int := if 10 < l.length then 2 else if l.all (fun x => decide (0 ≤ x ∧ x < ((l.length + 2 : Nat) : Int))) then 0 else 4

theorem decErr_ok {l : List Int} (h : decErr l = 0) : l.length ≤ 10 ∧ ∀ x ∈ l, 0 ≤ x ∧ x < ((l.length + 2 : Nat) : Int) := by
  unfold decErr at h
  by_cases e : 10 < l.length
  · rw [if_pos e] at h; cases h
  · rw [if_neg e] at h
    by_cases e2 : l.all (fun x => decide (0 ≤ x ∧ x < ((l.length + 2 : Nat) : Int))) = true
    · exact ⟨by omega, fun x hx => of_decide_eq_true (List.all_eq_true.1 e2 x hx)⟩
    · rw [if_neg e2] at h; cases h

/-- the tree that Decode tells -/
def decT (l : List Int) : List Arc3 := decF (List.range (l.length + 2)) (codeN l)

theorem decT_len (l : List Int) : (decT l).length = l.length + 1 := by unfold decT; rw [decF_len, codeN_len]

theorem code_st {l : List Int} (h : ∀ x ∈ l, 0 ≤ x ∧ x < ((l.length + 2 : Nat) : Int)) : St (List.range (l.length + 2)) (codeN l) := by
  have := st_start (l := codeN l) fun x hx => by
    obtain ⟨y, hy, rfl⟩ := List.mem_map.1 hx
    have := h y hy
    rw [codeN_len]; omega
  rwa [codeN_len] at this

theorem decT_ok {l : List Int} (h10 : l.length ≤ 10) (h : ∀ x ∈ l, 0 ≤ x ∧ x < ((l.length + 2 : Nat) : Int)) : graphErr ((l.length + 2 : Nat) : Int) (-10000) (decT l) = 0 :=
  err_mk ⟨by omega, by rw [decT_len]; omega, fun a ha => decF_nodes (code_st h) (fun x hx => by simpa using hx) a ha⟩

set_option maxHeartbeats 400000 in
theorem Decode_large (ao : Option Addr) (cap : Nat) (l : List Int) (w : World) (hm : l.length ≤ maxLen) (h : 10 < l.length) :
    Calls Try.prog 17 #[.slice ao l.length cap] w fun e w' => Below w.heap.size w w' ∧ e = .returned (.tuple #[.agg #[.int .i64 0, .slice none 0 0], .int .i64 2]) := by
  unfold maxLen at hm
  go_enter Try.func17, Try.ntmps17
  go_wp2
  refine bodyPost_ret (v := .tuple #[.agg #[.int .i64 0, .slice none 0 0], .int .i64 2]) (by simp [results, Try.results17, go_sem]) rfl ⟨?_, rfl⟩
  exact below_one _ _

set_option maxHeartbeats 400000 in
theorem Decode_node (ao : Option Addr) (cap : Nat) (l : List Int) (w : World) (h10 : l.length ≤ 10) (hA : IntsAt w ao l) (k : Nat) (hk : k < l.length) (hbad : ¬ (0 ≤ ati l k ∧ ati l k < ((l.length + 2 : Nat) : Int)))
    (hfirst : ∀ j, j < k → 0 ≤ ati l j ∧ ati l j < ((l.length + 2 : Nat) : Int)) :
    Calls Try.prog 17 #[.slice ao l.length cap] w fun e w' => Below w.heap.size w w' ∧ e = .returned (.tuple #[.agg #[.int .i64 0, .slice none 0 0], .int .i64 4]) := by
  have HF : Hid (∀ j, j < k → 0 ≤ ati l j ∧ ati l j < ((l.length + 2 : Nat) : Int)) := hfirst
  have HBad : Hid (¬ (0 ≤ ati l k ∧ ati l k < ((l.length + 2 : Nat) : Int))) := hbad
  have HA : Hid (IntsAt (w.alloc (.cells #[.int .i64 0, .slice none 0 0] 34)) ao l) := hA.alloc _
  have HA0 : Hid (IntsAt w ao l) := hA
  clear hfirst hbad hA
  go_enter Try.func17, Try.ntmps17
  go_wp2
  go_loop [22] (fun i => ∃ j : Nat, j ≤ k ∧ i = .int .i64 j) (fun i => l.length - (intOf i).toNat)
  case atStart => exact ⟨0, Nat.zero_le _, rfl⟩
  case round =>
    obtain ⟨j, hj, rfl⟩ := hrel
    obtain ⟨b, off, rfl, hb, c0⟩ := HA0.out j (by omega)
    by_cases e : j = k
    · have hb := HBad.out
      subst e
      generalize ati l j = x at *
      by_cases h0 : x < 0
      · clear hb
        go_wp2
        refine bodyPost_ret (v := .tuple #[.agg #[.int .i64 0, .slice none 0 0], .int .i64 4]) (by simp [results, Try.results17, go_sem]) rfl ⟨?_, rfl⟩
        exact below_one _ _
      · have h1 : (l.length : Int) + 2 ≤ x := by omega
        clear hb
        go_wp2
        refine bodyPost_ret (v := .tuple #[.agg #[.int .i64 0, .slice none 0 0], .int .i64 4]) (by simp [results, Try.results17, go_sem]) rfl ⟨?_, rfl⟩
        exact below_one _ _
    · have hr := HF.out j (by omega)
      generalize ati l j = x at *
      have h1 : ¬ (l.length : Int) + 2 ≤ x := by omega
      have h0 : ¬ x < 0 := by omega
      clear hr
      go_wp2
      go_round
      case rel => exact ⟨j + 1, by omega, by go_num⟩
      case measure => simp [intOf]; omega

theorem dec_step {l : List Int} (hl : ∀ x ∈ l, 0 ≤ x ∧ x < ((l.length + 2 : Nat) : Int)) {k : Nat} (hk : k < l.length) :
    ∃ v x : Nat, v < l.length + 2 ∧ x < l.length + 2 ∧ v ≠ x ∧ ati l k = (x : Int) ∧ lf (aft (List.range (l.length + 2)) (codeN l) k) ((codeN l).drop k) v = 1 ∧
      (∀ i, i < v → lf (aft (List.range (l.length + 2)) (codeN l) k) ((codeN l).drop k) i ≠ 1) ∧ at3 (decT l) k = tells v x ∧
      ∀ j, lf (aft (List.range (l.length + 2)) (codeN l) (k + 1)) ((codeN l).drop (k + 1)) j = if j = v then 0 else if j = x then lf (aft (List.range (l.length + 2)) (codeN l) k) ((codeN l).drop k) j - 1 else lf (aft (List.range (l.length + 2)) (codeN l) k) ((codeN l).drop k) j := by
  have hk' : k < (codeN l).length := by rw [codeN_len]; exact hk
  have hst := st_aft (code_st hl) (Nat.le_of_lt hk')
  have hN : ∀ y ∈ aft (List.range (l.length + 2)) (codeN l) k, y < l.length + 2 := aft_lt fun y hy => by simpa using hy
  have hd : (codeN l).drop k = (codeN l).getD k 0 :: (codeN l).drop (k + 1) := by
    rw [List.drop_eq_getElem_cons hk', List.getD_eq_getElem?_getD, List.getElem?_eq_getElem hk']; rfl
  have hat := decF_at (l := codeN l) (List.range (l.length + 2)) hk'
  have hs := aft_succ (l := codeN l) (List.range (l.length + 2)) hk'
  obtain ⟨hx, hxN⟩ := codeN_at hl hk
  rw [hs]
  rw [hd] at hst hat ⊢
  generalize (codeN l).getD k 0 = x at *
  generalize aft (List.range (l.length + 2)) (codeN l) k = A at *
  obtain ⟨q1, q2, q3⟩ := hst.leaf
  have hxA := hst.ok.sub x (List.mem_cons_self ..)
  refine ⟨leaf0 A (x :: (codeN l).drop (k + 1)), x, hN _ q1, hxN, fun e => q2 (by rw [e]; exact List.mem_cons_self ..), hx, lf_one.2 ⟨q1, q2⟩, fun i hi h => ?_, hat, fun j => lf_next hst.ok.nd q1 q2 hxA j⟩
  have := lf_one.1 h
  have := q3 i this.1 this.2
  omega

theorem dec_last {l : List Int} (hl : ∀ x ∈ l, 0 ≤ x ∧ x < ((l.length + 2 : Nat) : Int)) :
    ∃ u v : Nat, u < v ∧ v < l.length + 2 ∧ lf (aft (List.range (l.length + 2)) (codeN l) l.length) ((codeN l).drop l.length) u = 1 ∧
      (∀ i, i < u → lf (aft (List.range (l.length + 2)) (codeN l) l.length) ((codeN l).drop l.length) i ≠ 1) ∧
      (if v = u then 0 else lf (aft (List.range (l.length + 2)) (codeN l) l.length) ((codeN l).drop l.length) v) = 1 ∧
      (∀ i, i < v → (if i = u then 0 else lf (aft (List.range (l.length + 2)) (codeN l) l.length) ((codeN l).drop l.length) i) ≠ 1) ∧ at3 (decT l) l.length = tells u v := by
  have hst := st_aft (code_st hl) (Nat.le_refl _)
  have hN : ∀ y ∈ aft (List.range (l.length + 2)) (codeN l) (codeN l).length, y < l.length + 2 := aft_lt fun y hy => by simpa using hy
  have hat := decF_last (codeN l) (List.range (l.length + 2))
  rw [codeN_len] at hst hN hat
  have hd : (codeN l).drop l.length = [] := List.drop_eq_nil_of_le (by rw [codeN_len]; exact Nat.le_refl _)
  rw [hd] at hst ⊢
  generalize aft (List.range (l.length + 2)) (codeN l) l.length = A at *
  obtain ⟨u, v, huv, rfl⟩ := hst.two
  refine ⟨u, v, huv, hN v (by simp), lf_one.2 ⟨by simp, by simp⟩, fun i hi h => ?_, ?_, fun i hi h => ?_, ?_⟩
  · have := (lf_one.1 h).1
    simp at this; omega
  · rw [if_neg (by omega)]; exact lf_one.2 ⟨by simp, by simp⟩
  · by_cases e : i = u
    · rw [if_pos e] at h; cases h
    · rw [if_neg e] at h
      have := (lf_one.1 h).1
      simp at this; omega
  · unfold decT
    rw [hat]
    unfold tells
    rw [Nat.min_eq_left (by omega), Nat.max_eq_right (by omega)]
    rfl

set_option maxHeartbeats 1600000 in
theorem Decode_ok (ao : Option Addr) (cap : Nat) (l : List Int) (w : World) (hA : IntsAt w ao l) (h10 : l.length ≤ 10) (hl : ∀ x ∈ l, 0 ≤ x ∧ x < ((l.length + 2 : Nat) : Int)) :
    Calls Try.prog 17 #[.slice ao l.length cap] w fun e w' => Below w.heap.size w w' ∧
      ∃ b, w.heap.size ≤ b ∧ e = .returned (.tuple #[.agg #[.int .i64 ((l.length : Int) + 2), .slice (some ⟨b, 0, none⟩) (l.length + 1) (l.length + 1)], .int .i64 0]) ∧ w'.rowIs b 39 ((l.length + 1) * 3) (upto (decT l) (l.length + 1)) := by
  have HL : Hid (∀ x ∈ l, 0 ≤ x ∧ x < ((l.length + 2 : Nat) : Int)) := hl
  have HA0 : Hid (IntsAt w ao l) := hA
  have hmk := make_arcs (l.length + 1) (by omega)
  simp only [show ((l.length + 1 : Nat) : Int) = (l.length : Int) + 2 - 1 from by omega] at hmk
  have hcall := standingByCode_any ao cap l (w.alloc (.cells #[.int .i64 0, .slice none 0 0] 34)) (hA.alloc _) h10 hl
  have HC : Hid (Calls Try.prog 30 #[.slice ao l.length cap] (w.alloc (.cells #[.int .i64 0, .slice none 0 0] 34)) _) := hcall
  clear hcall hl hA
  go_enter Try.func17, Try.ntmps17
  go_wp2
  go_loop [22] (fun i => ∃ j : Nat, j ≤ l.length ∧ i = .int .i64 j) (fun i => l.length - (intOf i).toNat)
  case atStart => exact ⟨0, Nat.zero_le _, rfl⟩
  case round =>
    obtain ⟨j, hj, rfl⟩ := hrel
    by_cases hlt : j < l.length
    · obtain ⟨b, off, rfl, hb, c0⟩ := HA0.out j hlt
      have hr := HL.out _ (ati_mem l j hlt)
      generalize ati l j = x at *
      have h1 : ¬ (l.length : Int) + 2 ≤ x := by omega
      have h0 : ¬ x < 0 := by omega
      clear hr
      go_wp2
      go_round
      case rel => exact ⟨j + 1, by omega, by go_num⟩
      case measure => simp [intOf]; omega
    · have hkl : j = l.length := by omega
      subst hkl
      go_wp2_with fail
      refine HC.out.mono ?_
      rintro e w1 ⟨hb1, g, hg, rfl, hrow⟩
      have hz := hb1.size
      simp only [World.size_alloc] at hz hb1 hg
      have hgz := hrow.lt
      have HB1 : Hid (Below (w.heap.size + 1) (w.alloc (.cells #[.int .i64 0, .slice none 0 0] 34)) w1) := hb1
      clear hb1 hlt hj
      have hst0 : Hid (w1.rowIs g 3 (l.length + 2) (fun j => .int .i64 (lf (List.range (l.length + 2)) (codeN l) j))) := hrow.congr fun j hj => by rw [lf_start hj]
      clear hrow
      go_wp2_with fail
      go_loopw [42] (fun i wr => ∃ k : Nat, k ≤ l.length ∧ i = .int .i64 k ∧ wr.rowIs g 3 (l.length + 2) (fun j => .int .i64 (lf (aft (List.range (l.length + 2)) (codeN l) k) ((codeN l).drop k) j)) ∧
        wr.rowIs w1.heap.size 39 ((l.length + 1) * 3) (upto (decT l) k) ∧ Hid (Below (w.heap.size + 1) w1 wr)) (fun i _ => l.length - (intOf i).toNat)
      case atStart => exact ⟨0, Nat.zero_le _, rfl, (hst0.out.alloc _).congr (fun j _ => by rw [aft_zero, List.drop_zero]), zer_row _ _ _ _, (below_one _ _).mono (by omega)⟩
      case round =>
        obtain ⟨k, hk, rfl, hro, hra, hB⟩ := hrel
        have hzr := hra.lt
        have hzg := hro.lt
        have hints := row_ints hro
        have hll : ((List.range (l.length + 2)).map (lf (aft (List.range (l.length + 2)) (codeN l) k) ((codeN l).drop k))).length = l.length + 2 := by simp
        have hat : ∀ j, j < l.length + 2 → ati ((List.range (l.length + 2)).map (lf (aft (List.range (l.length + 2)) (codeN l) k) ((codeN l).drop k))) j = lf (aft (List.range (l.length + 2)) (codeN l) k) ((codeN l).drop k) j := fun j hj => by
          rw [ati_lt _ _ (by simpa using hj)]; simp
        by_cases hlt : k < l.length
        · obtain ⟨v, x, hv, hx, hvx, hax, hv1, hvl, hE, hnext⟩ := dec_step HL.out hlt
          have hleaf := leaf_at (some ⟨g, 0, none⟩) (l.length + 2) _ v wr (by rw [hll]; unfold maxLen; omega) hints (by rw [hll]; exact hv) ((hat v hv).trans hv1) (fun i hi => by rw [hat i (by omega)]; exact hvl i hi)
          rw [hll] at hleaf
          obtain ⟨b, off, rfl, hb, c0⟩ := HA0.out k hlt
          rw [hax] at c0
          have c0 := later hB.out (later HB1.out (later (below_one w _) c0 hb) (by omega)) (by omega)
          have rv := hro.cell (i := v) hv
          have rx := hro.cell (i := x) hx
          have fv := hro.frozen v
          have fx := hro.frozen x
          rw [hv1] at rv
          have hlx := lf_le (A := aft (List.range (l.length + 2)) (codeN l) k) (m := (codeN l).drop k) (j := x)
          rw [List.length_drop, codeN_len] at hlx
          have HN : Hid (∀ j, lf (aft (List.range (l.length + 2)) (codeN l) (k + 1)) ((codeN l).drop (k + 1)) j = if j = v then 0 else if j = x then lf (aft (List.range (l.length + 2)) (codeN l) k) ((codeN l).drop k) j - 1 else lf (aft (List.range (l.length + 2)) (codeN l) k) ((codeN l).drop k) j) := hnext
          have HE : Hid (at3 (decT l) k = tells v x) := hE
          have HRO : Hid (wr.rowIs g 3 (l.length + 2) (fun j => .int .i64 (lf (aft (List.range (l.length + 2)) (codeN l) k) ((codeN l).drop k) j))) := hro
          have HRA : Hid (wr.rowIs w1.heap.size 39 ((l.length + 1) * 3) (upto (decT l) k)) := hra
          have HX : Hid (∃ y, lf (aft (List.range (l.length + 2)) (codeN l) k) ((codeN l).drop k) x = y) := ⟨_, rfl⟩
          generalize hy : lf (aft (List.range (l.length + 2)) (codeN l) k) ((codeN l).drop k) x = y at *
          have HY : Hid (lf (aft (List.range (l.length + 2)) (codeN l) k) ((codeN l).drop k) x = y) := hy
          have hbz : b < wr.heap.size := by omega
          have hbg : b ≠ g := by omega
          clear hy hnext hE hro hra hints hat hll hv1 hvl HX hax
          go_wp2_with fail
          refine hleaf.mono ?_
          rintro e w2 ⟨rfl, hw2⟩
          subst hw2
          clear hleaf
          go_wp2_with fail
          refine (rising_any v x (by omega) (by omega) _).mono ?_
          rintro e w3 ⟨hb3, rfl⟩
          have hz3 := hb3.size
          simp only [World.size_setCell] at hz3 hb3
          have hro2 : w3.rowIs g 3 (l.length + 2) (fun j => .int .i64 (lf (aft (List.range (l.length + 2)) (codeN l) (k + 1)) ((codeN l).drop (k + 1)) j)) := by
            refine World.rowIs.of_block ?_ (hb3.block g (by omega))
            refine ((HRO.out.set v _).set x _).congr fun j hj => ?_
            rw [HN.out j]
            by_cases e1 : j = v
            · subst e1; simp [hvx]
            · by_cases e2 : j = x
              · subst e2; simp [e1, HY.out]
              · simp [e1, e2]
          have hra2 : w3.rowIs w1.heap.size 39 ((l.length + 1) * 3) (upto (decT l) k) := by
            refine World.rowIs.of_block ?_ (hb3.block w1.heap.size (by omega))
            exact (HRA.out.setOther (by simp; omega) _).setOther (by simp; omega) _
          have HB3 : Hid (Below (w.heap.size + 1) w1 w3) := ((hB.out.setCell (by simp; omega) _).setCell (by simp; omega) _).trans (hb3.mono (by omega))
          have HRO2 : Hid (w3.rowIs g 3 (l.length + 2) (fun j => .int .i64 (lf (aft (List.range (l.length + 2)) (codeN l) (k + 1)) ((codeN l).drop (k + 1)) j))) := hro2
          have hzr3 := hra2.lt
          have r0 := hra2.cell (i := k * 3) (by omega)
          have r1 := hra2.cell (i := k * 3 + 1) (by omega)
          have r2 := hra2.cell (i := k * 3 + 2) (by omega)
          have f0 := hra2.frozen (k * 3)
          have f1 := hra2.frozen (k * 3 + 1)
          have f2 := hra2.frozen (k * 3 + 2)
          have HA3 : Hid (at3 (decT l) k = ((tells v x).1, (tells v x).2.1, 0)) := by rw [Hid, HE.out]; rfl
          have HRA2 : Hid (w3.rowIs w1.heap.size 39 ((l.length + 1) * 3) (upto (decT l) k)) := hra2
          clear hro2 hra2 hb3 rv rx fv fx HRO HRA HN HE HY hB
          generalize (tells v x).1 = tf at *
          generalize (tells v x).2.1 = tt at *
          go_wp2_with fail
          go_roundw
          case rel =>
            refine ⟨k + 1, by omega, by go_num, ((HRO2.out.setOther (by simp; omega) _).setOther (by simp; omega) _).setOther (by simp; omega) _, upto_step HRA2.out (by omega) tf tt 0 HA3.out, ?_⟩
            exact ((HB3.out.setCell (by simp; omega) _).setCell (by simp; omega) _).setCell (by simp; omega) _
          case measure => simp [intOf]; omega
        · have hkl : k = l.length := by omega
          subst hkl
          obtain ⟨u, v, huv, hv, hu1, hul, hv1, hvl, hE⟩ := dec_last HL.out
          have hleaf := leaf_at (some ⟨g, 0, none⟩) (l.length + 2) _ u wr (by rw [hll]; unfold maxLen; omega) hints (by rw [hll]; omega) ((hat u (by omega)).trans hu1) (fun i hi => by rw [hat i (by omega)]; exact hul i hi)
          rw [hll] at hleaf
          have ru := hro.cell (i := u) (by omega)
          have fu := hro.frozen u
          rw [hu1] at ru
          have hro2 := hro.set u (.int .i64 0)
          have hro2 : (wr.setCell ⟨g, u, none⟩ (.int .i64 0)).rowIs g 3 (l.length + 2) (fun j => .int .i64 (if j = u then 0 else lf (aft (List.range (l.length + 2)) (codeN l) l.length) ((codeN l).drop l.length) j)) := hro2.congr fun j hj => by
            by_cases e : j = u
            · simp [e]
            · simp [e]
          have hints2 := row_ints hro2
          have hll2 : ((List.range (l.length + 2)).map (fun j => if j = u then 0 else lf (aft (List.range (l.length + 2)) (codeN l) l.length) ((codeN l).drop l.length) j)).length = l.length + 2 := by simp
          have hat2 : ∀ j, j < l.length + 2 → ati ((List.range (l.length + 2)).map (fun j => if j = u then 0 else lf (aft (List.range (l.length + 2)) (codeN l) l.length) ((codeN l).drop l.length) j)) j = if j = u then 0 else lf (aft (List.range (l.length + 2)) (codeN l) l.length) ((codeN l).drop l.length) j := fun j hj => by
            rw [ati_lt _ _ (by simpa using hj)]; simp
          have hleaf2 := leaf_at (some ⟨g, 0, none⟩) (l.length + 2) _ v _ (by rw [hll2]; unfold maxLen; omega) hints2 (by rw [hll2]; omega) ((hat2 v (by omega)).trans hv1) (fun i hi => by rw [hat2 i (by omega)]; exact hvl i hi)
          rw [hll2] at hleaf2
          have HE : Hid (at3 (decT l) l.length = tells u v) := hE
          have HRA : Hid (wr.rowIs w1.heap.size 39 ((l.length + 1) * 3) (upto (decT l) l.length)) := hra
          have HLF2 : Hid (Calls Try.prog 31 #[.slice (some ⟨g, 0, none⟩) (l.length + 2) (l.length + 2)] (wr.setCell ⟨g, u, none⟩ (.int .i64 0)) fun e w' => e = .returned (.int .i64 (v : Int)) ∧ w' = (wr.setCell ⟨g, u, none⟩ (.int .i64 0))) := hleaf2
          clear hleaf2 hE hro hra hints hat hll hints2 hll2 hat2 hro2 hu1 hul hv1 hvl
          go_wp2_with fail
          refine hleaf.mono ?_
          rintro e w2 ⟨rfl, hw2⟩
          subst hw2
          clear hleaf
          go_wp2_with fail
          refine HLF2.out.mono ?_
          rintro e w3 ⟨rfl, hw3⟩
          subst hw3
          clear HLF2
          go_wp2_with fail
          refine (rising_any u v (by omega) (by omega) _).mono ?_
          rintro e w4 ⟨hb4, rfl⟩
          have hz4 := hb4.size
          simp only [World.size_setCell] at hz4 hb4
          have hra2 : w4.rowIs w1.heap.size 39 ((l.length + 1) * 3) (upto (decT l) l.length) := by
            refine World.rowIs.of_block ?_ (hb4.block w1.heap.size (by omega))
            exact HRA.out.setOther (by simp; omega) _
          have hr1 : w4.rowIs w.heap.size 34 2 (fun j => if j = 0 then .int .i64 0 else .slice none 0 0) := by
            have q := World.rowIs_alloc w #[.int .i64 0, .slice none 0 0] 34 (fun j => if j = 0 then .int .i64 0 else .slice none 0 0) (fun i hi => by
              match i, hi with
              | 0, _ => rfl
              | 1, _ => rfl)
            refine World.rowIs.of_block ?_ (hb4.block _ (by omega))
            refine World.rowIs.setOther ?_ (by simp; omega) _
            exact (q.of_block (HB1.out.block _ (by omega))).of_block (hB.out.block _ (by omega))
          have HB4 : Hid (Below (w.heap.size + 1) w1 w4) := (hB.out.setCell (by simp; omega) _).trans (hb4.mono (by omega))
          have hzr4 := hra2.lt
          have r0 := hra2.cell (i := l.length * 3) (by omega)
          have r1 := hra2.cell (i := l.length * 3 + 1) (by omega)
          have r2 := hra2.cell (i := l.length * 3 + 2) (by omega)
          have f0 := hra2.frozen (l.length * 3)
          have f1 := hra2.frozen (l.length * 3 + 1)
          have f2 := hra2.frozen (l.length * 3 + 2)
          have HA3 : Hid (at3 (decT l) l.length = ((tells u v).1, (tells u v).2.1, 0)) := by rw [Hid, HE.out]; rfl
          have HRA2 : Hid (w4.rowIs w1.heap.size 39 ((l.length + 1) * 3) (upto (decT l) l.length)) := hra2
          have p0 := hr1.cell (i := 0) (by omega)
          have p1 := hr1.cell (i := 1) (by omega)
          have pf0 := hr1.frozen 0
          have pf1 := hr1.frozen 1
          have hzw : w.heap.size ≠ w1.heap.size := by omega
          have hzw4 : w.heap.size < w4.heap.size := by omega
          clear hra2 hb4 HRA HE hB ru fu hr1
          generalize (tells u v).1 = tf at *
          generalize (tells u v).2.1 = tt at *
          go_wp2_with fail
          refine bodyPost_ret (v := .tuple #[.agg #[.int .i64 ((l.length : Int) + 2), .slice (some ⟨w1.heap.size, 0, none⟩) (l.length + 1) (l.length + 1)], .int .i64 0]) (by simp [results, Try.results17, go_sem, p0, p1]) rfl ⟨?_, w1.heap.size, by omega, rfl, ?_⟩
          · exact ((((((below_one w _).trans (HB1.out.mono (by omega))).trans (HB4.out.mono (by omega))).setCell (by simp; omega) _).setCell (by simp; omega) _).setCell (by simp; omega) _).setCell (by simp) _ |>.setCell (by simp) _
          · exact ((upto_step HRA2.out (by omega) tf tt 0 HA3.out).setOther (by simp; omega) _).setOther (by simp; omega) _

theorem Decode_err (ao : Option Addr) (cap : Nat) (l : List Int) (w : World) (hm : l.length ≤ maxLen) (hA : IntsAt w ao l) (he : decErr l ≠ 0) :
    Calls Try.prog 17 #[.slice ao l.length cap] w fun e w' => Below w.heap.size w w' ∧ e = .returned (.tuple #[.agg #[.int .i64 0, .slice none 0 0], .int .i64 (decErr l)]) := by
  by_cases h : 10 < l.length
  · rw [show decErr l = 2 from if_pos h]
    exact Decode_large ao cap l w hm h
  · have e1 : decErr l = if l.all (fun x => decide (0 ≤ x ∧ x < ((l.length + 2 : Nat) : Int))) then 0 else 4 := if_neg h
    by_cases h2 : l.all (fun x => decide (0 ≤ x ∧ x < ((l.length + 2 : Nat) : Int))) = true
    · rw [e1, if_pos h2] at he; exact absurd rfl he
    · rw [e1, if_neg h2]
      have hex : ∃ k, k < l.length ∧ ¬ (0 ≤ ati l k ∧ ati l k < ((l.length + 2 : Nat) : Int)) := Decidable.byContradiction fun hno => h2 (List.all_eq_true.2 fun x hx => by
        obtain ⟨k, hk, rfl⟩ := List.mem_iff_getElem.1 hx
        refine decide_eq_true (Decidable.byContradiction fun hb => hno ⟨k, hk, ?_⟩)
        rwa [ati_lt l k hk])
      obtain ⟨k, ⟨hk, hbad⟩, hleast⟩ := least_of (p := fun k => k < l.length ∧ ¬ (0 ≤ ati l k ∧ ati l k < ((l.length + 2 : Nat) : Int))) hex
      exact Decode_node ao cap l w (by omega) hA k hk hbad fun j hj => Decidable.byContradiction fun hb => hleast j hj ⟨by omega, hb⟩

end Go.Proofs.Ytamckjbddnocpaa
