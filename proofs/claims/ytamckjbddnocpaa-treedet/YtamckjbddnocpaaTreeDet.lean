/- The law TreeDet, walked. -/
import Derived.Test.YtamckjbddnocpaaTDet
import Derived.Test.YtamckjbddnocpaaDDet
namespace Go.Proofs.Ytamckjbddnocpaa
open Go.RowKit
set_option linter.unusedVariables false

theorem bad_any (x : Int) (w : World) : Calls Try.prog 9 #[.int .i64 x] w fun e w' => e = .returned (.bool (!okEntry x)) ∧ w' = w := by
  by_cases h1 : x < -9
  · have : okEntry x = false := decide_eq_false (by omega)
    rw [this]
    clear this
    have hd : decide (x < -9) = true := decide_eq_true h1
    go_enter Try.func9, Try.ntmps9
    go_wp2
    go_ret
    exact ⟨rfl, rfl⟩
  · have hd : decide (x < -9) = false := decide_eq_false h1
    by_cases h2 : 9 < x
    · have : okEntry x = false := decide_eq_false (by omega)
      rw [this]
      clear this
      go_enter Try.func9, Try.ntmps9
      go_wp2
      go_ret
      exact ⟨rfl, rfl⟩
    · have : okEntry x = true := decide_eq_true (by omega)
      rw [this]
      clear this
      go_enter Try.func9, Try.ntmps9
      go_wp2
      go_ret
      exact ⟨rfl, rfl⟩

set_option maxHeartbeats 400000 in
theorem index_bad (ao : Option Addr) (cap : Nat) (l : List Int) (w : World) (hm : l.length ≤ 100) (hA : IntsAt w ao l) :
    Calls Try.prog 26 #[.slice ao l.length cap, .func (.func 9) #[] #[]] w fun e w' => w' = w ∧ ∃ i : Int, e = .returned (.int .i64 i) ∧ (0 ≤ i ↔ l.all okEntry = false) ∧ -1 ≤ i ∧ i ≤ 100 := by
  have HA : Hid (IntsAt w ao l) := hA
  clear hA
  go_enter Try.func26, Try.ntmps26
  go_wp2
  go_loopw [8] (fun i wr => ∃ k : Nat, k ≤ l.length ∧ i = .int .i64 k ∧ Hid (∀ j, j < k → okEntry (ati l j) = true) ∧ Is w wr) (fun i _ => l.length - (intOf i).toNat)
  case atStart => exact ⟨0, Nat.zero_le _, rfl, fun j hj => absurd hj (Nat.not_lt_zero _), Is.rfl w⟩
  case round =>
    obtain ⟨k, hk, rfl, hall, hw⟩ := hrel
    have hw : wr = w := hw
    subst hw
    by_cases hlt : k < l.length
    · obtain ⟨b, off, rfl, hb, c0⟩ := HA.out k hlt
      have hmem := ati_mem l k hlt
      have hC := bad_any (ati l k) wr
      by_cases hok : okEntry (ati l k) = true
      · rw [hok] at hC
        have HN : Hid (∀ j, j < k + 1 → okEntry (ati l j) = true) := fun j hj => by
          by_cases e : j = k
          · rw [e]; exact hok
          · exact hall.out j (by omega)
        have HC : Hid (Calls Try.prog 9 #[.int .i64 (ati l k)] wr fun e w' => e = .returned (.bool false) ∧ w' = wr) := hC
        clear hC hok hmem hall
        generalize ati l k = x at *
        go_wp2_with (go_at_call 9; refine Calls.mono HC.out ?_; rintro e w1 ⟨rfl, hw1⟩; subst hw1)
        go_roundw
        case rel => exact ⟨k + 1, by omega, by go_num, HN, Is.rfl _⟩
        case measure => simp [intOf]; omega
      · have hok' : okEntry (ati l k) = false := by simpa using hok
        rw [hok'] at hC
        have HF : Hid (l.all okEntry = false) := by
          rw [Hid, Bool.eq_false_iff]
          exact fun h => hok (List.all_eq_true.1 h _ hmem)
        have HC : Hid (Calls Try.prog 9 #[.int .i64 (ati l k)] wr fun e w' => e = .returned (.bool true) ∧ w' = wr) := hC
        clear hC hok hok' hmem hall
        generalize ati l k = x at *
        go_wp2_with (go_at_call 9; refine Calls.mono HC.out ?_; rintro e w1 ⟨rfl, hw1⟩; subst hw1)
        go_ret
        exact ⟨rfl, _, rfl, ⟨fun _ => HF.out, fun _ => by omega⟩, by omega, by omega⟩
    · have hx : l.all okEntry = true := List.all_eq_true.2 fun x hx => by
        obtain ⟨j, hj, rfl⟩ := List.mem_iff_getElem.1 hx
        have := hall.out j (by omega)
        rwa [ati_lt l j hj] at this
      have HX : Hid (l.all okEntry = true) := hx
      clear hx
      go_wp2
      go_ret
      exact ⟨rfl, _, rfl, ⟨fun h => absurd h (by decide), fun h => by rw [HX.out] at h; cases h⟩, by decide, by decide⟩

set_option maxHeartbeats 400000 in
theorem contains_bad (ao : Option Addr) (cap : Nat) (l : List Int) (w : World) (hm : l.length ≤ 100) (hA : IntsAt w ao l) :
    Calls Try.prog 8 #[.slice ao l.length cap, .func (.func 9) #[] #[]] w fun e w' => w' = w ∧ e = .returned (.bool (!l.all okEntry)) := by
  have hc := index_bad ao cap l w hm hA
  clear hA
  cases hb : l.all okEntry with
  | false =>
    have HC : Hid (Calls Try.prog 26 #[.slice ao l.length cap, .func (.func 9) #[] #[]] w fun e w' => w' = w ∧ ∃ i : Int, e = .returned (.int .i64 i) ∧ 0 ≤ i ∧ i ≤ 100) :=
      hc.mono fun e w' ⟨h, i, h1, h2, h3, h4⟩ => ⟨h, i, h1, h2.2 hb, h4⟩
    clear hc hb
    go_enter Try.func8, Try.ntmps8
    go_wp2_with (go_at_call 26; refine HC.out.mono ?_; rintro e w1 ⟨hw1, i, rfl, h1, h2⟩; subst hw1)
    go_ret
    exact ⟨rfl, rfl⟩
  | true =>
    have HC : Hid (Calls Try.prog 26 #[.slice ao l.length cap, .func (.func 9) #[] #[]] w fun e w' => w' = w ∧ ∃ i : Int, e = .returned (.int .i64 i) ∧ ¬ 0 ≤ i) :=
      hc.mono fun e w' ⟨h, i, h1, h2, h3, h4⟩ => ⟨h, i, h1, fun h5 => by have := h2.1 h5; rw [hb] at this; cases this⟩
    clear hc hb
    go_enter Try.func8, Try.ntmps8
    go_wp2_with (go_at_call 26; refine HC.out.mono ?_; rintro e w1 ⟨hw1, i, rfl, h1⟩; subst hw1; have hd : decide (0 ≤ i) = false := decide_eq_false h1)
    go_ret
    exact ⟨rfl, rfl⟩

/-- what the law asks for when k rows are read -/
def wantAt (l : List RowV) (k : Nat) : Int := if 7 < l.length then 2 else rowsErr l.length (l.take k)

theorem rowsErr_snoc (n : Nat) (r : RowV) : ∀ l : List RowV, rowsErr n (l ++ [r]) = if rowsErr n l = 0 then rowErr n r.l else rowsErr n l
  | [] => by
    show (if rowErr n r.l = 0 then 0 else rowErr n r.l) = _
    simp only [rowsErr, if_true]
    by_cases e : rowErr n r.l = 0
    · rw [if_pos e, e]
    · rw [if_neg e]
  | x :: xs => by
    show (if rowErr n x.l = 0 then rowsErr n (xs ++ [r]) else rowErr n x.l) = _
    by_cases e : rowErr n x.l = 0
    · rw [if_pos e, rowsErr_snoc n r xs]; simp only [rowsErr, if_pos e]
    · rw [if_neg e]; simp only [rowsErr, if_neg e]

theorem wantAt_zero (l : List RowV) : wantAt l 0 = if 7 < l.length then 2 else 0 := rfl
theorem wantAt_all (l : List RowV) : wantAt l l.length = detErr l := by unfold wantAt detErr; rw [List.take_of_length_le (Nat.le_refl _)]
theorem wantAt_stay {l : List RowV} {k : Nat} (hk : k < l.length) (h : wantAt l k ≠ 0) : wantAt l (k + 1) = wantAt l k := by
  unfold wantAt at *
  by_cases e : 7 < l.length
  · rw [if_pos e, if_pos e]
  · rw [if_neg e] at h ⊢
    rw [if_neg e, List.take_add_one, List.getElem?_eq_getElem hk]
    simp only [Option.toList_some]
    rw [rowsErr_snoc, if_neg h]
theorem wantAt_next {l : List RowV} {k : Nat} (hk : k < l.length) (h : wantAt l k = 0) : wantAt l (k + 1) = rowErr l.length (atr l k).l ∧ l.length ≤ 7 := by
  unfold wantAt at *
  by_cases e : 7 < l.length
  · rw [if_pos e] at h; cases h
  · rw [if_neg e] at h ⊢
    refine ⟨?_, by omega⟩
    rw [List.take_add_one, List.getElem?_eq_getElem hk, atr_lt l k hk]
    simp only [Option.toList_some]
    rw [rowsErr_snoc, if_pos h]

set_option maxRecDepth 10000 in
set_option maxHeartbeats 1000000 in
theorem TreeDet_any (ao : Option Addr) (cap : Nat) (l : List RowV) (w : World) (hR : RowsIn w ao cap l) :
    Calls Try.prog 3 #[.slice ao l.length cap] w fun e w' => e = .returned (.bool true) ∧ Below w.heap.size w w' := by
  have hdet := Det_any ao cap l w hR
  have hmax := Nat.le_trans hR.le hR.max
  unfold maxLen at hmax
  have HR : Hid (RowsIn w ao cap l) := hR
  obtain ⟨W0, hW0⟩ : ∃ W0 : Int, W0 = wantAt l 0 := ⟨_, rfl⟩
  have HW0 : Hid (W0 = wantAt l 0) := hW0
  have HV : Hid (True) := trivial
  clear hR hW0
  generalize hE : detErr l = E at *
  generalize hD : detV l = D at *
  have HE : Hid (detErr l = E) := hE
  have HD : Hid (detV l = D) := hD
  clear hE hD
  have hne0 : ((0 : Int) != 0) = false := rfl
  have heq0 : ((0 : Int) == 0) = true := rfl
  have heq2 : ((2 : Int) == 0) = false := rfl
  have heq3 : ((3 : Int) == 0) = false := rfl
  have heq1 : ((1 : Int) == 0) = false := rfl
  go_enter Try.func3, Try.ntmps3
  go_wp2_with fail
  refine hdet.mono ?_
  rintro e w1 ⟨hw1, rfl⟩
  subst hw1
  clear hdet
  by_cases h7 : 7 < l.length
  all_goals
    have HW : Hid (W0 = if 7 < l.length then 2 else 0) := by rw [Hid, HW0.out, wantAt_zero]
    simp only [h7, if_true, if_false] at HW
    have h7I : ((7 : Int) < (l.length : Int)) ↔ 7 < l.length := by omega
    simp only [h7] at h7I
    go_wp2_with fail
    go_loopw [5, 18] (fun s i wr => ∃ k : Nat, k ≤ l.length ∧ i = .int .i64 k ∧ s = .int .i64 (wantAt l k) ∧ Is w1 wr) (fun _ i _ => l.length - (intOf i).toNat)
    case atStart => exact ⟨0, Nat.zero_le _, rfl, by rw [← HW0.out, HW.out], Is.rfl _⟩
    case round =>
      obtain ⟨k, hk, rfl, rfl, hw⟩ := hrel
      have hw : wr = w1 := hw
      subst hw
      by_cases hlt : k < l.length
      · obtain ⟨b, off, rfl, hb, c0, hat⟩ := HR.out.rows k hlt
        by_cases hwk : wantAt l k = 0
        · obtain ⟨hnx, hl7⟩ := wantAt_next hlt hwk
          rw [hwk]
          have HNx : Hid (wantAt l (k + 1) = rowErr l.length (atr l k).l) := hnx
          have hcm := hat.max
          have hcl := hat.le
          unfold RowV.val at c0
          by_cases hln : (atr l k).l.length = l.length
          · have hcall := contains_bad (atr l k).ao (atr l k).cap (atr l k).l wr (by omega) hat.ints
            rw [hln] at hcall c0
            have hnn : ((l.length : Int) != (l.length : Int)) = false := by simp
            have HRe : Hid (rowErr l.length (atr l k).l = if (atr l k).l.all okEntry then 0 else 1) := by rw [Hid, rowErr, if_neg (fun h => h hln)]
            generalize (atr l k).ao = ra at *
            generalize (atr l k).cap = rc at *
            clear hnx hwk hat hln hcl
            cases hbb : (atr l k).l.all okEntry
            · rw [hbb] at hcall
              have HR1 : Hid (wantAt l (k + 1) = 1) := by rw [Hid, HNx.out, HRe.out, hbb]; rfl
              clear hbb HRe HNx
              go_wp2_with (go_at_call 8; refine hcall.mono ?_; rintro e w2 ⟨hw2, rfl⟩; subst hw2)
              go_roundw
              case rel => exact ⟨k + 1, by omega, by go_num, by rw [HR1.out], Is.rfl _⟩
              case measure => simp [intOf]; omega
            · rw [hbb] at hcall
              have HR1 : Hid (wantAt l (k + 1) = 0) := by rw [Hid, HNx.out, HRe.out, hbb]; rfl
              clear hbb HRe HNx
              go_wp2_with (go_at_call 8; refine hcall.mono ?_; rintro e w2 ⟨hw2, rfl⟩; subst hw2)
              go_roundw
              case rel => exact ⟨k + 1, by omega, by go_num, by rw [HR1.out], Is.rfl _⟩
              case measure => simp [intOf]; omega
          · have HR1 : Hid (wantAt l (k + 1) = 3) := by rw [Hid, HNx.out, rowErr, if_pos hln]
            have hnn : (((atr l k).l.length : Int) != (l.length : Int)) = true := by simp; omega
            generalize (atr l k).l.length = rn at *
            generalize (atr l k).ao = ra at *
            generalize (atr l k).cap = rc at *
            clear hnx hwk hat hln hcl HNx
            go_wp2_with fail
            go_roundw
            case rel => exact ⟨k + 1, by omega, by go_num, by rw [HR1.out], Is.rfl _⟩
            case measure => simp [intOf]; omega
        · have HSt : Hid (wantAt l (k + 1) = wantAt l k) := wantAt_stay hlt hwk
          have hwe : (wantAt l k == 0) = false := by simpa using hwk
          generalize wantAt l k = W at *
          unfold RowV.val at c0
          generalize (atr l k).l.length = rn at *
          generalize (atr l k).ao = ra at *
          generalize (atr l k).cap = rc at *
          clear hwk hat
          go_wp2_with fail
          go_roundw
          case rel => exact ⟨k + 1, by omega, by go_num, by rw [HSt.out], Is.rfl _⟩
          case measure => simp [intOf]; omega
      · obtain rfl : k = l.length := by omega
        rw [wantAt_all, HE.out]
        by_cases hE0 : E = 0
        · subst hE0
          obtain ⟨d1, d2, d3⟩ := detErr_ok HE.out
          have hcall := DetOf_any l.length d1 ao cap l wr HR.out rfl d2 (fun i k hi hk => by have := d3 i k hi hk; omega)
          rw [← detV_ok HE.out, HD.out] at hcall
          have hDD : (D == D) = true := beq_self_eq_true D
          clear d1 d2 d3 HV
          go_wp2_with (go_at_call 10; refine hcall.mono ?_; rintro e w2 ⟨hb2, rfl⟩; have HB2 : Hid (Below wr.heap.size wr w2) := hb2; clear hb2)
          go_ret
          exact ⟨rfl, HB2.out⟩
        · obtain rfl : D = 0 := by rw [← HD.out]; exact detV_err (by rw [HE.out]; exact hE0)
          have hEn : (E != 0) = true := by simpa using hE0
          have hEE : (E == E) = true := beq_self_eq_true E
          clear hE0 HV
          go_wp2_with fail
          go_ret
          exact ⟨rfl, Below.refl _ _⟩

end Go.Proofs.Ytamckjbddnocpaa
