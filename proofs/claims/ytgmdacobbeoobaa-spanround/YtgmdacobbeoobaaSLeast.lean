/- span.Least keeps its contract. -/
import Derived.Test.YtgmdacobbeoobaaSOrd
import Derived.Test.YtgmdacobbeoobaaSJoin
import Derived.Test.YtgmdacobbeoobaaShelf
import Derived.Test.YtgmdacobbeoobaaGraph
namespace Go.Proofs.Ytgmdacobbeoobaa
open Go.RowKit
set_option linter.unusedVariables false

theorem numK_atn {O : List Nat} {k : Nat} (h : k < O.length) : ati (numK O) k = (atn O k : Int) := numK_at h
theorem sorted_is {L M : List Int} (hp : L.Perm M) (hM : M.Pairwise (fun x y => x ≤ y)) : sorted L = M :=
  List.Perm.eq_of_pairwise (fun a b _ _ h1 h2 => by omega) (sorted_le L) hM ((sorted_perm L).trans hp)

theorem Only.more {b : Nat} {w x y : World} {row : Option Nat} (h : Only b w x) (hg : x.grownBy y row) (hr : ∀ g, row = some g → w.heap.size ≤ g) : Only b w y :=
  ⟨hg.os.trans h.os, hg.tape.trans h.tape, hg.output.trans h.output, Nat.le_trans h.size hg.size, fun k hk hne =>
    (hg.block k (Nat.lt_of_lt_of_le hk h.size) (fun e => by have := hr k e.symm; omega)).trans (h.block k hk hne)⟩
theorem Only.trans {b : Nat} {w x y : World} (h : Only b w x) (h2 : Only b x y) : Only b w y :=
  ⟨h2.os.trans h.os, h2.tape.trans h.tape, h2.output.trans h.output, Nat.le_trans h.size h2.size, fun k hk hne => (h2.block k (Nat.lt_of_lt_of_le hk h.size) hne).trans (h.block k hk hne)⟩
theorem Only.owns {b : Nat} {w w' : World} (h : Only b w w') {B n s : Nat} {t : TypeId} {v : Value} {xs : List Value} (ho : w.ownsRow B t s v n xs) (hb : b < B) : w'.ownsRow B t s v n xs := by
  refine ho.kept h.grown ?_
  rcases ho.2 with ⟨rfl, _⟩ | ⟨g, _, _, rfl, hB, _⟩
  · exact Or.inl rfl
  · exact Or.inr fun e => by simp only [Value.ownBlock, Option.some.injEq] at e; omega
theorem own_from {w : World} {B n s : Nat} {t : TypeId} {v : Value} {xs : List Value} (ho : w.ownsRow B t s v n xs) : ∀ g, v.ownBlock = some g → B ≤ g := by
  intro g hg
  rcases ho.2 with ⟨rfl, _⟩ | ⟨g', _, _, rfl, hB, _⟩
  · cases hg
  · simp only [Value.ownBlock, Option.some.injEq] at hg; omega

theorem tk_names {N : Nat} {l : List Arc3} {O : List Nat} {k f t : Nat} {F : Nat → Int} (hO : OrdIs l O) (hk : k < O.length) (hF : NamesIs N (seen l O k) F) (hf : f < N) (ht : t < N) (ef : (at3 l (atn O k)).1 = (f : Int)) (et : (at3 l (atn O k)).2.1 = (t : Int)) :
    tk l (atn O k) = true ↔ F f ≠ F t := by
  rw [tk_true, ef, et, ← hO.seen_bef hk, ← hF f t hf ht]
theorem names_step {N : Nat} {l : List Arc3} {O : List Nat} {k f t : Nat} {F : Nat → Int} (hk : k < O.length) (hF : NamesIs N (seen l O k) F) (hf : f < N) (ht : t < N) (ef : (at3 l (atn O k)).1 = (f : Int)) (et : (at3 l (atn O k)).2.1 = (t : Int)) :
    NamesIs N (seen l O (k + 1)) (fun j => if F j = F f then F t else F j) :=
  (hF.join (at3 l (atn O k)) hf ht ef et).same fun a => seen_snoc l O k hk a

set_option maxHeartbeats 4000000 in
set_option maxRecDepth 100000 in
theorem Least_any : LeastC := by
  intro n ao cap l w hG
  have hm := hG.len
  have hA0 := hG.arcs.alloc (.cells #[.int .i64 n, .slice ao l.length cap] 24)
  have x0 := blk_new w (.cells #[.int .i64 n, .slice ao l.length cap] 24)
  go_enter Try.func8, Try.ntmps8
  go_wp2_with fail
  refine (CheckLong_any _ _ _ _ _ hm hA0).mono ?_
  rintro e w1 ⟨rfl, hb1⟩
  simp only [World.size_alloc] at hb1
  have hz1 := hb1.size
  simp only [World.size_alloc] at hz1
  have x1 := blk_below hb1 x0 (by omega)
  have hbb1 := below_in hb1 (by omega)
  have hA1 := hA0.below hb1 (by simp)
  obtain ⟨r0, r1, f0, f1⟩ := blk2 x1
  clear hb1 hA0 x0
  by_cases hE : graphErr n (-10000) l = 0
  · rw [hE]
    have h00 : ((0 : Int) != 0) = false := rfl
    obtain ⟨⟨hn1, hn2⟩, hl60, hall⟩ := err_ok hE
    obtain ⟨N, rfl⟩ := Int.eq_ofNat_of_zero_le (show 0 ≤ n by omega)
    have hN12 : N ≤ 12 := by omega
    have HL : Hid (∀ a ∈ l, (0 ≤ a.1 ∧ a.1 < (N : Int)) ∧ (0 ≤ a.2.1 ∧ a.2.1 < (N : Int)) ∧ -10000 ≤ a.2.2 ∧ a.2.2 ≤ 10000) := hall
    have H60 : Hid (l.length ≤ 60) := hl60
    have HE0 : Hid (graphErr (N : Int) (-10000) l = 0) := hE
    clear hE hall hn1 hn2 hl60
    go_wp2_with fail
    refine (risingN_any N (by omega) _).mono ?_
    rintro e w2 ⟨hb2, c, hc, rfl, hF2⟩
    have hz2 := hb2.size
    have x2 := blk_below hb2 x1 (by omega)
    have hA2 := hA1.below hb2 (Nat.le_refl _)
    have hbb2 := hbb1.trans (hb2.mono (by omega))
    have hcl := hF2.lt
    have hab : ∀ b off, ao = some ⟨b, off, none⟩ → 0 < l.length → b < w.heap.size := fun b off e h0 => by
      obtain ⟨_, _, e', hlt, _⟩ := hG.arcs 0 h0
      rw [e] at e'
      cases e'
      exact hlt
    clear r0 r1 f0 f1 hb2 x1 hA1 hbb1
    obtain ⟨r0, r1, f0, f1⟩ := blk2 x2
    go_wp2_with fail
    refine (cheapFirst_any ao cap l _ H60.out hA2).mono ?_
    rintro e w3 ⟨hb3, b, O, rfl, hb, hO, hI3⟩
    have hz3 := hb3.size
    have x3 := blk_below hb3 x2 (by omega)
    have hA3 := hA2.below hb3 (Nat.le_refl _)
    have hbb3 := hbb2.trans (hb3.mono (by omega))
    have hF3 := hF2.of_block (hb3.block c hcl)
    have hcl3 : c < w3.heap.size := by omega
    have hbc : b ≠ c := by omega
    have hwc : w.heap.size < c := by omega
    have HO : Hid (OrdIs l O) := hO
    have HOl : Hid (O.length = l.length) := hO.len
    have HI : Hid (IntsAt w3 (some ⟨b, 0, none⟩) (numK O)) := hI3
    have HF : Hid (w3.rowIs c 3 N (fun j => .int .i64 ((j : Nat) : Int))) := hF3
    have HA : Hid (ArcsAt w3 ao l) := hA3
    have HX : Hid (w3.heap[w.heap.size]? = some (.cells #[.int .i64 (N : Int), .slice ao l.length cap] 24 (0, 0))) := x3
    have HB : Hid (Below w.heap.size w w3) := hbb3
    have HAB : Hid (∀ b off, ao = some ⟨b, off, none⟩ → 0 < l.length → b < w.heap.size) := hab
    clear r0 r1 f0 f1 hb3 x2 hA2 hbb2 hF2 hO hI3 hF3 hA3 x3 hbb3 hab hcl hG
    go_wp2_with fail
    go_loopw [6, 7, 23] (fun v s i wr => ∃ (k : Nat) (F : Nat → Int), k ≤ l.length ∧ i = .int .i64 k ∧ s = .int .i64 (sumK l (takenK l O k)) ∧ wr.ownsRow w3.heap.size 3 1 v (takenK l O k).length (flati (numK (takenK l O k))) ∧ wr.rowIs c 3 N (fun j => .int .i64 (F j)) ∧ NamesIs N (seen l O k) F ∧ Only c w3 wr) (fun _ _ i _ => l.length - (intOf i).toNat)
    case atStart => exact ⟨0, fun j => (j : Int), Nat.zero_le _, rfl, rfl, World.ownsRow_nil _ _ _ _, HF.out, names_start N, Only.refl _ _⟩
    case round =>
      obtain ⟨k, F, hk, rfl, rfl, hown, hrow, hNm, hOn⟩ := hrel
      have hz := hOn.size
      have x4 := hOn.blk HX.out (by omega)
      obtain ⟨r0, r1, f0, f1⟩ := blk2 x4
      have hwl : w.heap.size < wr.heap.size := by omega
      by_cases hlt : k < l.length
      · have hkO : k < O.length := by rw [HOl.out]; exact hlt
        obtain ⟨i, hi⟩ : ∃ i, atn O k = i := ⟨_, rfl⟩
        have hil : i < l.length := by rw [← hi]; exact HO.out.lt (atn_mem O k hkO)
        obtain ⟨_, _, e, _, o0⟩ := hOn.ints HI.out (fun c' off' e => by cases e; exact hbc) k (by rw [numK_len]; exact hkO)
        cases e
        rw [numK_atn hkO, hi, Nat.zero_add] at o0
        have hbl : b < wr.heap.size := by omega
        have hA4 : ArcsAt wr ao l := hOn.arcs HA.out fun c' off' e => by have := HAB.out c' off' e (by omega); omega
        obtain ⟨ba, off, rfl, hba, c0, c1, c2⟩ := hA4 i hil
        have hbac := HAB.out ba off rfl (by omega)
        have hmem := HL.out _ (at3_mem l i hil)
        obtain ⟨a, ha⟩ : ∃ a, at3 l i = a := ⟨_, rfl⟩
        rw [ha] at c0 c1 c2 hmem
        obtain ⟨f, t, x⟩ := a
        simp only at c0 c1 c2 hmem
        obtain ⟨⟨p1, p2⟩, ⟨p3, p4⟩, p5, p6⟩ := hmem
        obtain ⟨f, rfl⟩ := Int.eq_ofNat_of_zero_le p1
        obtain ⟨t, rfl⟩ := Int.eq_ofNat_of_zero_le p3
        have hf : f < N := by omega
        have ht : t < N := by omega
        have HT : Hid (tk l i = true ↔ F f ≠ F t) := by
          rw [Hid, ← hi]
          exact tk_names HO.out hkO hNm hf ht (by rw [hi, ha]) (by rw [hi, ha])
        have HN : Hid (NamesIs N (seen l O (k + 1)) (fun j => if F j = F f then F t else F j)) := names_step hkO hNm hf ht (by rw [hi, ha]) (by rw [hi, ha])
        have HJ : Hid (Calls Try.prog 21 #[.slice (some ⟨c, 0, none⟩) N N, .agg #[.int .i64 (f : Int), .int .i64 (t : Int), .int .i64 x]] wr fun e w' => e = .returned (.bool (decide (F f ≠ F t))) ∧ Only c wr w' ∧ w'.rowIs c 3 N (fun j => .int .i64 (if F j = F f then F t else F j))) := joinN_any N c f t x F wr (by omega) hf ht hrow
        have HW : Hid (wr.ownsRow w3.heap.size 3 1 u6 (takenK l O k).length (flati (numK (takenK l O k)))) := hown
        have HOn : Hid (Only c w3 wr) := hOn
        have HI2 : Hid (atn O k = i) := hi
        have HA2 : Hid (at3 l i = ((f : Int), (t : Int), x)) := ha
        have HM : Hid (∀ j ∈ takenK l O k, j < l.length) := fun j hj => HO.out.lt (List.mem_of_mem_take (List.mem_filter.1 hj).1)
        clear hown hrow hNm hOn hi ha x4 hA4
        go_wp2_with fail
        refine Calls.mono HJ.out ?_
        rintro e w5 ⟨rfl, hO5, hr5⟩
        clear HJ
        have hz5 := hO5.size
        have y5 := (HOn.out.trans hO5).blk HX.out (by omega)
        have HO5 : Hid (Only c w3 w5) := HOn.out.trans hO5
        have HW5 : Hid (w5.ownsRow w3.heap.size 3 1 u6 (takenK l O k).length (flati (numK (takenK l O k)))) := hO5.owns HW.out hcl3
        have c2' : w5.cell? ⟨ba, off + i * 3 + 2, none⟩ = some (.int .i64 x) := (hO5.grown.cell c2 (fun e => (show ba ≠ c by omega) (Option.some.inj e)))
        have HR5 : Hid (w5.rowIs c 3 N (fun j => .int .i64 (if F j = F f then F t else F j))) := hr5
        have hba5 : ba < w5.heap.size := by omega
        have hw5 : w.heap.size < w5.heap.size := by omega
        clear hO5 hr5 HW HOn r0 r1 f0 f1 c0 c1 c2
        obtain ⟨r0, r1, f0, f1⟩ := blk2 y5
        by_cases g : F f = F t
        · have hd : decide (F f ≠ F t) = false := by simp [g]
          rw [hd]
          have HK : Hid (takenK l O (k + 1) = takenK l O k) := takenK_no hkO (by rw [HI2.out]; exact Bool.eq_false_iff.2 fun h => HT.out.1 h g)
          have h60 := H60.out
          clear hd g
          go_wp2
          go_roundw
          case rel => exact ⟨k + 1, _, by omega, by go_num, by rw [HK.out], by rw [HK.out]; exact HW5.out, HR5.out, HN.out, HO5.out⟩
          case measure => simp [intOf]; omega
        · have hd : decide (F f ≠ F t) = true := by simp [g]
          rw [hd]
          have hsn : takenK l O (k + 1) = takenK l O k ++ [i] := by rw [takenK_yes hkO (by rw [HI2.out]; exact HT.out.2 g), HI2.out]
          have HS : Hid (flati (numK (takenK l O (k + 1))) = flati (numK (takenK l O k)) ++ [.int .i64 (i : Int)]) := by rw [Hid, hsn, numK_snoc, flati, List.map_append]; rfl
          have HLn : Hid ((takenK l O (k + 1)).length = (takenK l O k).length + 1) := by rw [Hid, hsn]; simp
          have HSm : Hid (sumK l (takenK l O (k + 1)) = sumK l (takenK l O k) + x) := by rw [Hid, hsn, sumK_snoc, HA2.out]
          have hbd := sumK_bound (l := l) (fun a ha => (HL.out a ha).2.2) (takenK l O k) HM.out
          have hle := takenK_le l O k
          have h60 := H60.out
          have hs1 : -1000000 ≤ sumK l (takenK l O k) ∧ sumK l (takenK l O k) ≤ 1000000 := by omega
          have hle60 : (takenK l O k).length ≤ 60 := by omega
          have HB0 : Hid (∀ g, u6.ownBlock = some g → w3.heap.size ≤ g) := own_from HW5.out
          have hown5 := HW5.out
          obtain ⟨i0, hi, hy0, hy1, hy2⟩ := info_parts infoInt
          generalize sumK l (takenK l O k) = sm at *
          generalize hln : (takenK l O k).length = ln at *
          clear hd g hsn hbd HT HM hln
          go_wp2_with (at_builtin; refine wpList_append_own _ rfl (.tmp 34) (.tmp 36) 27 rfl w3.heap.size 3 i0 _ 1 8 Try.underlying27 hi hy0 hy1 hy2 rfl (by decide) _ _ _ rfl (hown5.alloc _) ⟨w5.heap.size, 0, none⟩ 1 1 [.int .i64 (i : Int)] rfl rfl ?c1 ?c2 ?c3 ?c4 ?c5 ?_)
          case c1 =>
            intro j u hj
            match j, hj with
            | 0, hj =>
              simp at hj; subst hj
              exact newest (w := w5) #[.int .i64 (i : Int)] 3 0
          case c2 => intro u hu; simp at hu; subst hu; rfl
          case c3 => unfold maxLen; omega
          case c4 => omega
          case c5 => simp; omega
          · intro v' w6 hown' hgrow _
            rw [← HS.out, ← HLn.out] at hown'
            have hz6 := hgrow.size
            simp only [World.size_alloc] at hz6
            have HO6 : Hid (Only c w3 w6) := (HO5.out.alloc _).more hgrow HB0.out
            have HR6 : Hid (w6.rowIs c 3 N (fun j => .int .i64 (if F j = F f then F t else F j))) := (HR5.out.alloc _).of_block (hgrow.block c (by simp; omega) fun e => by have := HB0.out c e.symm; omega)
            have hne : some ba ≠ u6.ownBlock := fun e => by have := HB0.out ba e.symm; omega
            have c2'' : w6.cell? ⟨ba, off + i * 3 + 2, none⟩ = some (.int .i64 x) := hgrow.cell (later (below_one w5 _) c2' hba5) hne
            have y6 : w6.heap[w.heap.size]? = some (.cells #[.int .i64 (N : Int), .slice (some ⟨ba, off, none⟩) l.length cap] 24 (0, 0)) := (hgrow.block w.heap.size (by simp; omega) fun e => by have := HB0.out _ e.symm; omega).trans (blk_old y5 _)
            have HW6 : Hid (w6.ownsRow w3.heap.size 3 1 v' (takenK l O (k + 1)).length (flati (numK (takenK l O (k + 1))))) := hown'
            have hba6 : ba < w6.heap.size := by omega
            clear hown' hgrow hown5 HW5 HR5 HO5 r0 r1 f0 f1 y5 c2' hne
            obtain ⟨r0, r1, f0, f1⟩ := blk2 y6
            go_wp2
            go_roundw
            case rel => exact ⟨k + 1, _, by omega, by go_num, by rw [HSm.out], HW6.out, HR6.out, HN.out, HO6.out⟩
            case measure => simp [intOf]; omega
      · have hkl : k = l.length := by omega
        subst hkl
        have hpm := HO.out.taken (l := l) (O := O) (k := l.length) (by rw [HOl.out]; exact Nat.le_refl _)
        have HSr : Hid (sorted (numK (takenK l O l.length)) = numK (leastK l)) := sorted_is (numK_perm hpm) (numK_up (leastK_is l).up)
        have HSm : Hid (sumK l (takenK l O l.length) = sumK l (leastK l)) := sumK_perm l hpm
        have hle := takenK_le l O l.length
        have hown2 := hown
        rw [← numK_len] at hown2
        have h60 := H60.out
        have hs := sortInts w3.heap.size u6 (numK (takenK l O l.length)) wr hown2 hz (by rw [numK_len]; omega)
        rw [HSr.out] at hs
        have HW : Hid (Below w.heap.size w wr) := HB.out.trans (hOn.below (by omega) (by omega))
        clear hown hown2 hrow hNm hpm x4 r0 r1 f0 f1
        go_wp2_with fail
        refine hs.mono ?_
        rintro e w6 ⟨rfl, hb6, ho6⟩
        obtain ⟨ao6, cap6, rfl, hI6, _, _, _⟩ := owns_ints ho6
        have HI6 : Hid (IntsAt w6 ao6 (numK (leastK l))) := hI6
        have HB6 : Hid (Below w.heap.size w w6) := HW.out.trans (hb6.mono (by omega))
        clear hs hb6 ho6 hI6
        go_wp2
        go_ret3
        exact ⟨HB6.out, ao6, cap6, leastK l, sumK l (takenK l O l.length), by rw [numK_len, HE0.out]; rfl, HI6.out, fun h => absurd HE0.out h, fun _ => ⟨leastK_is l, HSm.out⟩⟩
  · have hE' : (graphErr n (-10000) l != 0) = true := by simpa using hE
    have HE : Hid (graphErr n (-10000) l ≠ 0) := hE
    clear hE
    go_wp2
    go_ret3
    exact ⟨hbb1, none, 0, [], 0, rfl, fun i hi => absurd hi (by simp [numK]), fun _ => ⟨rfl, rfl⟩, fun h => absurd h HE.out⟩

end Go.Proofs.Ytgmdacobbeoobaa
