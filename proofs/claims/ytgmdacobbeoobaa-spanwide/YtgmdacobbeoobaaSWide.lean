/- span.Wide keeps its contract. -/
import Derived.Test.YtgmdacobbeoobaaSLeast
import Derived.BigQuiet
namespace Go.Proofs.Ytgmdacobbeoobaa
open Go.RowKit
set_option linter.unusedVariables false

theorem wide_bad {n s t : Int} {l : List Arc3} (h : graphErr n (-10000) l ≠ 0) : WideIs n l s t 0 (graphErr n (-10000) l) :=
  ⟨fun _ => rfl, fun _ => rfl, fun h' => absurd h' h, fun h' => absurd h' h, fun h' => absurd h' h, fun h' => absurd h' h⟩
theorem wide_node {n s t : Int} {l : List Arc3} (h : graphErr n (-10000) l = 0) (hn : ¬ ((0 ≤ s ∧ s < n) ∧ (0 ≤ t ∧ t < n))) : WideIs n l s t 0 4 :=
  ⟨fun _ => rfl, fun h' => absurd h h', fun _ _ => rfl, fun _ h' => absurd h' hn, fun _ h' => absurd h' hn, fun _ h' => absurd h' hn⟩
theorem wide_form {n s t : Int} {l : List Arc3} (h : graphErr n (-10000) l = 0) (hn : (0 ≤ s ∧ s < n) ∧ (0 ≤ t ∧ t < n)) (e : s = t) : WideIs n l s t 0 3 :=
  ⟨fun _ => rfl, fun h' => absurd h h', fun _ h' => absurd hn h', fun _ _ _ => rfl, fun _ _ h' => absurd e h', fun _ _ h' => absurd e h'⟩
theorem wide_none {n s t : Int} {l : List Arc3} (h : graphErr n (-10000) l = 0) (hn : (0 ≤ s ∧ s < n) ∧ (0 ≤ t ∧ t < n)) (e : s ≠ t) (hj : ¬ Jn l s t) : WideIs n l s t 0 5 :=
  ⟨fun _ => rfl, fun h' => absurd h h', fun _ h' => absurd hn h', fun _ _ h' => absurd h' e, fun _ _ _ _ => rfl, fun _ _ _ h' => absurd h' hj⟩
theorem wide_some {n s t : Int} {l : List Arc3} {O : List Nat} {k : Nat} (h : graphErr n (-10000) l = 0) (hn : (0 ≤ s ∧ s < n) ∧ (0 ≤ t ∧ t < n)) (e : s ≠ t) (hO : OrdIs l O) (hk : k < O.length) (hj : Jn (seen l O (k + 1)) s t) (hno : ¬ Jn (seen l O k) s t) :
    WideIs n l s t (at3 l (atn O k)).2.2 0 :=
  have hall : Jn l s t := hj.mono fun a ha => by
    obtain ⟨j, hj, rfl⟩ := List.mem_map.1 ha
    exact at3_mem l j (hO.lt (List.mem_of_mem_take hj))
  ⟨fun h' => absurd rfl h', fun h' => absurd h h', fun _ h' => absurd hn h', fun _ _ h' => absurd h' e, fun _ _ _ h' => absurd hall h', fun _ _ _ _ => ⟨rfl, hO.wide hk hj hno⟩⟩

set_option maxHeartbeats 4000000 in
set_option maxRecDepth 100000 in
theorem Wide_any : WideC := by
  intro n s t ao cap l w hG
  have hm := hG.len
  have hA0 := hG.arcs.alloc (.cells #[.int .i64 n, .slice ao l.length cap] 24)
  have x0 := blk_new w (.cells #[.int .i64 n, .slice ao l.length cap] 24)
  go_enter Try.func15, Try.ntmps15
  go_wp2_with fail
  refine (CheckLong_any _ _ _ _ _ hm hA0).mono ?_
  rintro e w1 ⟨rfl, hb1⟩
  simp only [World.size_alloc] at hb1
  have hz1 := hb1.size
  simp only [World.size_alloc] at hz1
  have x1 := blk_below hb1 x0 (by omega)
  have hbb1 := below_in hb1 (by omega)
  have hA1 := hA0.below hb1 (by simp)
  obtain ⟨r0, r1, f0, f1⟩ := blk2 x1
  clear hb1 hA0 x0
  by_cases hE : graphErr n (-10000) l = 0
  · rw [hE]
    have h00 : ((0 : Int) != 0) = false := rfl
    have HE : Hid (graphErr n (-10000) l = 0) := hE
    have hab : ∀ b off, ao = some ⟨b, off, none⟩ → 0 < l.length → b < w.heap.size := fun b off e h0 => by
      obtain ⟨_, _, e', hlt, _⟩ := hG.arcs 0 h0
      rw [e] at e'
      cases e'
      exact hlt
    clear hG
    by_cases hs : 0 ≤ s ∧ s < n
    · have hsd : decide (0 ≤ s ∧ s < n) = true := decide_eq_true hs
      have HS : Hid (0 ≤ s ∧ s < n) := hs
      clear hs hE
      go_wp2_with fail
      refine (isNodeS_any n s ao l.length cap w1).mono ?_
      rintro e w2 ⟨rfl, hb2⟩
      have hz2 := hb2.size
      have x2 := blk_below hb2 x1 (by omega)
      have hA2 := hA1.below hb2 (Nat.le_refl _)
      have hbb2 := hbb1.trans (hb2.mono (by omega))
      clear r0 r1 f0 f1 hb2 x1 hA1 hbb1
      obtain ⟨r0, r1, f0, f1⟩ := blk2 x2
      rw [hsd]
      go_wp2_with fail
      refine (isNodeS_any n t ao l.length cap w2).mono ?_
      rintro e w3 ⟨rfl, hb3⟩
      have hz3 := hb3.size
      have x3 := blk_below hb3 x2 (by omega)
      have hA3 := hA2.below hb3 (Nat.le_refl _)
      have hbb3 := hbb2.trans (hb3.mono (by omega))
      clear r0 r1 f0 f1 hb3 x2 hA2 hbb2 hsd
      obtain ⟨r0, r1, f0, f1⟩ := blk2 x3
      by_cases ht : 0 ≤ t ∧ t < n
      · have htd : decide (0 ≤ t ∧ t < n) = true := decide_eq_true ht
        have HT : Hid (0 ≤ t ∧ t < n) := ht
        rw [htd]
        clear ht htd
        by_cases hst : s = t
        · have hee : (s == t) = true := by simpa using hst
          have HST : Hid (s = t) := hst
          clear hst
          go_wp2
          go_ret2
          exact ⟨hbb3, 0, 3, rfl, wide_form HE.out ⟨HS.out, HT.out⟩ HST.out⟩
        · have hee : (s == t) = false := by simpa using hst
          have HST : Hid (s ≠ t) := hst
          clear hst
          obtain ⟨⟨hn1, hn2⟩, hl60, hall⟩ := err_ok HE.out
          obtain ⟨N, rfl⟩ := Int.eq_ofNat_of_zero_le (show 0 ≤ n by omega)
          obtain ⟨s, rfl⟩ := Int.eq_ofNat_of_zero_le HS.out.1
          obtain ⟨t, rfl⟩ := Int.eq_ofNat_of_zero_le HT.out.1
          have hN12 : N ≤ 12 := by omega
          have hsN : s < N := by have := HS.out.2; omega
          have htN : t < N := by have := HT.out.2; omega
          have HL : Hid (∀ a ∈ l, (0 ≤ a.1 ∧ a.1 < (N : Int)) ∧ (0 ≤ a.2.1 ∧ a.2.1 < (N : Int)) ∧ -10000 ≤ a.2.2 ∧ a.2.2 ≤ 10000) := hall
          have H60 : Hid (l.length ≤ 60) := hl60
          clear hall hn1 hn2 hl60
          go_wp2_with fail
          refine (risingN_any N (by omega) _).mono ?_
          rintro e w4 ⟨hb4, c, hc, rfl, hF4⟩
          have hz4 := hb4.size
          have x4 := blk_below hb4 x3 (by omega)
          have hA4 := hA3.below hb4 (Nat.le_refl _)
          have hbb4 := hbb3.trans (hb4.mono (by omega))
          have hcl := hF4.lt
          clear r0 r1 f0 f1 hb4 x3 hA3 hbb3
          obtain ⟨r0, r1, f0, f1⟩ := blk2 x4
          go_wp2_with fail
          refine (cheapFirst_any ao cap l _ H60.out hA4).mono ?_
          rintro e w5 ⟨hb5, b, O, rfl, hb, hO, hI5⟩
          have hz5 := hb5.size
          have x5 := blk_below hb5 x4 (by omega)
          have hA5 := hA4.below hb5 (Nat.le_refl _)
          have hbb5 := hbb4.trans (hb5.mono (by omega))
          have hF5 := hF4.of_block (hb5.block c hcl)
          have hcl5 : c < w5.heap.size := by omega
          have hbc : b ≠ c := by omega
          have hwc : w.heap.size < c := by omega
          have HO : Hid (OrdIs l O) := hO
          have HOl : Hid (O.length = l.length) := hO.len
          have HI : Hid (IntsAt w5 (some ⟨b, 0, none⟩) (numK O)) := hI5
          have HF : Hid (w5.rowIs c 3 N (fun j => .int .i64 ((j : Nat) : Int))) := hF5
          have HA : Hid (ArcsAt w5 ao l) := hA5
          have HX : Hid (w5.heap[w.heap.size]? = some (.cells #[.int .i64 (N : Int), .slice ao l.length cap] 24 (0, 0))) := x5
          have HB : Hid (Below w.heap.size w w5) := hbb5
          have HAB : Hid (∀ b off, ao = some ⟨b, off, none⟩ → 0 < l.length → b < w.heap.size) := hab
          have HN0 : Hid (¬ Jn (seen l O 0) s t) := fun h => HST.out (jn_nil.1 h)
          clear r0 r1 f0 f1 hb5 x4 hA4 hbb4 hF4 hO hI5 hF5 hA5 x5 hbb5 hab hcl
          go_wp2_with fail
          go_loopw [37] (fun i wr => ∃ (k : Nat) (F : Nat → Int), k ≤ l.length ∧ i = .int .i64 k ∧ wr.rowIs c 3 N (fun j => .int .i64 (F j)) ∧ NamesIs N (seen l O k) F ∧ ¬ Jn (seen l O k) s t ∧ Only c w5 wr) (fun i _ => l.length - (intOf i).toNat)
          case atStart => exact ⟨0, fun j => (j : Int), Nat.zero_le _, rfl, HF.out, names_start N, HN0.out, Only.refl _ _⟩
          case round =>
            obtain ⟨k, F, hk, rfl, hrow, hNm, hno, hOn⟩ := hrel
            have hz := hOn.size
            have x6 := hOn.blk HX.out (by omega)
            obtain ⟨r0, r1, f0, f1⟩ := blk2 x6
            have hwl : w.heap.size < wr.heap.size := by omega
            by_cases hlt : k < l.length
            · have hkO : k < O.length := by rw [HOl.out]; exact hlt
              obtain ⟨i, hi⟩ : ∃ i, atn O k = i := ⟨_, rfl⟩
              have hil : i < l.length := by rw [← hi]; exact HO.out.lt (atn_mem O k hkO)
              obtain ⟨_, _, e, _, o0⟩ := hOn.ints HI.out (fun c' off' e => by cases e; exact hbc) k (by rw [numK_len]; exact hkO)
              cases e
              rw [numK_atn hkO, hi, Nat.zero_add] at o0
              have hbl : b < wr.heap.size := by omega
              have hA6 : ArcsAt wr ao l := hOn.arcs HA.out fun c' off' e => by have := HAB.out c' off' e (by omega); omega
              obtain ⟨ba, off, rfl, hba, c0, c1, c2⟩ := hA6 i hil
              have hbac := HAB.out ba off rfl (by omega)
              have hmem := HL.out _ (at3_mem l i hil)
              obtain ⟨a, ha⟩ : ∃ a, at3 l i = a := ⟨_, rfl⟩
              rw [ha] at c0 c1 c2 hmem
              obtain ⟨f, u, x⟩ := a
              simp only at c0 c1 c2 hmem
              obtain ⟨⟨p1, p2⟩, ⟨p3, p4⟩, p5, p6⟩ := hmem
              obtain ⟨f, rfl⟩ := Int.eq_ofNat_of_zero_le p1
              obtain ⟨u, rfl⟩ := Int.eq_ofNat_of_zero_le p3
              have hf : f < N := by omega
              have hu : u < N := by omega
              obtain ⟨G, hG⟩ : ∃ G : Nat → Int, G = fun j => if F j = F f then F u else F j := ⟨_, rfl⟩
              have hN' : NamesIs N (seen l O (k + 1)) G := by
                rw [hG]
                exact names_step hkO hNm hf hu (by rw [hi, ha]) (by rw [hi, ha])
              have hJ := joinN_any N c f u x F wr (by omega) hf hu hrow
              have hG' : (fun j => Value.int .i64 (if F j = F f then F u else F j)) = fun j => Value.int .i64 (G j) := by rw [hG]
              rw [hG'] at hJ
              have HJ : Hid (Calls Try.prog 21 #[.slice (some ⟨c, 0, none⟩) N N, .agg #[.int .i64 (f : Int), .int .i64 (u : Int), .int .i64 x]] wr fun e w' => e = .returned (.bool (decide (F f ≠ F u))) ∧ Only c wr w' ∧ w'.rowIs c 3 N (fun j => .int .i64 (G j))) := hJ
              have HN : Hid (NamesIs N (seen l O (k + 1)) G) := hN'
              have HNo : Hid (¬ Jn (seen l O k) s t) := hno
              have HJn : Hid (G s = G t ↔ Jn (seen l O (k + 1)) s t) := hN' s t hsN htN
              have HOn : Hid (Only c w5 wr) := hOn
              have HCp : Hid ((at3 l (atn O k)).2.2 = x) := by rw [Hid, hi, ha]
              have h60 := H60.out
              clear hrow hNm hOn hi ha x6 hA6 hN' hno hG hG' hJ
              go_wp2_with fail
              refine Calls.mono HJ.out ?_
              rintro e w7 ⟨rfl, hO7, hr7⟩
              clear HJ
              have hz7 := hO7.size
              have y7 := (HOn.out.trans hO7).blk HX.out (by omega)
              have HO7 : Hid (Only c w5 w7) := HOn.out.trans hO7
              have c2' : w7.cell? ⟨ba, off + i * 3 + 2, none⟩ = some (.int .i64 x) := (hO7.grown.cell c2 (fun e => (show ba ≠ c by omega) (Option.some.inj e)))
              have q0 := hr7.cell (i := s) hsN
              have q1 := hr7.cell (i := t) htN
              have hcl7 := hr7.lt
              have HR7 : Hid (w7.rowIs c 3 N (fun j => .int .i64 (G j))) := hr7
              have hba7 : ba < w7.heap.size := by omega
              have hw7 : w.heap.size < w7.heap.size := by omega
              clear hO7 hr7 HOn r0 r1 f0 f1 c0 c1 c2
              obtain ⟨r0, r1, f0, f1⟩ := blk2 y7
              obtain ⟨y, hy⟩ : ∃ y, G s = y := ⟨_, rfl⟩
              obtain ⟨z, hz'⟩ : ∃ z, G t = z := ⟨_, rfl⟩
              rw [hy] at q0
              rw [hz'] at q1
              have HY : Hid (G s = y) := hy
              have HZ : Hid (G t = z) := hz'
              clear hy hz'
              by_cases g : y = z
              · have hyz : (y == z) = true := by simpa using g
                have HG : Hid (y = z) := g
                clear g
                go_wp2
                go_quiet (fail)
                go_wp2
                go_ret2
                refine ⟨?_, x, 0, rfl, ?_⟩
                · exact below_drewN (HB.out.trans (HO7.out.below (by omega) (by omega))) _
                · have := wide_some HE.out ⟨HS.out, HT.out⟩ HST.out HO.out hkO (HJn.out.1 (by rw [HY.out, HZ.out, HG.out])) HNo.out
                  rwa [HCp.out] at this
              · have hyz : (y == z) = false := by simpa using g
                have HG : Hid (y ≠ z) := g
                clear g
                go_wp2
                go_quiet (fail)
                go_wp2
                go_roundw
                case rel => exact ⟨k + 1, G, by omega, by go_num, HR7.out, HN.out, fun h => HG.out (by have := HJn.out.2 h; rw [← HY.out, ← HZ.out]; exact this), ⟨HO7.out.os, HO7.out.tape, HO7.out.output, HO7.out.size, HO7.out.block⟩⟩
                case measure => simp [intOf]; omega
            · have hkl : k = l.length := by omega
              subst hkl
              have HNo : Hid (¬ Jn l s t) := fun h => hno ((HO.out.seen_all (by rw [HOl.out]; exact Nat.le_refl _)).2 h)
              have HW : Hid (Below w.heap.size w wr) := HB.out.trans (hOn.below (by omega) (by omega))
              clear hrow hNm hno x6 r0 r1 f0 f1
              go_wp2
              go_ret2
              exact ⟨HW.out, 0, 5, rfl, wide_none HE.out ⟨HS.out, HT.out⟩ HST.out HNo.out⟩
      · have htd : decide (0 ≤ t ∧ t < n) = false := decide_eq_false ht
        have HT : Hid (¬ (0 ≤ t ∧ t < n)) := ht
        rw [htd]
        clear ht htd
        go_wp2
        go_ret2
        exact ⟨hbb3, 0, 4, rfl, wide_node HE.out fun h => HT.out h.2⟩
    · have hsd : decide (0 ≤ s ∧ s < n) = false := decide_eq_false hs
      have HS : Hid (¬ (0 ≤ s ∧ s < n)) := hs
      clear hs hE
      go_wp2_with fail
      refine (isNodeS_any n s ao l.length cap w1).mono ?_
      rintro e w2 ⟨rfl, hb2⟩
      have hbb2 := hbb1.trans (hb2.mono (by omega))
      clear hb2 hbb1
      rw [hsd]
      go_wp2
      go_ret2
      exact ⟨hbb2, 0, 4, rfl, wide_node HE.out fun h => HS.out h.1⟩
  · have hE' : (graphErr n (-10000) l != 0) = true := by simpa using hE
    have HE : Hid (graphErr n (-10000) l ≠ 0) := hE
    clear hE
    go_wp2
    go_ret2
    exact ⟨hbb1, 0, _, rfl, wide_bad HE.out⟩

end Go.Proofs.Ytgmdacobbeoobaa
