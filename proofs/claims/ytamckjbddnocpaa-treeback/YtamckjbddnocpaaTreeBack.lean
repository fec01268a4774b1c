/- The law TreeBack, walked. -/
import Derived.Test.YtamckjbddnocpaaTDec
import Derived.Test.YtamckjbddnocpaaTCode
import Derived.Test.YtamckjbddnocpaaTRev
import Derived.Test.YtamckjbddnocpaaLits
import Derived.Test.YtamckjbddnocpaaSl
import Derived.Deep.RegionLaw
namespace Go.Proofs.Ytamckjbddnocpaa
open Go.RowKit
set_option linter.unusedVariables false

theorem code_row {w : World} {b : Nat} {l : List Int} (hl : ∀ x ∈ l, 0 ≤ x ∧ x < ((l.length + 2 : Nat) : Int)) (h : w.rowIs b 3 l.length (codeC (codeN l) l.length)) : IntsAt w (some ⟨b, 0, none⟩) l := by
  intro i hi
  refine ⟨b, 0, rfl, h.lt, ?_⟩
  rw [Nat.zero_add, h.cell hi, codeC, if_pos hi, (codeN_at hl hi).1]

theorem rev_err {n least : Int} {E : List Arc3} (h : graphErr n least E = 0) : graphErr n least E.reverse = 0 := by
  obtain ⟨h1, h2, h3⟩ := err_ok h
  exact err_mk ⟨h1, by simpa using h2, fun a ha => h3 a (by simpa using ha)⟩

theorem dec_jn {l : List Int} (hl : ∀ x ∈ l, 0 ≤ x ∧ x < ((l.length + 2 : Nat) : Int)) : ∀ u v : Nat, u < l.length + 2 → v < l.length + 2 → Jn (decT l) u v := fun u v hu hv =>
  dec_joined (code_st hl).ok (decF_is (code_st hl)) (by simpa using hu) (by simpa using hv)
theorem dec_cd {l : List Int} (hl : ∀ x ∈ l, 0 ≤ x ∧ x < ((l.length + 2 : Nat) : Int)) : CodeIs (decT l) (codeN l) := dec_code (code_st hl).ok (decF_is (code_st hl))

theorem upto_f {w : World} {b n : Nat} {t : TypeId} {L : List Arc3} (hn : L.length = n) (h : w.rowIs b t (n * 3) (upto L n)) : w.rowIs b t (n * 3) (fcell (at3 L)) :=
  h.congr fun j hj => by unfold upto fcell acell; rw [if_pos hj]

def twoA : List Arc3 := [(0, 1, 0), (1, 2, 0)]

set_option maxRecDepth 10000 in
set_option maxHeartbeats 2000000 in
theorem TreeBack_any (ao : Option Addr) (cap : Nat) (l : List Int) (w : World) (hm : l.length ≤ maxLen) (hA : IntsAt w ao l) :
    Calls Try.prog 6 #[.slice ao l.length cap] w fun e w' => e = .returned (.bool true) ∧ Below w.heap.size w w' := by
  have hD1 := Decode_ok (some ⟨w.heap.size, 0, none⟩) 1 [1] (w.alloc (.cells #[.int .i64 1] 3)) (ints_new w [1] 3) (by decide) (by decide)
  simp only [List.length_cons, List.length_nil, Nat.zero_add] at hD1
  have HAw : Hid (IntsAt w ao l) := hA
  have HMx : Hid (l.length ≤ maxLen) := hm
  have hne : ((0 : Int) != 0) = false := rfl
  have heq : ((0 : Int) == 0) = true := rfl
  clear hA hm
  go_enter Try.func6, Try.ntmps6
  go_wp2_with fail
  refine hD1.mono ?_
  rintro e w1 ⟨hb1, b1, hb1z, rfl, hr1⟩
  have hz1 := hb1.size
  simp only [World.size_alloc] at hb1 hb1z hz1
  have hA1 : ArcsAt w1 (some ⟨b1, 0, none⟩) twoA := upto_arcs (L := twoA) hr1
  have HB1 : Hid (Below w.heap.size w w1) := below_in hb1 (by omega)
  clear hD1 hb1 hr1
  go_wp2_with fail
  obtain ⟨W, hW⟩ : ∃ W : World, W = w1.alloc (.cells #[.int .i64 3, .slice (some ⟨b1, 0, none⟩) 2 2] 34) := ⟨_, rfl⟩
  have y2 := blk_new w1 (.cells #[.int .i64 3, .slice (some ⟨b1, 0, none⟩) 2 2] 34)
  have hL2 := hA1.alloc (.cells #[.int .i64 3, .slice (some ⟨b1, 0, none⟩) 2 2] 34)
  have hbb2 := below_al HB1.out (.cells #[.int .i64 3, .slice (some ⟨b1, 0, none⟩) 2 2] 34)
  have hWz : W.heap.size = w1.heap.size + 1 := by rw [hW]; simp
  have hWl : w1.heap.size < W.heap.size := by omega
  rw [← hW] at y2 hL2 hbb2 ⊢
  have HWz : Hid (W.heap.size = w1.heap.size + 1) := hWz
  clear hW hWz hA1 HB1
  obtain ⟨s0, s1, g0, g1⟩ := blk2 y2
  have HN : Hid (ArcsAt (W.alloc (.cells (flat twoA).toArray 47)) (some ⟨W.heap.size, 0, none⟩) twoA) := arcs_new W twoA 47
  have HL : Hid (ArcsAt W (some ⟨b1, 0, none⟩) twoA) := hL2
  have HB : Hid (Below w.heap.size w W) := hbb2
  clear hL2 y2 hbb2
  go_cut [29] (fun s wx => s = .bool false ∧ Below W.heap.size W wx)
  case first =>
    go_region_with (first
      | (go_at_call 19; refine (arcs_any _ 2 twoA _ (by exact HN.out) (by decide)).mono ?_; rintro e w3 ⟨hb3, ao3, cap3, rfl, hA3, _, _, _⟩; have hb4 : Below W.heap.size W w3 := ((below_one W _).drew).trans (hb3.mono (by simp)); have t1 := later hb4 s1 hWl; have hL4 := HL.out.below hb4 (Nat.le_refl _))
      | (go_at_call 18; refine (equalArcsB _ _ 2 _ twoA twoA _ (by decide) (by decide) (by assumption) (by assumption)).mono ?_; rintro e w5 ⟨rfl, hb5⟩; rw [decide_eq_true (rfl : twoA = twoA)]))
    all_goals
      go_wp2_with fail
      go_meet
      case rel => exact ⟨rfl, hb4.trans (hb5.mono hb4.size)⟩
  case rest =>
    obtain ⟨rfl, hb6⟩ := hcut
    obtain ⟨V, hV⟩ : ∃ V, V = wc := ⟨_, rfl⟩
    subst hV
    have HBV : Hid (Below w.heap.size w V) := HB.out.trans (hb6.mono HB.out.size)
    have hzV := HBV.out.size
    clear hb6 s0 s1 g0 g1 HN HL HB HWz hWl
    have hAV := HAw.out.below HBV.out (Nat.le_refl _)
    by_cases hdec : decErr l = 0
    · obtain ⟨h10, hl⟩ := decErr_ok hdec
      have hD := Decode_ok ao cap l V hAV h10 hl
      have HL : Hid (∀ x ∈ l, 0 ≤ x ∧ x < ((l.length + 2 : Nat) : Int)) := hl
      clear hdec hl hAV
      go_wp2_with fail
      refine hD.mono ?_
      rintro e w3 ⟨hb3, b3, hb3z, rfl, hr3⟩
      have hz3 := hb3.size
      have hr3f := upto_f (decT_len l) hr3
      have hb3l := hr3.lt
      have HB3 : Hid (Below w.heap.size w w3) := below_tr HBV.out hb3
      have hE0 := decT_len l
      have HE : Hid ((decT l).length = l.length + 1) := hE0
      have hcast : ((l.length + 2 : Nat) : Int) = (l.length : Int) + 2 := by omega
      have hxx := blk_new w3 (.cells #[.int .i64 ((l.length : Int) + 2), .slice (some ⟨b3, 0, none⟩) (l.length + 1) (l.length + 1)] 34)
      obtain ⟨w4, hw4⟩ : ∃ w4, w4 = w3.alloc (.cells #[.int .i64 ((l.length : Int) + 2), .slice (some ⟨b3, 0, none⟩) (l.length + 1) (l.length + 1)] 34) := ⟨_, rfl⟩
      have hz4 : w4.heap.size = w3.heap.size + 1 := by rw [hw4]; simp
      have HR4 : Hid (w4.rowIs b3 39 ((l.length + 1) * 3) (fcell (at3 (decT l)))) := by rw [hw4]; exact hr3f.alloc _
      have HB4 : Hid (Below w.heap.size w w4) := by rw [hw4]; exact below_al HB3.out _
      have hA4 : ArcsAt w4 (some ⟨b3, 0, none⟩) (decT l) := fcell_arcs (A := at3 (decT l)) (by rw [HE.out]; exact HR4.out) (fun _ _ => rfl)
      have hG4 : GraphIn w4 (some ⟨b3, 0, none⟩) (l.length + 1) (decT l) := ⟨hA4, by rw [HE.out]; exact Nat.le_refl _, by unfold maxLen; omega, fun e => by cases e⟩
      have hC1 := Code_tree l.length b3 (l.length + 1) (decT l) (codeN l) w4 hG4 (decT_ok h10 HL.out) (dec_jn HL.out) (decT_len l) (codeN_len l) h10 (dec_cd HL.out)
      rw [← hw4] at hxx
      obtain ⟨r0, r1, f0, f1⟩ := blk2 hxx
      have hb3w : w.heap.size ≤ b3 := by omega
      clear hr3 hr3f hb3 hD HB3 hA4 hG4 hE0 hcast
      go_wp2_with fail
      rw [← hw4]
      refine hC1.mono ?_
      rintro e w5 ⟨hb5, c1, hc1, rfl, hrc1⟩
      have hz5 := hb5.size
      have x5 := blk_below hb5 hxx (by omega)
      have hc1z := hrc1.lt
      have HRc5 : Hid (w5.rowIs c1 3 l.length (codeC (codeN l) l.length)) := hrc1
      have HR5 : Hid (w5.rowIs b3 39 ((l.length + 1) * 3) (fcell (at3 (decT l)))) := HR4.out.of_block (hb5.block b3 (by omega))
      have HB5 : Hid (Below w.heap.size w w5) := below_tr HB4.out hb5
      have hrev := reverse_arcs b3 (decT l) w5 (by rw [HE.out]; omega) (by rw [HE.out]; omega) (by rw [HE.out]; exact HR5.out)
      rw [HE.out] at hrev
      have hxz : w3.heap.size < w5.heap.size := by omega
      clear hw4 r0 r1 f0 f1 hxx hC1 hb5 hrc1 HR4 HB4
      obtain ⟨r0, r1, f0, f1⟩ := blk2 x5
      go_wp2_with fail
      refine hrev.mono ?_
      rintro e w6 ⟨hk6, hb6, rfl, hr6⟩
      have hz6 := hb6.size
      have x6 := (hk6 w3.heap.size hxz (by omega)).trans x5
      have HRc6 : Hid (w6.rowIs c1 3 l.length (codeC (codeN l) l.length)) := HRc5.out.of_block (hk6 c1 hc1z (by omega))
      have HB6 : Hid (Below w.heap.size w w6) := HB5.out.trans (hb6.mono hb3w)
      have HEr : Hid ((decT l).reverse.length = l.length + 1) := by rw [Hid, List.length_reverse, HE.out]
      have hA6 : ArcsAt w6 (some ⟨b3, 0, none⟩) (decT l).reverse := fcell_arcs (A := at3 (decT l).reverse) (by rw [HEr.out]; exact hr6) (fun _ _ => rfl)
      have hG6 : GraphIn w6 (some ⟨b3, 0, none⟩) (l.length + 1) (decT l).reverse := ⟨hA6, by rw [HEr.out]; exact Nat.le_refl _, by unfold maxLen; omega, fun e => by cases e⟩
      have hJr : ∀ u v : Nat, u < l.length + 2 → v < l.length + 2 → Jn (decT l).reverse u v := fun u v hu hv => (dec_jn HL.out u v hu hv).mono fun a ha => by simpa using ha
      have hC2 := Code_tree l.length b3 (l.length + 1) (decT l).reverse (codeN l) w6 hG6 (rev_err (decT_ok h10 HL.out)) hJr HEr.out (codeN_len l) h10 ((dec_cd HL.out).perm (List.reverse_perm _).symm)
      have HG6 : Hid (GraphIn w6 (some ⟨b3, 0, none⟩) (l.length + 1) (decT l).reverse) := hG6
      have hxz6 : w3.heap.size < w6.heap.size := by omega
      have HJr : Hid (∀ u v : Nat, u < l.length + 2 → v < l.length + 2 → Jn (decT l).reverse u v) := hJr
      have hc16 : c1 < w6.heap.size := by omega
      clear r0 r1 f0 f1 x5 hrev hk6 hb6 hr6 HRc5 HR5 HB5 hA6 hG6 hJr
      obtain ⟨r0, r1, f0, f1⟩ := blk2 x6
      go_wp2_with fail
      refine hC2.mono ?_
      rintro e w7 ⟨hb7, c2, hc2, rfl, hrc2⟩
      have hz7 := hb7.size
      have x7 := blk_below hb7 x6 hxz6
      have HRc7 : Hid (w7.rowIs c1 3 l.length (codeC (codeN l) l.length)) := HRc6.out.of_block (hb7.block c1 hc16)
      have HRd7 : Hid (w7.rowIs c2 3 l.length (codeC (codeN l) l.length)) := hrc2
      have hc2z := hrc2.lt
      have hc17 : c1 < w7.heap.size := by omega
      have HB7 : Hid (Below w.heap.size w w7) := below_tr HB6.out hb7
      have hIs := Is_tree (l.length + 2) (some ⟨b3, 0, none⟩) (l.length + 1) (decT l).reverse w7 (HG6.out.below hb7 (Nat.le_refl _)) (rev_err (decT_ok h10 HL.out)) HJr.out (by rw [HEr.out])
      rw [HEr.out, show ((l.length + 2 : Nat) : Int) = (l.length : Int) + 2 from by omega] at hIs
      clear r0 r1 f0 f1 x6 hC2 hb7 hrc2 HRc6 HB6 HG6 HJr
      obtain ⟨r0, r1, f0, f1⟩ := blk2 x7
      go_wp2_with fail
      refine hIs.mono ?_
      rintro e w8 ⟨hb8, rfl⟩
      have HB8 : Hid (Below w.heap.size w w8) := below_tr HB7.out hb8
      have hI1 : IntsAt w8 (some ⟨c1, 0, none⟩) l := code_row HL.out (HRc7.out.of_block (hb8.block c1 hc17))
      have hI2 : IntsAt w8 (some ⟨c2, 0, none⟩) l := code_row HL.out (HRd7.out.of_block (hb8.block c2 hc2z))
      have hI0 : IntsAt w8 ao l := HAw.out.below HB8.out (Nat.le_refl _)
      have hq1 := equalInts (some ⟨c1, 0, none⟩) ao l.length cap l l w8 HMx.out HMx.out hI1 hI0
      have HQ2 : Hid (∀ q, Calls Try.prog 23 #[.slice (some ⟨c2, 0, none⟩) l.length l.length, .slice ao l.length cap] (w8.drewN q) fun e w' => e = .returned (.bool (decide (l = l))) ∧ ∃ q', w' = (w8.drewN q).drewN q') := fun q => equalInts (some ⟨c2, 0, none⟩) ao l.length cap l l _ HMx.out HMx.out (hI2.drewN q) (hI0.drewN q)
      rw [decide_eq_true (rfl : l = l)] at hq1 HQ2
      clear r0 r1 f0 f1 x7 hIs hb8 HRc7 HRd7 HB7 hI1 hI2 hI0
      go_wp2_with fail
      refine hq1.mono ?_
      rintro e w9 ⟨rfl, q, rfl⟩
      go_wp2_with fail
      refine (HQ2.out q).mono ?_
      rintro e w10 ⟨rfl, q', rfl⟩
      go_wp2_with fail
      go_ret
      exact ⟨rfl, below_drewN HB8.out _⟩
    · have hD := Decode_err ao cap l V HMx.out hAV hdec
      have hEn : (decErr l != 0) = true := by simpa using hdec
      generalize decErr l = E at *
      clear hdec hAV
      go_wp2_with fail
      refine hD.mono ?_
      rintro e w3 ⟨hb3, rfl⟩
      have HB3 : Hid (Below w.heap.size w w3) := below_tr HBV.out hb3
      clear hD hb3
      go_wp2_with fail
      go_ret
      exact ⟨rfl, below_al HB3.out _⟩

end Go.Proofs.Ytamckjbddnocpaa
