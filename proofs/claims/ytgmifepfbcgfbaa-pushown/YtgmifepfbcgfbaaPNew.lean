/- Package push: New. -/
import Derived.Test.YtgmifepfbcgfbaaPClo
import Derived.Test.YtgmifepfbcgfbaaPWait
import Derived.Test.YtgmifepfbcgfbaaAppJoin
import Derived.Deep.RegionHeld3
namespace Go.Proofs.Ytgmifepfbcgfbaa
open Go.RowKit
set_option linter.unusedVariables false

theorem at012 {w : World} (A B C : Obj) : (((w.alloc A).alloc B).alloc C).drew.heap[w.heap.size]? = some A ∧ (((w.alloc A).alloc B).alloc C).drew.heap[w.heap.size + 1]? = some B ∧ (((w.alloc A).alloc B).alloc C).drew.heap[w.heap.size + 1 + 1]? = some C ∧ Below w.heap.size w (((w.alloc A).alloc B).alloc C).drew := by
  refine ⟨blk_old (blk_old (blk_new w A) B) C, ?_, ?_, Below.drew (below_al (below_al (below_al (Below.refl _ _) _) _) _)⟩
  · have := blk_old (blk_new (w.alloc A) B) C
    rwa [World.size_alloc] at this
  · have := blk_new ((w.alloc A).alloc B) C
    rwa [World.size_alloc, World.size_alloc] at this
/-- where a new Push lies, and its numbers, zeros yet -/
structure NewAt (w wx : World) (P gf gh : Nat) (n s t : Int) (ao : Option Addr) (cap m q : Nat) : Prop where
  blk : wx.heap[P]? = some (.cells #[.int .i64 n, .int .i64 s, .int .i64 t, .slice ao m cap, .slice (some ⟨gf, 0, none⟩) m m, .slice (some ⟨gh, 0, none⟩) q q] 28 (0, 0))
  flow : wx.heap[gf]? = some (.cells (zeri m) 3 (0, 0))
  hgt : wx.heap[gh]? = some (.cells (zeri q) 3 (0, 0))
  leP : w.heap.size ≤ P
  lef : w.heap.size ≤ gf
  leh : w.heap.size ≤ gh
  neP : P ≠ gf
  neh : P ≠ gh
  nefh : gf ≠ gh
  below : Below w.heap.size w wx
theorem zeri_own {wx : World} {g m : Nat} (h : wx.heap[g]? = some (.cells (zeri m) 3 (0, 0))) : OwnI wx g m m (fun _ => 0) := by
  have r : ∀ j, j < m → (zeri m)[j]? = some (.int .i64 0) := fun j hj => by
    obtain ⟨c, h1, _, h2⟩ := zeri_row wx m 3
    rw [blk_new] at h1
    cases h1
    exact h2 j hj
  have hsz : (zeri m).size = m := by
    obtain ⟨c, h1, h2, _⟩ := zeri_row wx m 3
    rw [blk_new] at h1
    cases h1
    exact h2
  exact ⟨_, ⟨_, h, hsz, r⟩, Nat.le_refl _, fun j _ => rfl⟩

theorem own_other {w : World} {g cap N : Nat} {h : Nat → Int} (H : OwnI w g cap N h) {p : Addr} (hp : g ≠ p.block) (v : Value) : OwnI (w.setCell p v) g cap N h := by
  obtain ⟨f, h1, h2, h3⟩ := H
  exact ⟨f, h1.setOther hp v, h2, h3⟩
theorem newF_next {F : List Int} {k : Nat} (h : ati F k = 0) (j : Nat) : (if j < k then ati F j else 0) = if j < k + 1 then ati F j else 0 := by
  by_cases e : j < k
  · rw [if_pos e, if_pos (by omega)]
  · by_cases e2 : j = k
    · subst e2; rw [if_neg e, if_pos (by omega), h]
    · rw [if_neg e, if_neg (by omega)]
theorem newF_set {F : List Int} {k : Nat} {c : Int} (h : ati F k = c) (j : Nat) : (if j = k then c else if j < k then ati F j else 0) = if j < k + 1 then ati F j else 0 := by
  by_cases e2 : j = k
  · subst e2; rw [if_pos rfl, if_pos (by omega), h]
  · rw [if_neg e2]
    by_cases e : j < k
    · rw [if_pos e, if_pos (by omega)]
    · rw [if_neg e, if_neg (by omega)]

set_option maxHeartbeats 4000000 in
theorem PNew_any : PNewC := by
  intro n s t ao cap l w hG
  have hc := CheckNet_any n s t ao cap l ((w.alloc (.cells #[.int .i64 n, .int .i64 s, .int .i64 t, .slice ao l.length cap] 24)).alloc (.cells #[.int .i64 0, .int .i64 0, .int .i64 0, .slice none 0 0, .slice none 0 0, .slice none 0 0] 28)) hG.len ((hG.alloc _).alloc _).arcs
  obtain ⟨E, hEE⟩ : ∃ E, netErr n s t l = E := ⟨_, rfl⟩
  rw [hEE] at hc ⊢
  have HE : Hid (netErr n s t l = E) := hEE
  have x0 : ((w.alloc (.cells #[.int .i64 n, .int .i64 s, .int .i64 t, .slice ao l.length cap] 24)).alloc (.cells #[.int .i64 0, .int .i64 0, .int .i64 0, .slice none 0 0, .slice none 0 0, .slice none 0 0] 28)).heap[w.heap.size]? = some (.cells #[.int .i64 n, .int .i64 s, .int .i64 t, .slice ao l.length cap] 24 (0, 0)) := blk_old (blk_new w _) _
  have z0 : ((w.alloc (.cells #[.int .i64 n, .int .i64 s, .int .i64 t, .slice ao l.length cap] 24)).alloc (.cells #[.int .i64 0, .int .i64 0, .int .i64 0, .slice none 0 0, .slice none 0 0, .slice none 0 0] 28)).heap[w.heap.size + 1]? = some (.cells #[.int .i64 0, .int .i64 0, .int .i64 0, .slice none 0 0, .slice none 0 0, .slice none 0 0] 28 (0, 0)) := blk_new1
  have HG : Hid (GraphIn w ao cap l) := hG
  clear hG hEE
  go_enter Try.func20, Try.ntmps20
  go_wp2_with fail
  refine hc.mono ?_
  clear hc
  rintro e w1 ⟨rfl, hb1⟩
  simp only [World.size_alloc] at hb1
  have hz1 := hb1.size
  simp only [World.size_alloc] at hz1
  have x1 := blk_below hb1 x0 (by omega)
  have z1 := blk_below hb1 z0 (by omega)
  have HB : Hid (Below w.heap.size w w1) := ((((Below.refl _ _).alloc (Nat.le_refl _) _).alloc (by simp) _).trans (hb1.mono (by omega)))
  have HX : Hid (w1.heap[w.heap.size]? = some (.cells #[.int .i64 n, .int .i64 s, .int .i64 t, .slice ao l.length cap] 24 (0, 0))) := x1
  have HZ : Hid (w1.heap[w.heap.size + 1]? = some (.cells #[.int .i64 0, .int .i64 0, .int .i64 0, .slice none 0 0, .slice none 0 0, .slice none 0 0] 28 (0, 0))) := z1
  have hwz : w.heap.size < w1.heap.size := by omega
  have hwz1 : w.heap.size + 1 < w1.heap.size := by omega
  have HG1 : Hid (GraphIn w1 ao cap l) := HG.out.below HB.out (Nat.le_refl _)
  obtain ⟨r0, r1, r2, r3⟩ := blk4 x1
  clear hb1 x0 z0 x1 z1 hz1
  by_cases hE : E = 0
  · subst hE
    have h00 : ((0 : Int) != 0) = false := rfl
    obtain ⟨hge, hs, ht, hst⟩ := net_ok HE.out
    obtain ⟨⟨hn1, hn2⟩, hl60, hall⟩ := err_ok hge
    obtain ⟨N, rfl⟩ := Int.eq_ofNat_of_zero_le (show 0 ≤ n by omega)
    obtain ⟨sN, rfl⟩ := Int.eq_ofNat_of_zero_le hs.1
    obtain ⟨tN, rfl⟩ := Int.eq_ofNat_of_zero_le ht.1
    have hsN : sN < N := by omega
    have hmk := make_ints l.length (by omega)
    have hmk2 := make_ints N (by omega)
    have HS : Hid (∀ x : World, Below w1.heap.size w1 x → Below w1.heap.size w1 x ∧ x.cell? ⟨w.heap.size, 0, none⟩ = some (.int .i64 (N : Int)) ∧ x.cell? ⟨w.heap.size, 1, none⟩ = some (.int .i64 (sN : Int)) ∧ x.cell? ⟨w.heap.size, 2, none⟩ = some (.int .i64 (tN : Int)) ∧ x.cell? ⟨w.heap.size, 3, none⟩ = some (.slice ao l.length cap)) :=
      fun x h => ⟨h, later h r0 hwz, later h r1 hwz, later h r2 hwz, later h r3 hwz⟩
    clear hge hs ht hst hall
    go_wp2
    go_cut [5] (fun p wx => ∃ P gf gh, p = .pointer (some ⟨P, 0, none⟩) ∧ Hid (NewAt w1 wx P gf gh N sN tN ao cap l.length N))
    case first =>
      clear HG HE HB HX HZ HG1 r0 r1 r2 r3
      go_region_held3 (fun x => Below w1.heap.size w1 x ∧ x.cell? ⟨w.heap.size, 0, none⟩ = some (.int .i64 (N : Int)) ∧ x.cell? ⟨w.heap.size, 1, none⟩ = some (.int .i64 (sN : Int)) ∧ x.cell? ⟨w.heap.size, 2, none⟩ = some (.int .i64 (tN : Int)) ∧ x.cell? ⟨w.heap.size, 3, none⟩ = some (.slice ao l.length cap))
        (first
          | with_reducible assumption
          | with_reducible exact HS.out _ ((Below.refl _ _).drew)
          | with_reducible exact HS.out _ (below_al (And.left (by with_reducible assumption)) _)
          | with_reducible exact HS.out _ (Below.drew (below_al (below_al (below_al (Below.refl _ _) _) _) _)))
        (fail)
      all_goals
        go_wp2
        go_meet
        case rel =>
          first
          | exact ⟨_, w1.heap.size, w1.heap.size + 1, rfl, ⟨(at012 _ _ _).2.2.1, (at012 _ _ _).1, (at012 _ _ _).2.1, by omega, by omega, by omega, by omega, by omega, by omega, (at012 _ _ _).2.2.2⟩⟩
          | exact ⟨_, w1.heap.size + 1, w1.heap.size, rfl, ⟨(at012 _ _ _).2.2.1, (at012 _ _ _).2.1, (at012 _ _ _).1, by omega, by omega, by omega, by omega, by omega, by omega, (at012 _ _ _).2.2.2⟩⟩
          | exact ⟨_, w1.heap.size, w1.heap.size + 1 + 1, rfl, ⟨(at012 _ _ _).2.1, (at012 _ _ _).1, (at012 _ _ _).2.2.1, by omega, by omega, by omega, by omega, by omega, by omega, (at012 _ _ _).2.2.2⟩⟩
          | exact ⟨_, w1.heap.size + 1 + 1, w1.heap.size, rfl, ⟨(at012 _ _ _).2.1, (at012 _ _ _).2.2.1, (at012 _ _ _).1, by omega, by omega, by omega, by omega, by omega, by omega, (at012 _ _ _).2.2.2⟩⟩
          | exact ⟨_, w1.heap.size + 1, w1.heap.size + 1 + 1, rfl, ⟨(at012 _ _ _).1, (at012 _ _ _).2.1, (at012 _ _ _).2.2.1, by omega, by omega, by omega, by omega, by omega, by omega, (at012 _ _ _).2.2.2⟩⟩
          | exact ⟨_, w1.heap.size + 1 + 1, w1.heap.size + 1, rfl, ⟨(at012 _ _ _).1, (at012 _ _ _).2.2.1, (at012 _ _ _).2.1, by omega, by omega, by omega, by omega, by omega, by omega, (at012 _ _ _).2.2.2⟩⟩
    case rest =>
      obtain ⟨P, gf, gh, rfl, HN⟩ := hcut
      have hN2 := HN.out
      have hPz := (Array.getElem?_eq_some_iff.1 hN2.blk).1
      have hBz := hN2.below.size
      have hPw : w.heap.size < P := by have := hN2.leP; omega
      have HB2 : Hid (Below w1.heap.size w1 wc) := hN2.below
      have q0 := later hN2.below r0 hwz
      have q1 := later hN2.below r1 hwz
      have q2 := later hN2.below r2 hwz
      have q3 := later hN2.below r3 hwz
      have hwc : w.heap.size < wc.heap.size := by omega
      have hcl := clone_own ao cap l wc (HG1.out.below HB2.out (Nat.le_refl _)).arcs HG1.out.nil (by omega)
      clear HS r0 r1 r2 r3 hmk hmk2 hN2
      go_wp2_with fail
      refine hcl.mono ?_
      clear hcl
      rintro e w2 ⟨hb2, v1, rfl, hown1⟩
      obtain ⟨a1, c1, rfl, hO1⟩ := own_arcs hown1
      have hz2 := hb2.size
      have hPz2 : P < w2.heap.size := by omega
      have hwc2 : w.heap.size < w2.heap.size := by omega
      have b2 := blk_below hb2 HN.out.blk hPz
      obtain ⟨⟨m0, m1, m2, m3, m4, m5⟩, _⟩ := blk6 b2
      obtain ⟨z0, z1, z2, z3, z4, z5⟩ := blk6z b2
      have b3 := (blk6_put b2 (.slice a1 l.length c1)).1
      have hlf := (Array.getElem?_eq_some_iff.1 HN.out.flow).1
      have hlh := (Array.getElem?_eq_some_iff.1 HN.out.hgt).1
      have hf3 := (Below.heap_setCell w2 ⟨P, 3, none⟩ (.slice a1 l.length c1) gf (fun e => HN.out.neP e.symm)).trans (blk_below hb2 HN.out.flow hlf)
      have hh3 := (Below.heap_setCell w2 ⟨P, 3, none⟩ (.slice a1 l.length c1) gh (fun e => HN.out.neh e.symm)).trans (blk_below hb2 HN.out.hgt hlh)
      have hof := zeri_own hf3
      have hoh := zeri_own hh3
      have hh0 := hoh.cell hsN
      have hhz := hoh.frozen sN
      have HO3 : Hid (OwnA (w2.setCell ⟨P, 3, none⟩ (.slice a1 l.length c1)) wc.heap.size a1 c1 l) := hO1.other hPz _
      have HOf : Hid (OwnI (w2.setCell ⟨P, 3, none⟩ (.slice a1 l.length c1)) gf l.length l.length (fun _ => 0)) := hof
      have HOh : Hid (OwnI (w2.setCell ⟨P, 3, none⟩ (.slice a1 l.length c1)) gh N N (fun _ => 0)) := hoh
      have HB3 : Hid (Below w1.heap.size w1 (w2.setCell ⟨P, 3, none⟩ (.slice a1 l.length c1))) := (HB2.out.trans (hb2.mono (by omega))).setCell HN.out.leP _
      have HP3 : Hid ((w2.setCell ⟨P, 3, none⟩ (.slice a1 l.length c1)).heap[P]? = some (.cells #[.int .i64 (N : Int), .int .i64 (sN : Int), .int .i64 (tN : Int), .slice a1 l.length c1, .slice (some ⟨gf, 0, none⟩) l.length l.length, .slice (some ⟨gh, 0, none⟩) N N] 28 (0, 0))) := b3
      obtain ⟨⟨n0, n1, n2, n3, n4, n5⟩, _⟩ := blk6 b3
      have t0 := later hb2 q0 hwc
      have t1 := later hb2 q1 hwc
      have t2 := later hb2 q2 hwc
      have t3 := later hb2 q3 hwc
      have hsi : (sN : Int) < (N : Int) := by omega
      have hPne : w.heap.size ≠ P := by omega
      have hghz : gh < w2.heap.size := by omega
      have hgfz : gf < w2.heap.size := by omega
      have HNF : Hid (∀ k, k < l.length → ati (newF sN l) k = if (at3 l k).1 = (sN : Int) ∧ (at3 l k).2.1 ≠ (sN : Int) then (at3 l k).2.2 else 0) := fun k hk => newF_at sN l hk
      have hne1 : P ≠ gf := HN.out.neP
      have hne2 : P ≠ gh := HN.out.neh
      have hne3 : gf ≠ gh := HN.out.nefh
      have hle1 := HN.out.leP
      have hle2 := HN.out.lef
      have hle3 := HN.out.leh
      have hwh : w.heap.size ≠ gh := by omega
      clear hb2 hown1 hO1 b2 b3 hf3 hh3 hof hoh q0 q1 q2 q3
      go_wp2
      go_loopw [38] (fun i wr => ∃ k : Nat, k ≤ l.length ∧ i = .int .i64 k ∧ Hid (OwnI wr gf l.length l.length (fun j => if j < k then ati (newF sN l) j else 0)) ∧ Hid (OwnI wr gh N N (fun j => if j = sN then (N : Int) else 0)) ∧ Hid (OwnA wr wc.heap.size a1 c1 l) ∧
        wr.heap[P]? = some (.cells #[.int .i64 (N : Int), .int .i64 (sN : Int), .int .i64 (tN : Int), .slice a1 l.length c1, .slice (some ⟨gf, 0, none⟩) l.length l.length, .slice (some ⟨gh, 0, none⟩) N N] 28 (0, 0)) ∧ Below w1.heap.size w1 wr ∧ w2.heap.size ≤ wr.heap.size) (fun i _ => l.length - (intOf i).toNat)
      case atStart =>
        exact ⟨0, Nat.zero_le _, rfl, (own_other HOf.out (by simpa using hne3) _).congr fun j _ => rfl, (HOh.out.set sN (N : Int)), HO3.out.other (by simpa using hlh) _, (Below.heap_setCell _ _ _ _ (by simpa using hne2)).trans HP3.out, HB3.out.setCell (by simpa using hle3) _, by simp⟩
      case round =>
        clear HOf HOh HO3 HB3 HP3 n0 n1 n2 n3 n4 n5 m0 m1 m2 m3 m4 m5 z0 z1 z2 z3 z4 z5 t0 t1 t2 t3 hh0 hhz
        obtain ⟨k, hk, rfl, HF, HH, HA, hP, hB, hz⟩ := hrel
        have t0 := blk_below hB HX.out hwz
        obtain ⟨t0, t1, t2, t3⟩ := blk4 t0
        have hwr : w.heap.size < wr.heap.size := by omega
        by_cases hlt : k < l.length
        · obtain ⟨b, off, rfl, hbb, c0, c1', c2⟩ := (HG1.out.below hB (Nat.le_refl _)).arcs k hlt
          obtain ⟨⟨m0, m1, m2, m3, m4, m5⟩, _⟩ := blk6 hP
          have f0 := HF.out.cell hlt
          have ff := HF.out.frozen k
          have hPr : P < wr.heap.size := by omega
          have hgr : gf < wr.heap.size := by omega
          have HNk := HNF.out k hlt
          have HBk : Hid (Below w1.heap.size w1 wr) := hB
          have HPk : Hid (wr.heap[P]? = some (.cells #[.int .i64 (N : Int), .int .i64 (sN : Int), .int .i64 (tN : Int), .slice a1 l.length c1, .slice (some ⟨gf, 0, none⟩) l.length l.length, .slice (some ⟨gh, 0, none⟩) N N] 28 (0, 0))) := hP
          have HNK : Hid (ati (newF sN l) k = if (at3 l k).1 = (sN : Int) ∧ (at3 l k).2.1 ≠ (sN : Int) then (at3 l k).2.2 else 0) := HNk
          have hki : (k : Int) < (l.length : Int) := by omega
          generalize (at3 l k).1 = p at *
          generalize (at3 l k).2.1 = q at *
          generalize (at3 l k).2.2 = c at *
          clear hP hB HNk
          by_cases e1 : p = (sN : Int)
          · have e1' : (p == (sN : Int)) = true := by simpa using e1
            by_cases e2 : q = (sN : Int)
            · have e2' : (q != (sN : Int)) = false := by simpa using e2
              have HV : Hid (ati (newF sN l) k = 0) := by rw [Hid, HNK.out, if_neg (fun h => h.2 e2)]
              clear e1 e2 HNK
              go_wp2
              go_roundw
              case rel => exact ⟨k + 1, by omega, by go_num, (HF.out.alloc _).congr fun j _ => newF_next HV.out j, HH.out.alloc _, HA.out.alloc _, blk_old HPk.out _, HBk.out.alloc (by omega) _, by simp; omega⟩
              case measure => simp [intOf]; omega
            · have e2' : (q != (sN : Int)) = true := by simpa using e2
              have HV : Hid (ati (newF sN l) k = c) := by rw [Hid, HNK.out, if_pos ⟨e1, e2⟩]
              clear e1 e2 HNK
              go_wp2
              go_roundw
              case rel => exact ⟨k + 1, by omega, by go_num, ((HF.out.set k c).alloc _).congr fun j _ => newF_set HV.out j, (own_other HH.out (by simpa using fun e => hne3 e.symm) _).alloc _, (HA.out.other (by simpa using hlf) _).alloc _, blk_old ((Below.heap_setCell _ _ _ _ (by simpa using hne1)).trans HPk.out) _, (HBk.out.setCell (by simpa using hle2) _).alloc (by simp; omega) _, by simp; omega⟩
              case measure => simp [intOf]; omega
          · have e1' : (p == (sN : Int)) = false := by simpa using e1
            have HV : Hid (ati (newF sN l) k = 0) := by rw [Hid, HNK.out, if_neg (fun h => e1 h.1)]
            clear e1 HNK
            go_wp2
            go_roundw
            case rel => exact ⟨k + 1, by omega, by go_num, (HF.out.alloc _).congr fun j _ => newF_next HV.out j, HH.out.alloc _, HA.out.alloc _, blk_old HPk.out _, HBk.out.alloc (by omega) _, by simp; omega⟩
            case measure => simp [intOf]; omega
        · have hkk : k = l.length := by omega
          subst hkk
          obtain ⟨⟨m0, m1, m2, m3, m4, m5⟩, _⟩ := blk6 hP
          have hZ := blk_below hB HZ.out hwz1
          have HZr : Hid (wr.heap[w.heap.size + 1]? = some (.cells #[.int .i64 0, .int .i64 0, .int .i64 0, .slice none 0 0, .slice none 0 0, .slice none 0 0] 28 (0, 0))) := hZ
          have HBr : Hid (Below w.heap.size w wr) := HB.out.trans (hB.mono (by omega))
          have hlen1 : (newF sN l).length = l.length := by unfold newF; rw [List.length_map]
          have hlen2 : (newH N sN).length = N := by unfold newH; rw [List.length_set, List.length_replicate]
          have HNew : Hid (PushNew wr w1.heap.size a1 c1 l (some ⟨gf, 0, none⟩) l.length (newF sN l) (some ⟨gh, 0, none⟩) N (newH N sN)) := by
            refine ⟨HA.out.weak HN.out.below.size, Or.inr ⟨gf, rfl, hle2, by unfold maxLen; omega, ?_⟩, Or.inr ⟨gh, rfl, hle3, by unfold maxLen; omega, ?_⟩, fun g o g' o' e1 e2 => by cases e1; cases e2; exact hne3⟩
            · rw [hlen1]
              exact HF.out.congr fun j hj => if_pos hj
            · rw [hlen2]
              exact HH.out.congr fun j hj => (newH_at hsN j).symm
          have HL1 : Hid ((newF sN l).length = l.length) := hlen1
          have HL2 : Hid ((newH N sN).length = N) := hlen2
          clear hP hB hZ HF HH HA hlen1 hlen2
          go_wp2_with (refine wpList_store_push rfl (.tmp 2) (.tmp 62) rfl (w.heap.size + 1) _ _ _ _ _ _ N sN tN a1 (some ⟨gf, 0, none⟩) (some ⟨gh, 0, none⟩) l.length c1 l.length l.length N N rfl rfl HZr.out ?_; intro w4 ho4 hb4 hs4)
          obtain ⟨⟨q0, q1, q2, q3, q4, q5⟩, _⟩ := blk6 hb4
          (try simp only [Exit.inBlock, Exit.then])
          refine bodyPost_ret (v := .tuple #[.agg #[.int .i64 (N : Int), .int .i64 (sN : Int), .int .i64 (tN : Int), .slice a1 l.length c1, .slice (some ⟨gf, 0, none⟩) l.length l.length, .slice (some ⟨gh, 0, none⟩) N N], .int .i64 0]) (by simp [results, Try.results20, go_sem, q0, q1, q2, q3, q4, q5]) rfl
            ⟨HBr.out.trans (ho4.below (by omega) (by omega)), N, sN, tN, a1, c1, l, some ⟨gf, 0, none⟩, l.length, newF sN l, some ⟨gh, 0, none⟩, N, newH N sN, by rw [HL1.out, HL2.out], (HNew.out.onlyN ho4 (by omega)).from_ (by omega), rfl, rfl, rfl, rfl, rfl, rfl⟩
  · have hE' : (E != 0) = true := by simpa using hE
    have HT : Hid (E ≠ 0) := hE
    clear hE
    go_wp2_with (refine wpList_store_push rfl (.tmp 2) (.tmp 12) rfl (w.heap.size + 1) _ _ _ _ _ _ 0 0 0 none none none 0 0 0 0 0 0 rfl rfl HZ.out ?_; intro w4 ho4 hb4 hs4)
    obtain ⟨⟨q0, q1, q2, q3, q4, q5⟩, _⟩ := blk6 hb4
    (try simp only [Exit.inBlock, Exit.then])
    refine bodyPost_ret (v := .tuple #[.agg #[.int .i64 0, .int .i64 0, .int .i64 0, .slice none 0 0, .slice none 0 0, .slice none 0 0], .int .i64 E]) (by simp [results, Try.results20, go_sem, q0, q1, q2, q3, q4, q5]) rfl ⟨HB.out.trans (ho4.below (by omega) (by omega)), 0, 0, 0, none, 0, [], none, 0, [], none, 0, [], rfl, PushNew.nil _ _, fun h => absurd h HT.out⟩

end Go.Proofs.Ytgmifepfbcgfbaa
