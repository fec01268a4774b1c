/- Package level: Of. -/
import Derived.Deep.RegionHeld3
import Derived.Test.YtlfhnhfhaifchaaLLook
import Derived.Test.YtlfhnhfhaifchaaLSend
import Derived.Test.YtlfhnhfhaifchaaFlowC
namespace Go.Proofs.Ytlfhnhfhaifchaa
open Go.RowKit
set_option linter.unusedVariables false

/-- a round's cells -/
def roundA (n s t : Int) (ao : Option Addr) (len cap : Nat) (af : Option Addr) (fl cf : Nat) : Array Value :=
  #[.int .i64 n, .int .i64 s, .int .i64 t, .slice ao len cap, .slice af fl cf, .int .i64 0, .int .i64 0, .int .i64 0, .int .i64 0, .int .i64 0, .int .i64 0, .int .i64 0, .int .i64 0, .int .i64 0, .int .i64 0, .int .i64 0, .int .i64 0]
theorem infoRound : (Try.prog.info? 45).map (·.size) = some 17 := by kernel_rfl
theorem round_at {w : World} {R : Nat} {n s t : Int} {ao : Option Addr} {len cap gf fl cf : Nat} (h : w.heap[R]? = some (.cells (roundA n s t ao len cap (some ⟨gf, 0, none⟩) fl cf) 45 (0, 0))) : RoundAt w R n s t ao len cap gf fl cf (fun _ => 0) :=
  ⟨_, h, rfl, fun i hi => by
    match i, hi with
    | 0, _ => rfl
    | 1, _ => rfl
    | 2, _ => rfl
    | 3, _ => rfl
    | 4, _ => rfl
    | 5, _ => rfl
    | 6, _ => rfl
    | 7, _ => rfl
    | 8, _ => rfl
    | 9, _ => rfl
    | 10, _ => rfl
    | 11, _ => rfl
    | 12, _ => rfl
    | 13, _ => rfl
    | 14, _ => rfl
    | 15, _ => rfl
    | 16, _ => rfl
    | k + 17, hi => exact absurd hi (by omega)⟩
theorem results_tmp4 {fn : Func} {t u v x : Tmp} (h : fn.results = #[.tmp t, .tmp u, .tmp v, .tmp x]) (tmps : Array Value) (P : Program) (w : World) :
    (results fn tmps).run P w = .ok (.tuple #[tmps.getD t undef, tmps.getD u undef, tmps.getD v undef, tmps.getD x undef]) w := by
  simp [results, h]

set_option maxHeartbeats 8000000 in
set_option maxRecDepth 100000 in
theorem LOf_any : LOfC := by
  intro n s t ao cap l w hG
  have hG0 := hG.alloc (.cells #[.int .i64 n, .int .i64 s, .int .i64 t, .slice ao l.length cap] 24)
  have x0 := blk_new w (.cells #[.int .i64 n, .int .i64 s, .int .i64 t, .slice ao l.length cap] 24)
  have hc := CheckNet_any n s t ao cap l _ hG.len hG0.arcs
  obtain ⟨E, hEE⟩ : ∃ E, netErr n s t l = E := ⟨_, rfl⟩
  rw [hEE] at hc ⊢
  have HE : Hid (netErr n s t l = E) := hEE
  clear hG hEE
  go_enter Try.func7, Try.ntmps7
  go_wp2_with fail
  refine hc.mono ?_
  clear hc
  rintro e w1 ⟨rfl, hb1⟩
  simp only [World.size_alloc] at hb1
  have hz1 := hb1.size
  simp only [World.size_alloc] at hz1
  have x1 := blk_below hb1 x0 (by omega)
  have HB : Hid (Below w.heap.size w w1) := below_in hb1 (by omega)
  have HG : Hid (GraphIn w1 ao cap l) := hG0.below hb1 (by simp)
  have HX : Hid (w1.heap[w.heap.size]? = some (.cells #[.int .i64 n, .int .i64 s, .int .i64 t, .slice ao l.length cap] 24 (0, 0))) := x1
  have hwz : w.heap.size < w1.heap.size := by omega
  obtain ⟨r0, r1, r2, r3⟩ := blk4 x1
  clear hb1 x0 x1 hG0 hz1
  by_cases hE : E = 0
  · subst hE
    have h00 : ((0 : Int) != 0) = false := rfl
    have hl60 := (err_ok (net_ok HE.out).1).2.1
    have hmk := make_ints l.length (by omega)
    have HS : Hid (∀ x : World, Below w1.heap.size w1 x → Below w1.heap.size w1 x ∧ x.cell? ⟨w.heap.size, 0, none⟩ = some (.int .i64 n) ∧ x.cell? ⟨w.heap.size, 1, none⟩ = some (.int .i64 s) ∧ x.cell? ⟨w.heap.size, 2, none⟩ = some (.int .i64 t) ∧ x.cell? ⟨w.heap.size, 3, none⟩ = some (.slice ao l.length cap)) :=
      fun x h => ⟨h, later h r0 hwz, later h r1 hwz, later h r2 hwz, later h r3 hwz⟩
    go_wp2
    go_cut [7] (fun p wx => ∃ R gf, p = .pointer (some ⟨R, 0, none⟩) ∧ gf ≠ R ∧ w1.heap.size ≤ R ∧ w1.heap.size ≤ gf ∧ Hid (Below w1.heap.size w1 wx) ∧ Hid (OwnI wx gf l.length l.length (fun _ => 0)) ∧ Hid (RoundAt wx R n s t ao l.length cap gf l.length l.length (fun _ => 0)))
    case first =>
      clear HG HE HB HX r0 r1 r2 r3
      go_region_held3 (fun x => Below w1.heap.size w1 x ∧ x.cell? ⟨w.heap.size, 0, none⟩ = some (.int .i64 n) ∧ x.cell? ⟨w.heap.size, 1, none⟩ = some (.int .i64 s) ∧ x.cell? ⟨w.heap.size, 2, none⟩ = some (.int .i64 t) ∧ x.cell? ⟨w.heap.size, 3, none⟩ = some (.slice ao l.length cap))
        (first
          | with_reducible assumption
          | with_reducible exact HS.out _ ((Below.refl _ _).drew)
          | with_reducible exact HS.out _ (below_al (And.left (by with_reducible assumption)) _)
          | with_reducible exact HS.out _ (Below.drew (below_al (below_al (Below.refl _ _) _) _)))
        (fail)
      all_goals
        go_wp2
        go_meet
        case rel =>
          first
          | exact ⟨_, _, rfl, by omega, by omega, Nat.le_refl _, Below.drew (below_al (below_al (Below.refl _ _) _) _), ⟨_, ((zeri_row w1 l.length 3).alloc _).drew, Nat.le_refl _, fun j hj => rfl⟩, round_at (by rw [show (w1.heap.size + 1 = (w1.alloc (.cells (zeri l.length) 3)).heap.size) by simp]; exact blk_new _ _)⟩
          | exact ⟨_, _, rfl, by omega, Nat.le_refl _, by omega, Below.drew (below_al (below_al (Below.refl _ _) _) _), ⟨_, World.rowIs.drew (by have := zeri_row (w1.alloc (.cells (roundA n s t ao l.length cap (some ⟨w1.heap.size + 1, 0, none⟩) l.length l.length) 45)) l.length 3; rw [World.size_alloc] at this; exact this), Nat.le_refl _, fun j hj => rfl⟩, round_at (blk_old (blk_new _ _) _)⟩
    case rest =>
      obtain ⟨R, gf, rfl, hgR, hR1, hg1, HBc, HOc, HRc⟩ := hcut
      obtain ⟨hge, hs, ht, hst⟩ := net_ok HE.out
      obtain ⟨⟨hn1, hn2⟩, _, _⟩ := err_ok hge
      obtain ⟨N, rfl⟩ := Int.eq_ofNat_of_zero_le (show 0 ≤ n by omega)
      obtain ⟨sN, rfl⟩ := Int.eq_ofNat_of_zero_le hs.1
      obtain ⟨tN, rfl⟩ := Int.eq_ofNat_of_zero_le ht.1
      have hN : N ≤ 12 := by omega
      have hsN : sN < N := by omega
      have htN : tN < N := by omega
      have ht12 : tN < 12 := by omega
      have hti : (tN : Int) < 12 := by omega
      have hne : sN ≠ tN := fun e => hst (by rw [e])
      have HNE : Hid (sN ≠ tN) := hne
      have hIv : LvInv N sN tN l (List.replicate l.length 0) 0 := LvInv.start HE.out hne ht12
      have hz0 := hIv.zero rfl
      have HIv : Hid (LvInv N sN tN l (List.replicate l.length 0) 0) := hIv
      have HAR : Hid (∀ c off, ao = some ⟨c, off, none⟩ → 0 < l.length → c ≠ R ∧ c ≠ gf) := fun c off e h0 => by
        obtain ⟨b, o', e', hb, _⟩ := HG.out.arcs 0 h0
        rw [e] at e'; cases e'; omega
      clear hge hs ht hst HS r0 r1 r2 r3 hmk hne hIv
      go_wp2
      go_loopg [8, 9] N (fun g v r wr => ∃ (i : Nat) (F : List Int) (E : Nat → Int), i + g = N ∧ v = .int .i64 (gone l (ati F) sN) ∧ r = .int .i64 i ∧ Hid (LvInv N sN tN l F i) ∧ Hid (OwnI wr gf l.length l.length (ati F)) ∧ Hid (RoundAt wr R N sN tN ao l.length cap gf l.length l.length E) ∧ Hid (Below w1.heap.size w1 wr))
      case atStart => exact ⟨0, List.replicate l.length 0, _, by omega, by rw [hz0], rfl, HIv, HOc.out.congr fun j _ => (ati_zero _ j).symm, HRc, HBc⟩
      case round =>
        clear HIv HOc HRc HBc hz0
        obtain ⟨i, F, E, hg, rfl, rfl, HIv, HO, HR, HBr⟩ := hrel
        have hlen := HIv.out.flow.len
        have hfew := HIv.out.few
        have hIF : IntsAt wr (some ⟨gf, 0, none⟩) F := fun i hi => ⟨_, _, rfl, HO.out.lt, by rw [Nat.zero_add]; exact HO.out.cell (by rw [← hlen]; exact hi)⟩
        have hlk := llook_any R N sN tN gf l.length cap ao l F E wr HE.out (HG.out.arcs.below HBr.out (Nat.le_refl _)) (fun c off e h0 => (HAR.out c off e h0).1) hlen hIF hgR (by omega) (by rw [hlen]; exact HR.out)
        rw [hlen] at hlk
        have HLen : Hid (F.length = l.length) := hlen
        obtain ⟨y, hy⟩ : ∃ y, gone l (ati F) sN = y := ⟨_, rfl⟩
        have hyb : -600000 ≤ y ∧ y ≤ 600000 := by
          have := goneK_bound (l := l) (f := ati F) (v := sN) (C := 10000) (by omega) l.length fun i hi => by
            have := HIv.out.flow.bnd i hi
            have := (arc_at HE.out hi).2.2.2.2
            omega
          rw [← hy]
          unfold gone
          omega
        rw [hy]
        have HY : Hid (gone l (ati F) sN = y) := hy
        clear hlen hIF hy
        go_wp2_with fail
        refine hlk.mono ?_
        clear hlk
        rintro e w2 ⟨rfl, ho2, D, hr2, hL⟩
        have HB2 : Hid (Below w1.heap.size w1 w2) := HBr.out.trans (ho2.below hR1 HBr.out.size)
        have HO2 : Hid (OwnI w2 gf l.length l.length (ati F)) := by
          obtain ⟨f, h1, h2, h3⟩ := HO.out
          exact ⟨f, ho2.row h1 hgR, h2, h3⟩
        have HL : Hid (LookIs N sN l F D) := hL
        have HR2 : Hid (RoundAt w2 R N sN tN ao l.length cap gf l.length l.length D) := hr2
        have x2 := blk_below HB2.out HX.out hwz
        obtain ⟨q0, q1, q2, q3⟩ := blk4 x2
        obtain ⟨r0, r1, r2, r3, r4⟩ := HR2.out.cells
        have c0 := HR2.out.far ht12
        have hlow := (hL.low tN ht12).1
        clear ho2 hr2 hL x2 HO HR HBr
        by_cases hT : D tN = -1
        · have e1 : (D tN == -1) = true := by simpa using hT
          have HTl : Hid (LevelTells N sN tN l F y i 0) := by
            have := HIv.out.tells HE.out hN HL.out (by omega)
            rw [HY.out] at this
            exact this
          clear hT hlow
          generalize D tN = dt at *
          go_wp2
          (try simp only [Exit.inBlock, Exit.then])
          refine bodyPost_ret (results_tmp4 rfl _ _ _) rfl ?_
          refine ⟨HB.out.trans (HB2.out.mono (by omega)), some ⟨gf, 0, none⟩, l.length, F, y, i, by rw [HLen.out]; rfl, ?_, HTl.out⟩
          exact ⟨fun i hi => ⟨_, _, rfl, HO2.out.lt, by rw [Nat.zero_add]; exact HO2.out.cell (by rw [← HLen.out]; exact hi)⟩, by rw [HLen.out]; exact Nat.le_refl _, by unfold maxLen; omega, fun e => by cases e⟩
        · have e1 : (D tN == -1) = false := by simpa using hT
          have hdt : 0 ≤ D tN := by omega
          have hL0 : LiveD N tN l D F D := ⟨HLen.out, HIv.out.flow.bnd, fun v _ => Or.inl rfl, ⟨fun c => c rfl, fun k b _ _ hx _ => absurd rfl hx⟩⟩
          have hsd := lsend_any R N sN tN gf l.length cap ao l D HE.out HL.out.low HAR.out hgR (Nat.le_refl _) 12 sN 600000 F D w2 hsN rfl (by rw [HL.out.src]; omega) (by rw [HL.out.src]; omega) ⟨by omega, by omega⟩ hL0 (HG.out.arcs.below HB2.out (Nat.le_refl _)) HO2.out HR2.out
          have HStep : Hid (∀ x F' E', Sent N tN l D sN F D x F' E' → (0 ≤ x ∧ x ≤ 600000) → (x < 600000 → E' sN ≠ D sN) → LvInv N sN tN l F' (i + 1) ∧ gone l (ati F') sN = y + x) := fun x F' E' h1 h2 h3 => by
            have := HIv.out.round HE.out hN HNE.out hsN htN hl60 HL.out hdt h1 h2 h3
            rw [HY.out] at this
            exact this
          clear hT hlow hL0 hdt
          generalize D tN = dt at *
          go_wp2_with fail
          refine hsd.mono ?_
          clear hsd
          rintro e w3 ⟨ho3, x, F', E', rfl, hO3, hR3, hS3, hx3, hd3⟩
          obtain ⟨hI3, hv3⟩ := HStep.out x F' E' hS3 hx3 hd3
          have hF3 := hI3.flow
          have hvb : -600000 ≤ y + x ∧ y + x ≤ 600000 := by
            have := goneK_bound (l := l) (f := ati F') (v := sN) (C := 10000) (by omega) l.length fun i hi => by
              have := hF3.bnd i hi
              have := (arc_at HE.out hi).2.2.2.2
              omega
            rw [← hv3]
            unfold gone
            omega
          have v1 : IntKind.i64.wrap (y + x) = y + x := by rw [IntKind.wrap_i64]; omega
          have HI3 : Hid (LvInv N sN tN l F' (i + 1)) := hI3
          have HV3 : Hid (gone l (ati F') sN = y + x) := hv3
          have HO3 : Hid (OwnI w3 gf l.length l.length (ati F')) := hO3
          have HR3 : Hid (RoundAt w3 R N sN tN ao l.length cap gf l.length l.length E') := hR3
          have HB3 : Hid (Below w1.heap.size w1 w3) := HB2.out.trans (ho3.below hR1 hg1 HB2.out.size)
          clear ho3 hO3 hR3 hS3 hx3 hd3 hI3 hv3 hF3 HStep q0 q1 q2 q3 r0 r1 r2 r3 r4 c0
          go_wp2
          go_roundg (gk - 1)
          case measure => omega
          case rel => exact ⟨i + 1, F', E', by omega, by rw [HV3.out], by go_num, HI3, HO3, HR3, HB3⟩
  · have hE' : (E != 0) = true := by simpa using hE
    have HT : Hid (E ≠ 0) := hE
    clear hE
    go_wp2
    (try simp only [Exit.inBlock, Exit.then])
    refine bodyPost_ret (results_tmp4 rfl _ _ _) rfl ?_
    exact ⟨HB.out, none, 0, [], 0, 0, rfl, ⟨fun i hi => absurd hi (Nat.not_lt_zero _), Nat.le_refl _, Nat.zero_le _, fun _ => ⟨rfl, rfl⟩⟩, ⟨⟨fun _ => ⟨rfl, rfl⟩, fun h => absurd h HT.out, fun h => absurd h HT.out, fun h => absurd h HT.out⟩, fun _ => rfl, fun h => absurd h HT.out, fun h => absurd h HT.out⟩⟩

end Go.Proofs.Ytlfhnhfhaifchaa
