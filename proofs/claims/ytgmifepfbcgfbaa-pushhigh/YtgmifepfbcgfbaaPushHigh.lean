/- The law PushHigh, walked out of contracts of package push. -/
import Derived.Test.YtgmifepfbcgfbaaPuQ
import Derived.Test.YtgmifepfbcgfbaaCatI
import Derived.Deep.RegionHeld3
namespace Go.Proofs.Ytgmifepfbcgfbaa
open Go.RowKit
set_option linter.unusedVariables false

theorem pre_bl6 {W x : World} {o : Obj} (h : Below (W.alloc o).heap.size (W.alloc o) x) : x.heap[W.heap.size]? = some o := blk_below h (blk_new W o) (by simp)
theorem pre_cl6 {W x : World} {o : Obj} (h : Below (W.drew.alloc o).heap.size (W.drew.alloc o) x) : x.heap[W.heap.size]? = some o := blk_below h (blk_new W.drew o) (by simp)
theorem pre_dl6 {W x : World} {o : Obj} (h : Below (W.drew.alloc o).drew.heap.size (W.drew.alloc o).drew x) : x.heap[W.heap.size]? = some o := blk_below h (blk_drew (blk_new W.drew o)) (by simp)
theorem mid_a {W x : World} {o p : Obj} (h : Below ((W.alloc p).alloc o).heap.size ((W.alloc p).alloc o) x) : x.heap[W.heap.size + 1]? = some o := by
  have := blk_below h (blk_new (W.alloc p) o) (by simp)
  rwa [World.size_alloc] at this
theorem mid_b {W x : World} {o p : Obj} (h : Below ((W.alloc p).alloc o).drew.heap.size ((W.alloc p).alloc o).drew x) : x.heap[W.heap.size + 1]? = some o := by
  have := blk_below h (blk_drew (blk_new (W.alloc p) o)) (by simp)
  rwa [World.size_alloc] at this
theorem mid_c {W x : World} {o p : Obj} (h : Below ((W.alloc p).drew.alloc o).heap.size ((W.alloc p).drew.alloc o) x) : x.heap[W.heap.size + 1]? = some o := by
  have := blk_below h (blk_new (W.alloc p).drew o) (by simp)
  rwa [show (W.alloc p).drew.heap.size = W.heap.size + 1 from World.size_alloc _ _] at this
theorem mid_d {W x : World} {o p : Obj} (h : Below ((W.alloc p).drew.alloc o).drew.heap.size ((W.alloc p).drew.alloc o).drew x) : x.heap[W.heap.size + 1]? = some o := by
  have := blk_below h (blk_drew (blk_new (W.alloc p).drew o)) (by simp)
  rwa [show (W.alloc p).drew.heap.size = W.heap.size + 1 from World.size_alloc _ _] at this
theorem low_a {W x : World} {o p : Obj} (h : Below ((W.alloc o).alloc p).heap.size ((W.alloc o).alloc p) x) : x.heap[W.heap.size]? = some o := blk_below h (blk_old (blk_new W o) p) (by simp; omega)
theorem low_b {W x : World} {o p : Obj} (h : Below ((W.alloc o).alloc p).drew.heap.size ((W.alloc o).alloc p).drew x) : x.heap[W.heap.size]? = some o := blk_below h (blk_drew (blk_old (blk_new W o) p)) (by simp; omega)
theorem low_c {W x : World} {o p : Obj} (h : Below ((W.alloc o).drew.alloc p).heap.size ((W.alloc o).drew.alloc p) x) : x.heap[W.heap.size]? = some o := blk_below h (blk_old (blk_drew (blk_new W o)) p) (by simp; omega)
theorem low_d {W x : World} {o p : Obj} (h : Below ((W.alloc o).drew.alloc p).drew.heap.size ((W.alloc o).drew.alloc p).drew x) : x.heap[W.heap.size]? = some o := blk_below h (blk_drew (blk_old (blk_drew (blk_new W o)) p)) (by simp; omega)
theorem Below.undrew {B : Nat} {w x : World} (h : Below B w.drew x) : Below B w x := ⟨h.os, h.tape, h.output, h.size, h.block⟩
theorem blk_later {w x : World} {b : Nat} {o : Obj} (h : Below w.heap.size w x) (hb : w.heap[b]? = some o) : x.heap[b]? = some o := blk_below h hb (Array.getElem?_eq_some_iff.1 hb).1

/-- a second net on its way, behind the first -/
structure HAt (W : World) (qb : Nat) (wx : World) (n s t : Int) (b1 : Option Addr) (d1 : Nat) (l : List Arc3) (b2 : Option Addr) (d2 : Nat) (f : List Int) (b3 : Option Addr) (d3 : Nat) (h : List Int) : Prop where
  blk : wx.heap[qb]? = some (.cells #[.int .i64 n, .int .i64 s, .int .i64 t, .slice b1 l.length d1, .slice b2 f.length d2, .slice b3 h.length d3] 28 (0, 0))
  inn : PushIn wx b1 d1 l b2 d2 f b3 d3 h
  lo : W.heap.size ≤ qb
  bel : Below W.heap.size W wx
theorem HAt.late {W w' : World} {n s t : Int} {b1 b2 b3 : Option Addr} {d1 d2 d3 : Nat} {l : List Arc3} {f h : List Int} (hN : PushIn w' b1 d1 l b2 d2 f b3 d3 h) (hb : Below W.heap.size W w') :
    HAt W w'.heap.size (w'.alloc (.cells #[.int .i64 n, .int .i64 s, .int .i64 t, .slice b1 l.length d1, .slice b2 f.length d2, .slice b3 h.length d3] 28)) n s t b1 d1 l b2 d2 f b3 d3 h :=
  ⟨blk_new _ _, hN.alloc _, hb.size, hb.alloc hb.size _⟩
theorem HAt.early {W w' : World} {g : Nat} {n s t : Int} {b1 b2 b3 : Option Addr} {d1 d2 d3 : Nat} {l : List Arc3} {f h : List Int} {x0 x1 x2 x3 x4 x5 : Value} (hblk : w'.heap[g]? = some (.cells #[x0, x1, x2, x3, x4, x5] 28 (0, 0)))
    (hN : PushIn w' b1 d1 l b2 d2 f b3 d3 h) (hap : Apart g b1 b2 b3) (hg : W.heap.size ≤ g) (hb : Below W.heap.size W w') :
    HAt W g ((((((w'.setCell ⟨g, 0, none⟩ (.int .i64 n)).setCell ⟨g, 1, none⟩ (.int .i64 s)).setCell ⟨g, 2, none⟩ (.int .i64 t)).setCell ⟨g, 3, none⟩ (.slice b1 l.length d1)).setCell ⟨g, 4, none⟩ (.slice b2 f.length d2)).setCell ⟨g, 5, none⟩ (.slice b3 h.length d3)) n s t b1 d1 l b2 d2 f b3 d3 h :=
  have ho := only_set6 w' g (.int .i64 n) (.int .i64 s) (.int .i64 t) (.slice b1 l.length d1) (.slice b2 f.length d2) (.slice b3 h.length d3)
  ⟨blk6_set hblk _ _ _ _ _ _, hN.only ho hap.1 hap.2.1 hap.2.2, hg, hb.trans (ho.below hg hb.size)⟩

set_option maxHeartbeats 8000000 in
set_option maxRecDepth 100000 in
theorem PushHigh_any (hP : PNewC) (hS : PSendC) (hL : PLiftC) (n s t : Int) (ao ax ay : Option Addr) (cap cs cy : Nat) (l : List Arc3) (xs ys : List Int) (w : World) (hG : GraphIn w ao cap l) (hI : IntsIn w ax cs xs) (hJ : IntsIn w ay cy ys) (hlen : xs.length + ys.length ≤ 35184372088832) :
    Calls Try.prog 5 #[.agg #[.int .i64 n, .int .i64 s, .int .i64 t, .slice ao l.length cap], .slice ax xs.length cs, .slice ay ys.length cy] w fun e w' => e = .returned (.bool true) ∧ Below w.heap.size w w' := by
  have hG0 := hG.alloc (.cells #[.int .i64 n, .int .i64 s, .int .i64 t, .slice ao l.length cap] 24)
  have x0 := blk_new w (.cells #[.int .i64 n, .int .i64 s, .int .i64 t, .slice ao l.length cap] 24)
  have hI0 := hI.alloc (.cells #[.int .i64 n, .int .i64 s, .int .i64 t, .slice ao l.length cap] 24)
  have hJ0 := hJ.alloc (.cells #[.int .i64 n, .int .i64 s, .int .i64 t, .slice ao l.length cap] 24)
  clear hG hI hJ
  go_enter Try.func5, Try.ntmps5
  go_wp2_with fail
  refine (pushes_any hP _).mono ?_
  rintro e w1 ⟨rfl, hb1⟩
  simp only [World.size_alloc] at hb1
  have hz1 := hb1.size
  simp only [World.size_alloc] at hz1
  have x1 := blk_below hb1 x0 (by omega)
  have hG1 := hG0.below hb1 (by simp)
  have hI1 := hI0.below hb1 (by simp)
  have HI1 : Hid (IntsIn w1 ax cs xs) := hI1
  have HJ1 : Hid (IntsIn w1 ay cy ys) := hJ0.below hb1 (by simp)
  have HLen : Hid (xs.length + ys.length ≤ 35184372088832) := hlen
  have HB1 : Hid (Below w.heap.size w w1) := below_in hb1 (by omega)
  have HG1 : Hid (GraphIn w1 ao cap l) := hG1
  obtain ⟨r0, r1, r2, r3⟩ := blk4 x1
  have hq := pushed_any hP hS hL n s t ao ax cap cs l xs w1 hG1 hI1
  clear hb1 x0 hG0 hI0 hJ0 hG1 hI1 hlen
  go_wp2_with fail
  refine hq.mono ?_
  clear hq
  rintro e w2 ⟨hb2, n', s', t', a1, c1, L, a2, c2, F, a3, c3, H, d, ok, rfl, hIn, hWi, hFr, hno, hyes⟩
  have hz2 := hb2.size
  have x2 := blk_below hb2 x1 (by omega)
  have HB2 : Hid (Below w.heap.size w w2) := HB1.out.trans (hb2.mono (by omega))
  have HG2 : Hid (GraphIn w2 ao cap l) := HG1.out.below hb2 (Nat.le_refl _)
  have HI2 : Hid (IntsIn w2 ax cs xs) := HI1.out.below hb2 (Nat.le_refl _)
  have HJ2 : Hid (IntsIn w2 ay cy ys) := HJ1.out.below hb2 (Nat.le_refl _)
  have hwz : w.heap.size < w2.heap.size := by omega
  clear hb2 x1 HB1 HG1 HI1 HJ1 r0 r1 r2 r3
  obtain ⟨r0, r1, r2, r3⟩ := blk4 x2
  have HNo : Hid (netErr n s t l ≠ 0 → ok = false) := hno
  have HYes : Hid (netErr n s t l = 0 → ok = true ∧ n' = n ∧ s' = s ∧ t' = t ∧ L = l ∧ (F, H) = runP n.toNat s.toNat t.toNat l (newF s.toNat l, newH n.toNat s.toNat) (xs.map (stepN n.toNat l))) := hyes
  have HIn : Hid (PushIn w2 a1 c1 L a2 c2 F a3 c3 H) := hIn
  have HX2 : Hid (w2.heap[w.heap.size]? = some (.cells #[.int .i64 n, .int .i64 s, .int .i64 t, .slice ao l.length cap] 24 (0, 0))) := x2
  clear hno hyes hIn hWi hFr x2 hz2
  obtain ⟨W, hW⟩ : ∃ W, W = w2.alloc (.cells #[.int .i64 n', .int .i64 s', .int .i64 t', .slice a1 L.length c1, .slice a2 F.length c2, .slice a3 H.length c3] 28) := ⟨_, rfl⟩
  have hWb : Below w2.heap.size w2 W := by rw [hW]; exact below_one _ _
  have hWz : w2.heap.size < W.heap.size := by rw [hW]; simp
  have HGW : Hid (GraphIn W ao cap l) := HG2.out.below hWb (Nat.le_refl _)
  have HIW : Hid (IntsIn W ax cs xs) := HI2.out.below hWb (Nat.le_refl _)
  have HJW : Hid (IntsIn W ay cy ys) := HJ2.out.below hWb (Nat.le_refl _)
  have HXW : Hid (W.heap[w.heap.size]? = some (.cells #[.int .i64 n, .int .i64 s, .int .i64 t, .slice ao l.length cap] 24 (0, 0))) := blk_below hWb HX2.out hwz
  have HPW : Hid (W.heap[w2.heap.size]? = some (.cells #[.int .i64 n', .int .i64 s', .int .i64 t', .slice a1 L.length c1, .slice a2 F.length c2, .slice a3 H.length c3] 28 (0, 0))) := by rw [hW]; exact blk_new _ _
  have HInW : Hid (PushIn W a1 c1 L a2 c2 F a3 c3 H) := HIn.out.below hWb (Nat.le_refl _)
  have HBW : Hid (Below w.heap.size w W) := HB2.out.trans (hWb.mono HB2.out.size)
  have HW : Hid (W = w2.alloc (.cells #[.int .i64 n', .int .i64 s', .int .i64 t', .slice a1 L.length c1, .slice a2 F.length c2, .slice a3 H.length c3] 28)) := hW
  have hw0 : w.heap.size < W.heap.size := by omega
  clear hWb hW
  go_upto_region 4 with fail
  rw [← HW.out]
  clear r0 r1 r2 r3
  obtain ⟨r0, r1, r2, r3⟩ := blk4 HXW.out
  go_cut [10, 11, 12] (fun qp dd ok2 wx => ∃ (qb : Nat) (m' u' v' : Int) (b1 : Option Addr) (d1 : Nat) (L' : List Arc3) (b2 : Option Addr) (d2 : Nat) (F' : List Int) (b3 : Option Addr) (d3 : Nat) (H' : List Int) (d' : Int) (okk : Bool), qp = .pointer (some ⟨qb, 0, none⟩) ∧ dd = .int .i64 d' ∧ ok2 = .bool okk ∧
    Hid (HAt W qb wx m' u' v' b1 d1 L' b2 d2 F' b3 d3 H') ∧
    Hid (netErr n s t l ≠ 0 → okk = false) ∧ Hid (netErr n s t l = 0 → okk = true ∧ m' = n ∧ u' = s ∧ v' = t ∧ L' = l ∧ (F', H') = runP n.toNat s.toNat t.toNat l (newF s.toNat l, newH n.toNat s.toNat) ((xs ++ ys).map (stepN n.toNat l))))
  case first =>
    obtain ⟨zs, hzs⟩ : ∃ zs, xs ++ ys = zs := ⟨_, rfl⟩
    have HZs : Hid (xs ++ ys = zs) := hzs
    clear hzs
    have HCat : Hid (∀ (x : World) (b : Nat), Below W.heap.size W x → b < x.heap.size → x.cell? ⟨b, 0, none⟩ = some (.slice ax xs.length cs) → x.cell? ⟨b, 1, none⟩ = some (.slice ay ys.length cy) →
        Calls Try.prog 15 #[.slice (some ⟨b, 0, none⟩) 2 2] x fun e w' => Below x.heap.size x w' ∧ ∃ az cz, e = .returned (.slice az zs.length cz) ∧ IntsIn w' az cz zs) :=
      fun x b hx hb h0 h1 => by
        have h := concatI_any b ax ay cs cy xs ys x hb h0 h1 (HIW.out.below hx (Nat.le_refl _)) (HJW.out.below hx (Nat.le_refl _)) HLen.out
        rw [HZs.out] at h
        exact h
    have HRun : Hid (∀ (x : World) (az : Option Addr) (cz : Nat), Below W.heap.size W x → IntsIn x az cz zs → Calls Try.prog 8 #[.agg #[.int .i64 n, .int .i64 s, .int .i64 t, .slice ao l.length cap], .slice az zs.length cz] x fun e w' => Below x.heap.size x w' ∧
      ∃ n' s' t' a1 c1 L a2 c2 F a3 c3 H d ok, e = .returned (.tuple #[.agg #[.int .i64 n', .int .i64 s', .int .i64 t', .slice a1 (L : List Arc3).length c1, .slice a2 (F : List Int).length c2, .slice a3 (H : List Int).length c3], .int .i64 d, .bool ok]) ∧
        PushIn w' a1 c1 L a2 c2 F a3 c3 H ∧ Within w'.heap.size a1 a2 a3 ∧ FromB x.heap.size a1 a2 a3 ∧ (netErr n s t l ≠ 0 → ok = false) ∧ (netErr n s t l = 0 → ok = true ∧ n' = n ∧ s' = s ∧ t' = t ∧ L = l ∧ (F, H) = runP n.toNat s.toNat t.toNat l (newF s.toNat l, newH n.toNat s.toNat) (zs.map (stepN n.toNat l)))) :=
      fun x az cz hx hz => pushed_any hP hS hL n s t ao az cap cz l zs x (HGW.out.below hx (Nat.le_refl _)) hz
    have HS : Hid (∀ x : World, Below W.heap.size W x → Below W.heap.size W x ∧ x.cell? ⟨w.heap.size, 0, none⟩ = some (.int .i64 n) ∧ x.cell? ⟨w.heap.size, 1, none⟩ = some (.int .i64 s) ∧ x.cell? ⟨w.heap.size, 2, none⟩ = some (.int .i64 t) ∧ x.cell? ⟨w.heap.size, 3, none⟩ = some (.slice ao l.length cap)) := fun x h => ⟨h, later h r0 hw0, later h r1 hw0, later h r2 hw0, later h r3 hw0⟩
    have HS6 : Hid (∀ (x : World) (g : Nat), Below W.heap.size W x → W.heap.size ≤ g → ∀ y0 y1 y2 y3 y4 y5, Below W.heap.size W ((((((x.setCell ⟨g, 0, none⟩ y0).setCell ⟨g, 1, none⟩ y1).setCell ⟨g, 2, none⟩ y2).setCell ⟨g, 3, none⟩ y3).setCell ⟨g, 4, none⟩ y4).setCell ⟨g, 5, none⟩ y5) ∧ ((((((x.setCell ⟨g, 0, none⟩ y0).setCell ⟨g, 1, none⟩ y1).setCell ⟨g, 2, none⟩ y2).setCell ⟨g, 3, none⟩ y3).setCell ⟨g, 4, none⟩ y4).setCell ⟨g, 5, none⟩ y5).cell? ⟨w.heap.size, 0, none⟩ = some (.int .i64 n) ∧ ((((((x.setCell ⟨g, 0, none⟩ y0).setCell ⟨g, 1, none⟩ y1).setCell ⟨g, 2, none⟩ y2).setCell ⟨g, 3, none⟩ y3).setCell ⟨g, 4, none⟩ y4).setCell ⟨g, 5, none⟩ y5).cell? ⟨w.heap.size, 1, none⟩ = some (.int .i64 s) ∧
        ((((((x.setCell ⟨g, 0, none⟩ y0).setCell ⟨g, 1, none⟩ y1).setCell ⟨g, 2, none⟩ y2).setCell ⟨g, 3, none⟩ y3).setCell ⟨g, 4, none⟩ y4).setCell ⟨g, 5, none⟩ y5).cell? ⟨w.heap.size, 2, none⟩ = some (.int .i64 t) ∧ ((((((x.setCell ⟨g, 0, none⟩ y0).setCell ⟨g, 1, none⟩ y1).setCell ⟨g, 2, none⟩ y2).setCell ⟨g, 3, none⟩ y3).setCell ⟨g, 4, none⟩ y4).setCell ⟨g, 5, none⟩ y5).cell? ⟨w.heap.size, 3, none⟩ = some (.slice ao l.length cap)) :=
      fun x g hx hg y0 y1 y2 y3 y4 y5 => HS.out _ (hx.trans ((only_set6 x g y0 y1 y2 y3 y4 y5).below hg hx.size))
    clear r0 r1 r2 r3 HXW HPW HInW HBW HW HGW HIW HJW HNo HYes HIn HX2 HG2 HI2 HJ2 HB2 HLen hwz
    go_wp2_with fail
    go_region_held3 (fun x => Below W.heap.size W x ∧ x.cell? ⟨w.heap.size, 0, none⟩ = some (.int .i64 n) ∧ x.cell? ⟨w.heap.size, 1, none⟩ = some (.int .i64 s) ∧ x.cell? ⟨w.heap.size, 2, none⟩ = some (.int .i64 t) ∧ x.cell? ⟨w.heap.size, 3, none⟩ = some (.slice ao l.length cap))
      (first
        | with_reducible exact HS6.out _ _ hs6.1 (by first | exact Nat.le_refl _ | exact Nat.le_succ _ | exact hs5.1.size) _ _ _ _ _ _
        | with_reducible assumption
        | with_reducible exact HS.out _ ((Below.refl _ _).drew)
        | with_reducible exact HS.out _ (below_al (And.left (by with_reducible assumption)) _))
      (first
        | (go_at_call 15; refine (HCat.out _ _ (And.left (by with_reducible assumption)) (by first | (simp; done) | (simp; omega)) (by simp) (by simp)).mono ?_; rintro e w5 ⟨hb5, az, cz, rfl, hz⟩; have hs5 := HS.out w5 (below_tr (And.left (by with_reducible assumption)) hb5); (try (have tC : w5.heap[W.heap.size + 1]? = some (.cells #[.int .i64 0, .int .i64 0, .int .i64 0, .slice none 0 0, .slice none 0 0, .slice none 0 0] 28 (0, 0)) := (by with_reducible first | exact mid_a hb5 | exact mid_b hb5 | exact mid_c hb5 | exact mid_d hb5); have TC : Hid _ := tC; clear tC)); (try (have tD : w5.heap[W.heap.size]? = some (.cells #[.int .i64 0, .int .i64 0, .int .i64 0, .slice none 0 0, .slice none 0 0, .slice none 0 0] 28 (0, 0)) := (by with_reducible first | exact low_a hb5 | exact low_b hb5 | exact low_c hb5 | exact low_d hb5); have TD : Hid _ := tD; clear tD)); have HZ : Hid (∀ x : World, Below w5.heap.size w5 x → IntsIn x az cz zs) := fun x hx => hz.below hx (Nat.le_refl _); clear hz)
        | (go_at_call 8; refine (HRun.out _ _ _ (And.left (by with_reducible assumption)) (HZ.out _ ?_)).mono ?_; ((first | with_reducible exact (Below.refl _ _).drew | with_reducible exact Below.refl _ _ | with_reducible exact below_al (Below.refl _ _).drew _ | with_reducible exact below_al (Below.refl _ _) _ | with_reducible exact (below_al (Below.refl _ _).drew _).drew | with_reducible exact (below_al (Below.refl _ _) _).drew)); rintro e w6 ⟨hb6, m', u', v', b1, d1, L', b2, d2, F', b3, d3, H', d', okk, rfl, hN6, hW6, hF6, hno6, hyes6⟩; have hs6 := HS.out w6 (below_tr (And.left (by with_reducible assumption)) hb6); (try (have tA : w6.heap[w5.heap.size]? = some (.cells #[.int .i64 0, .int .i64 0, .int .i64 0, .slice none 0 0, .slice none 0 0, .slice none 0 0] 28 (0, 0)) := (by with_reducible first | exact pre_al6 hb6 | exact pre_bl6 hb6 | exact pre_cl6 hb6 | exact pre_dl6 hb6); have HAp : Hid (Apart w5.heap.size b1 b2 b3) := hF6.apart (by first | (simp; done) | (simp; omega)); have HLe : Hid (W.heap.size ≤ w5.heap.size) := hs5.1.size; have TA : Hid _ := tA; obtain ⟨⟨a0, a1', a2', a3', a4', a5'⟩, f6⟩ := blk6 tA; have f0 := f6 0; have f1 := f6 1; have f2 := f6 2; have f3 := f6 3; have f4 := f6 4; have f5 := f6 5; clear f6 tA)); (try (have tA : w6.heap[W.heap.size + 1]? = some (.cells #[.int .i64 0, .int .i64 0, .int .i64 0, .slice none 0 0, .slice none 0 0, .slice none 0 0] 28 (0, 0)) := blk_later (by with_reducible first | exact hb6 | exact Below.undrew hb6) TC.out; have HAp : Hid (Apart (W.heap.size + 1) b1 b2 b3) := hF6.apart (Array.getElem?_eq_some_iff.1 TC.out).1; have HLe : Hid (W.heap.size ≤ W.heap.size + 1) := Nat.le_succ _; have TA : Hid _ := tA; obtain ⟨⟨a0, a1', a2', a3', a4', a5'⟩, f6⟩ := blk6 tA; have f0 := f6 0; have f1 := f6 1; have f2 := f6 2; have f3 := f6 3; have f4 := f6 4; have f5 := f6 5; clear f6 tA)); (try (have tA : w6.heap[W.heap.size]? = some (.cells #[.int .i64 0, .int .i64 0, .int .i64 0, .slice none 0 0, .slice none 0 0, .slice none 0 0] 28 (0, 0)) := blk_later (by with_reducible first | exact hb6 | exact Below.undrew hb6) TD.out; have HAp : Hid (Apart W.heap.size b1 b2 b3) := hF6.apart (Array.getElem?_eq_some_iff.1 TD.out).1; have HLe : Hid (W.heap.size ≤ W.heap.size) := Nat.le_refl _; have TA : Hid _ := tA; obtain ⟨⟨a0, a1', a2', a3', a4', a5'⟩, f6⟩ := blk6 tA; have f0 := f6 0; have f1 := f6 1; have f2 := f6 2; have f3 := f6 3; have f4 := f6 4; have f5 := f6 5; clear f6 tA)); have HN6 : Hid _ := hN6; have HO6 : Hid _ := hno6; have HY6 : Hid _ := hyes6; clear hN6 hno6 hyes6 hW6 hF6))
    all_goals
      go_wp2_with fail
      go_meet
      case rel =>
        first
        | (have hTA := TA.out; exact ⟨_, m', u', v', b1, d1, L', b2, d2, F', b3, d3, H', d', okk, rfl, rfl, rfl, HAt.early TA.out HN6.out HAp.out HLe.out hs6.1, HO6.out, (by rw [HZs.out]; exact HY6.out)⟩)
        | exact ⟨_, m', u', v', b1, d1, L', b2, d2, F', b3, d3, H', d', okk, rfl, rfl, rfl, HAt.late HN6.out hs6.1, HO6.out, (by rw [HZs.out]; exact HY6.out)⟩
  case rest =>
    obtain ⟨qb, m', u', v', b1, d1, L', b2, d2, F', b3, d3, H', d', okk, rfl, rfl, rfl, HQ, HO2, HY2⟩ := hcut
    have hqs := HQ.out.bel.size
    have hql : qb < wc.heap.size := (Array.getElem?_eq_some_iff.1 HQ.out.blk).1
    have xp := blk_below HQ.out.bel HPW.out hWz
    have xn := blk_below HQ.out.bel HXW.out hw0
    have hpc : w2.heap.size < wc.heap.size := by omega
    have hnc : w.heap.size < wc.heap.size := by omega
    have HBc : Hid (Below w.heap.size w wc) := HBW.out.trans (HQ.out.bel.mono HBW.out.size)
    clear r0 r1 r2 r3 HW
    by_cases hE : netErr n s t l = 0
    · obtain ⟨rfl, rfl, rfl, rfl, rfl, hR1⟩ := HYes.out hE
      obtain ⟨rfl, rfl, rfl, rfl, rfl, hR2⟩ := HY2.out hE
      have hge := net_ok hE
      obtain ⟨⟨hn1, hn2⟩, hl60, _⟩ := err_ok hge.1
      obtain ⟨N, rfl⟩ := Int.eq_ofNat_of_zero_le (show 0 ≤ m' by omega)
      obtain ⟨sN, rfl⟩ := Int.eq_ofNat_of_zero_le hge.2.1.1
      obtain ⟨tN, rfl⟩ := Int.eq_ofNat_of_zero_le hge.2.2.1.1
      simp only [Int.toNat_natCast] at hR1 hR2
      rw [List.map_append, run_append, ← hR1] at hR2
      have hr1 := run_reach (xs.map (stepN N L')) (newF sN L') (newH N sN) (reach_new hE)
      rw [← hR1] at hr1
      have hre1 : Reach N sN tN L' F H := hr1.1
      have hr2 := run_reach (ys.map (stepN N L')) F H hre1
      rw [← hR2] at hr2
      have hre2 : Reach N sN tN L' F' H' := hr2.1
      have HUp : Hid (∀ u, ati H u ≤ ati H' u) := hr2.2
      have HLow : Hid (∀ v, v < N → ati H' v < 2 * (N : Int)) := hre2.low
      have hh1 := hre1.ok.hlen
      have hh2 := hre2.ok.hlen
      have xq := HQ.out.blk
      rw [hh1] at xp
      rw [hh2] at xq
      have Hh1 : Hid (H.length = N) := hh1
      have Hh2 : Hid (H'.length = N) := hh2
      have XP : Hid (wc.heap[w2.heap.size]? = some (.cells #[.int .i64 (N : Int), .int .i64 (sN : Int), .int .i64 (tN : Int), .slice a1 L'.length c1, .slice a2 F.length c2, .slice a3 N c3] 28 (0, 0))) := xp
      have XQ : Hid (wc.heap[qb]? = some (.cells #[.int .i64 (N : Int), .int .i64 (sN : Int), .int .i64 (tN : Int), .slice b1 L'.length d1, .slice b2 F'.length d2, .slice b3 N d3] 28 (0, 0))) := xq
      have XN : Hid (wc.heap[w.heap.size]? = some (.cells #[.int .i64 (N : Int), .int .i64 (sN : Int), .int .i64 (tN : Int), .slice ao L'.length cap] 24 (0, 0))) := xn
      have HHp : Hid (IntsAt wc a3 H) := HInW.out.hgt.ints.below HQ.out.bel (Nat.le_refl _)
      have HHq : Hid (IntsAt wc b3 H') := HQ.out.inn.hgt.ints
      have vN : IntKind.i64.wrap (2 * (N : Int)) = 2 * (N : Int) := by rw [IntKind.wrap_i64]; omega
      have gN : ((N : Int) != (N : Int)) = false := by simp
      clear hE hge hn1 hR1 hR2 hr1 hr2 hre1 hre2 hh1 hh2 xp xq xn HNo HYes HO2 HY2 HQ HPW HXW HInW HBW HGW HIW HJW HIn HX2 HG2 HI2 HJ2 HB2 hqs
      obtain ⟨⟨p0, p1, p2, p3, p4, p5⟩, _⟩ := blk6 XP.out
      obtain ⟨⟨q0, q1, q2, q3, q4, q5⟩, _⟩ := blk6 XQ.out
      obtain ⟨r0, r1, r2, r3⟩ := blk4 XN.out
      go_wp2
      go_loopw [59] (fun i wr => ∃ k : Nat, k ≤ N ∧ i = .int .i64 k ∧ Hid (Below wc.heap.size wc wr)) (fun i _ => N - (intOf i).toNat)
      case atStart => exact ⟨0, Nat.zero_le _, rfl, Below.refl _ _⟩
      case round =>
        obtain ⟨k, hk, rfl, HB⟩ := hrel
        have hzr := HB.out.size
        clear p0 p1 p2 p3 p4 p5 q0 q1 q2 q3 q4 q5 r0 r1 r2 r3
        by_cases hlt : k < N
        · have HK : Hid (k + 1 ≤ N) := hlt
          have hpw : w2.heap.size < wr.heap.size := by omega
          have hqw : qb < wr.heap.size := by omega
          have hnw : w.heap.size < wr.heap.size := by omega
          obtain ⟨⟨p0, p1, p2, p3, p4, p5⟩, _⟩ := blk6 (blk_below HB.out XP.out hpc)
          obtain ⟨⟨q0, q1, q2, q3, q4, q5⟩, _⟩ := blk6 (blk_below HB.out XQ.out hql)
          obtain ⟨r0, r1, r2, r3⟩ := blk4 (blk_below HB.out XN.out hnc)
          obtain ⟨bP, oP, rfl, hbP, e0⟩ := HHp.out.below HB.out (Nat.le_refl _) k (by rw [Hh1.out]; exact hlt)
          obtain ⟨bQ, oQ, rfl, hbQ, e1⟩ := HHq.out.below HB.out (Nat.le_refl _) k (by rw [Hh2.out]; exact hlt)
          have hup := HUp.out k
          have hlo := HLow.out k hlt
          generalize ati H k = x at *
          generalize ati H' k = y at *
          have d1' : decide (y < x) = false := by simpa using hup
          have d2' : decide (2 * (N : Int) ≤ y) = false := by simpa using hlo
          have d3' : decide (y ≥ 2 * (N : Int)) = false := by simpa using hlo
          go_wp2
          go_quiet (fail)
          go_wp2
          go_roundw
          case rel => exact ⟨k + 1, HK.out, by go_num, below_drewN HB.out _⟩
          case measure => have := HK.out; simp [intOf]; omega
        · go_wp2
          go_ret
          exact ⟨rfl, HBc.out.trans (HB.out.mono HBc.out.size)⟩
    · obtain rfl := HNo.out hE
      obtain rfl := HO2.out hE
      clear hE HYes HY2 HO2 HNo xp xn HQ HPW HXW HInW
      go_wp2
      go_ret
      exact ⟨rfl, HBc.out⟩

end Go.Proofs.Ytgmifepfbcgfbaa
