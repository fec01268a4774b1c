/- Contract of the document's own lengths by more and more arcs: LongWays. -/
import Derived.Test.YtakemienlmlgkaaLwM
import Derived.Test.YtakemienlmlgkaaLMat
import Derived.Test.YtakemienlmlgkaaRepeat
import Derived.BigRegion
namespace Go.Proofs.Ytakemienlmlgkaa
open Go.RowKit
set_option linter.unusedVariables false

set_option maxHeartbeats 4000000 in
set_option maxRecDepth 100000 in
theorem LongWays_any (N : Nat) (ao : Option Addr) (cap : Nat) (l : List Arc3) (w : World) (hA : ArcsAt w ao l) (hm : l.length ≤ maxLen) (h1 : 1 ≤ N) (h12 : N ≤ 12)
    (hl : ∀ a ∈ l, (0 ≤ a.1 ∧ a.1 < (N : Int)) ∧ (0 ≤ a.2.1 ∧ a.2.1 < (N : Int)) ∧ -10000 ≤ a.2.2 ∧ a.2.2 ≤ 10000) :
    Calls Try.prog 13 #[.agg #[.int .i64 (N : Int), .slice ao l.length cap]] w fun e w' => Below w.heap.size w w' ∧
      ∃ D R C M, e = .returned (.slice (some ⟨D, 0, none⟩) N N) ∧ LMat w.heap.size w' D R C N N M ∧ LongIs N l M := by
  unfold maxLen at hm
  have hmk := make_intss N (by omega)
  have HL : Hid (∀ a ∈ l, (0 ≤ a.1 ∧ a.1 < (N : Int)) ∧ (0 ≤ a.2.1 ∧ a.2.1 < (N : Int)) ∧ -10000 ≤ a.2.2 ∧ a.2.2 ≤ 10000) := hl
  have HLc' : Hid (∀ a ∈ l, -10000 ≤ a.2.2 ∧ a.2.2 ≤ 10000) := fun a ha => (hl a ha).2.2
  have hA0 := hA.alloc (.cells #[.int .i64 (N : Int), .slice ao l.length cap] 24)
  have HA0 : Hid (ArcsAt (w.alloc (.cells #[.int .i64 (N : Int), .slice ao l.length cap] 24)) ao l) := hA0
  clear hl hA hA0
  go_enter Try.func13, Try.ntmps13
  go_wp2
  go_loopw [13] (fun i wr => ∃ c : Nat, c ≤ N ∧ i = .int .i64 c ∧ (∃ R C M, LMat (w.heap.size + 1) wr (w.heap.size + 1) R C N c M ∧ ∀ i : Nat, i < c → LwK N l i 24 0 (M i)) ∧ Below (w.heap.size + 1) (w.alloc (.cells #[.int .i64 (N : Int), .slice ao l.length cap] 24)) wr) (fun i _ => N - (intOf i).toNat)
  case atStart =>
    refine ⟨0, Nat.zero_le _, rfl, ⟨fun _ => 0, fun _ => 0, fun _ _ => 0, ?_, fun i hi => absurd hi (Nat.not_lt_zero _)⟩, (Below.refl _ _).alloc (by simp) _⟩
    have := nils_lmat (w.heap.size + 1) (w.alloc (.cells #[.int .i64 (N : Int), .slice ao l.length cap] 24)) N (fun _ => 0) (fun _ => 0) (fun _ _ => 0) (by simp)
    rwa [World.size_alloc] at this
  case round =>
    obtain ⟨c, hc, rfl, ⟨R, C, M, hP, hLw⟩, hB⟩ := hrel
    have hz := hB.size
    simp only [World.size_alloc] at hz
    have hD := hP.outer.lt
    have x1 := blk_below hB (blk_new w (.cells #[.int .i64 (N : Int), .slice ao l.length cap] 24)) (by omega)
    obtain ⟨r0, r1, f0, f1⟩ := blk2 x1
    by_cases hlt : c < N
    · have HP : Hid (LMat (w.heap.size + 1) wr (w.heap.size + 1) R C N c M) := hP
      have HLw : Hid (∀ i : Nat, i < c → LwK N l i 24 0 (M i)) := hLw
      have HBB : Hid (Below (w.heap.size + 1) (w.alloc (.cells #[.int .i64 (N : Int), .slice ao l.length cap] 24)) wr) := hB
      clear hP hB x1 hLw
      have hwz : w.heap.size < wr.heap.size := by omega
      go_wp2_with fail
      refine (repeat_one 1099511627776 wr.heap.size 0 1 N _ h1 h12 (by simp) (newest #[.int .i64 1099511627776] 3 0)).mono ?_
      rintro e w2 ⟨hb2, g, hg, rfl, hrow⟩
      simp only [World.size_alloc] at hb2 hg
      have hz2 := hb2.size
      simp only [World.size_alloc] at hz2
      have hP2 := (HP.out.alloc (.cells #[.int .i64 1099511627776] 3)).below hb2 (by simp)
      have hgl := hrow.lt
      have o1 := hP2.outer.cell (i := c) hlt
      have o2 := hP2.outer.frozen c
      have o3 := hrow.cell (i := c) hlt
      have o4 := hrow.frozen c
      have hgD : g ≠ w.heap.size + 1 := by omega
      have hne : w.heap.size + 1 < g := by omega
      have hRl : ∀ i, i < c → R i ≠ g := fun i hi => by have := HP.out.lt i hi; omega
      have HO : Hid (OwnI w2 g N N (fun _ => noEnd)) := row_own hrow
      have HQ : Hid (LMat (w.heap.size + 1) ((w2.setCell ⟨w.heap.size + 1, c, none⟩ (.slice (some ⟨g, 0, none⟩) N N)).setCell ⟨g, c, none⟩ (.int .i64 0)) (w.heap.size + 1) (fun i => if i = c then g else R i) (fun i => if i = c then N else C i) N (c + 1) (fun a b => if a = c then (if b = c then 0 else noEnd) else (if a = c then noEnd else M a b))) :=
        LMat.setLast (hP2.lay (Nat.le_refl _) (by omega) hlt (g := g) (cap := N) (f := fun _ => noEnd) (HO.out.ints) hgl (by omega) hgD) (by simp) (fun i hi => by simp [show i ≠ c by omega]; exact hRl i hi) (HO.out.setOther (by simpa using hgD) _) c 0
      have HB2 : Hid (Below (w.heap.size + 1) (w.alloc (.cells #[.int .i64 (N : Int), .slice ao l.length cap] 24)) ((w2.setCell ⟨w.heap.size + 1, c, none⟩ (.slice (some ⟨g, 0, none⟩) N N)).setCell ⟨g, c, none⟩ (.int .i64 0))) :=
        (((HBB.out.alloc (by omega) _).trans (hb2.mono (by omega))).setCell (by simp) _).setCell (by simp; omega) _
      clear hP2 HP hrow hb2 HO HBB hRl
      go_wp2
      go_loopw [29] (fun i wq => ∃ r : Nat, r ≤ 24 ∧ i = .int .i64 r ∧ (∃ R C M, LMat (w.heap.size + 1) wq (w.heap.size + 1) R C N (c + 1) M ∧ (∀ i : Nat, i < c → LwK N l i 24 0 (M i)) ∧ LwK N l c r 0 (M c)) ∧ Below (w.heap.size + 1) (w.alloc (.cells #[.int .i64 (N : Int), .slice ao l.length cap] 24)) wq) (fun i _ => 24 - (intOf i).toNat)
      case atStart =>
        refine ⟨0, Nat.zero_le _, rfl, ⟨_, _, _, HQ.out, fun i hi => ?_, ?_⟩, HB2.out⟩
        · have := HLw.out i hi
          simpa [show i ≠ c by omega] using this
        · have := lw_start N l c
          simpa using this
      case round =>
        obtain ⟨r, hr, rfl, ⟨R, C, M, hP, hLw, hLc⟩, hB⟩ := hrel
        obtain ⟨W, hW⟩ : ∃ W, W = wr := ⟨_, rfl⟩
        subst hW
        clear HQ HB2 HLw o1 o2 o3 o4 hgl hz2 hne hgD hg r0 r1 f0 f1 hD hz hwz
        have hz := hB.size
        simp only [World.size_alloc] at hz
        have hD := hP.outer.lt
        have hwz : w.heap.size < W.heap.size := by omega
        have x1 := blk_below hB (blk_new w (.cells #[.int .i64 (N : Int), .slice ao l.length cap] 24)) (by omega)
        obtain ⟨r0, r1, f0, f1⟩ := blk2 x1
        have HP : Hid (LMat (w.heap.size + 1) W (w.heap.size + 1) R C N (c + 1) M) := hP
        have HLw : Hid (∀ i : Nat, i < c → LwK N l i 24 0 (M i)) := hLw
        have HLc : Hid (LwK N l c r 0 (M c)) := hLc
        have HBB : Hid (Below (w.heap.size + 1) (w.alloc (.cells #[.int .i64 (N : Int), .slice ao l.length cap] 24)) W) := hB
        by_cases hr24 : r < 24
        · have d0 := hP.at (i := c) (by omega)
          have hin := hP.inner c (by omega)
          have hll : ((List.range N).map (M c)).length = N := by simp
          have hcl := cloneI_own ⟨R c, 0, none⟩ (C c) ((List.range N).map (M c)) W hin (by rw [hll]; omega)
          rw [hll] at hcl
          clear hP hLw hLc hB x1 hin
          go_wp2_with fail
          refine hcl.mono ?_
          clear hcl
          rintro e w3 ⟨hb3, v, rfl, hown⟩
          obtain ⟨g, cg, rfl, hg, hO⟩ := own_ints h1 hll (by rw [hll]; exact hown)
          have hO' := hO.congr (h' := M c) fun j hj => ati_range N (M c) hj
          have HO0 : Hid (OwnI w3 g cg N (M c)) := hO'
          have HB3 : Hid (Below W.heap.size W w3) := hb3
          have hz3 := hb3.size
          have y1 := later hb3 r0 hwz
          have y2 := later hb3 r1 hwz
          clear hb3 hown hO hO' d0 r0 r1 f0 f1 hll
          go_wp2
          go_loopw [39] (fun i wq => ∃ k : Nat, k ≤ l.length ∧ i = .int .i64 k ∧ (∃ h, OwnI wq g cg N h ∧ LwK N l c r k h) ∧ Below W.heap.size W wq) (fun i _ => l.length - (intOf i).toNat)
          case atStart => exact ⟨0, Nat.zero_le _, rfl, ⟨M c, HO0.out, HLc.out⟩, HB3.out⟩
          case round =>
            obtain ⟨k, hk, rfl, ⟨h, hO, hLk⟩, hBq⟩ := hrel
            clear y1 y2 HO0 HB3 hz3
            have hzq := hBq.size
            have hPq := HP.out.below hBq (Nat.le_refl _)
            have d0 := hPq.at (i := c) (by omega)
            have hDq := hPq.outer.lt
            have hRq := hPq.lt c (by omega)
            by_cases hkl : k < l.length
            · obtain ⟨b, off, rfl, hb, c0, c1, c2⟩ := (HA0.out.below HBB.out (by simp)).below hBq (Nat.le_refl _) k hkl
              have hmem := HL.out _ (at3_mem l k hkl)
              obtain ⟨a, ha⟩ : ∃ a, at3 l k = a := ⟨_, rfl⟩
              rw [ha] at c0 c1 c2 hmem
              obtain ⟨f, t, x⟩ := a
              simp only at c0 c1 c2 hmem
              obtain ⟨⟨p1, p2⟩, ⟨p3, p4⟩, p5, p6⟩ := hmem
              obtain ⟨f, rfl⟩ := Int.eq_ofNat_of_zero_le p1
              obtain ⟨t, rfl⟩ := Int.eq_ofNat_of_zero_le p3
              have hf : f < N := by omega
              have ht : t < N := by omega
              have n1 := hPq.num (i := c) (by omega) hf
              have n2 := hO.cell ht
              have fz := hO.frozen t
              have hgl := hO.lt
              have bD := HLc.out.bound HLc'.out (Nat.zero_le _) (by omega) hf
              have bh := hLk.bound HLc'.out hk (by omega) ht
              have hno : noEnd = 1099511627776 := rfl
              rw [hno] at bD bh
              have HBq : Hid (Below W.heap.size W wr) := hBq
              have HO : Hid (OwnI wr g cg N h) := hO
              by_cases hD1 : M c f < noEnd
              · have HN : Hid (LwK N l c r (k + 1) (fun v => if v = t then min (h t) (M c f + x) else h v)) := lw_hit HLc'.out HLc.out hLk (by omega) hkl ha hf ht hD1
                rw [hno] at hD1
                obtain ⟨y, hy⟩ : ∃ y, y = M c f := ⟨_, rfl⟩
                obtain ⟨z, hz'⟩ : ∃ z, z = h t := ⟨_, rfl⟩
                rw [← hy] at n1 bD hD1
                rw [← hz'] at n2 bh
                have HOs : ∀ u, u = min (h t) (M c f + x) → Hid (OwnI (wr.setCell ⟨g, t, none⟩ (.int .i64 u)) g cg N (fun v => if v = t then min (h t) (M c f + x) else h v)) := fun u hu => by rw [Hid, ← hu]; exact hO.set t u
                have hd : decide (y < 1099511627776) = true := decide_eq_true hD1
                have hw1 : IntKind.i64.wrap (y + x) = y + x := by rw [IntKind.wrap_i64]; omega
                by_cases hmin : y + x < z
                · have HQ := HOs (y + x) (by rw [← hy, ← hz']; omega)
                  clear HOs hy hz' hPq hLk hBq hO ha hno
                  go_wp2
                  go_region
                  go_wp2
                  go_region
                  go_wp2
                  go_roundw
                  case rel => exact ⟨k + 1, by omega, by go_num, ⟨_, (HQ.out.alloc _).drewN 2, HN.out⟩, (((HBq.out.setCell hg _).alloc (by simp; omega) _).drew).drew⟩
                  case measure => simp [intOf]; omega
                · have HQ := HOs z (by rw [← hy, ← hz']; omega)
                  clear HOs hy hz' hPq hLk hBq hO ha hno
                  go_wp2
                  go_region
                  go_wp2
                  go_region
                  go_wp2
                  go_roundw
                  case rel => exact ⟨k + 1, by omega, by go_num, ⟨_, (HQ.out.alloc _).drewN 2, HN.out⟩, (((HBq.out.setCell hg _).alloc (by simp; omega) _).drew).drew⟩
                  case measure => simp [intOf]; omega
              · have HN : Hid (LwK N l c r (k + 1) h) := lw_miss HLc'.out HLc.out hLk (by omega) ha hf hD1
                rw [hno] at hD1
                obtain ⟨y, hy⟩ : ∃ y, y = M c f := ⟨_, rfl⟩
                rw [← hy] at n1 bD hD1
                have hd : decide (y < 1099511627776) = false := decide_eq_false hD1
                clear hy hPq hLk hBq hO ha hno n2 fz
                go_wp2
                go_region
                go_wp2
                go_roundw
                case rel => exact ⟨k + 1, by omega, by go_num, ⟨h, (HO.out.alloc _).drewN 1, HN.out⟩, (HBq.out.alloc (by omega) _).drew⟩
                case measure => simp [intOf]; omega
            · have hkk : k = l.length := by omega
              subst hkk
              have HN : Hid (LwK N l c (r + 1) 0 h) := lw_next hLk
              have o2 := hPq.outer.frozen c
              have hgl := hO.lt
              have HQ : Hid (LMat (w.heap.size + 1) (wr.setCell ⟨w.heap.size + 1, c, none⟩ (.slice (some ⟨g, 0, none⟩) N cg)) (w.heap.size + 1) (fun i => if i = c then g else R i) (fun i => if i = c then cg else C i) N (c + 1) (fun a b => if a = c then h b else M a b)) :=
                hPq.lay (by omega) (by omega) hlt (hO.ints) hgl (by omega) (by omega)
              have HB4 : Hid (Below (w.heap.size + 1) (w.alloc (.cells #[.int .i64 (N : Int), .slice ao l.length cap] 24)) (wr.setCell ⟨w.heap.size + 1, c, none⟩ (.slice (some ⟨g, 0, none⟩) N cg))) :=
                (HBB.out.trans (hBq.mono (by omega))).setCell (by simp) _
              clear hPq hLk hBq hO
              go_wp2
              go_roundw
              case rel =>
                refine ⟨r + 1, by omega, by go_num, ⟨_, _, _, HQ.out, fun i hi => ?_, ?_⟩, HB4.out⟩
                · have := HLw.out i hi
                  simpa [show i ≠ c by omega] using this
                · simpa using HN.out
              case measure => simp [intOf]; omega
        · have hr2 : r = 24 := by omega
          subst hr2
          clear hP hLw hLc hB x1
          go_wp2
          go_roundw
          case rel =>
            refine ⟨c + 1, by omega, by go_num, ⟨R, C, M, HP.out, fun i hi => ?_⟩, HBB.out⟩
            by_cases e : i = c
            · subst e; exact HLc.out
            · exact HLw.out i (by omega)
          case measure => simp [intOf]; omega
    · have hcN : N = c := by omega
      subst hcN
      have HP : Hid (LMat w.heap.size wr (w.heap.size + 1) R C N N M) := hP.weaken (by omega)
      have HLw : Hid (LongIs N l M) := hLw
      clear hP hLw
      go_wp2
      go_ret
      exact ⟨below_in hB (by omega), _, R, C, M, rfl, HP.out, HLw.out⟩

end Go.Proofs.Ytakemienlmlgkaa
