/- Package level: what is sent from a node on, by steps that lead just one farther. -/
import Derived.Test.YtlfhnhfhaifchaaLRound
import Derived.Test.YtlfhnhfhaifchaaAppJoin
import Derived.Deep.LoopGhost
import Derived.BigQuiet
import Derived.Lib.MinMax
namespace Go.Proofs.Ytlfhnhfhaifchaa
open Go.RowKit
set_option linter.unusedVariables false

/-- of what lay there only two blocks have turned -/
structure Only2 (R g : Nat) (w w' : World) : Prop where
  os : w'.os = w.os
  tape : w'.tape = w.tape
  output : w'.output = w.output
  size : w.heap.size ≤ w'.heap.size
  block : ∀ k, k < w.heap.size → k ≠ R → k ≠ g → w'.heap[k]? = w.heap[k]?
theorem Only2.refl (R g : Nat) (w : World) : Only2 R g w w := ⟨rfl, rfl, rfl, Nat.le_refl _, fun _ _ _ _ => rfl⟩
theorem Only2.trans {R g : Nat} {w w1 w2 : World} (h : Only2 R g w w1) (k : Only2 R g w1 w2) : Only2 R g w w2 :=
  ⟨k.os.trans h.os, k.tape.trans h.tape, k.output.trans h.output, Nat.le_trans h.size k.size, fun i hi h1 h2 => (k.block i (Nat.lt_of_lt_of_le hi h.size) h1 h2).trans (h.block i hi h1 h2)⟩
theorem Only2.of1 {R g : Nat} {w w1 : World} (h : Only R w w1) : Only2 R g w w1 := ⟨h.os, h.tape, h.output, h.size, fun i hi h1 _ => h.block i hi h1⟩
theorem Only2.of2 {R g : Nat} {w w1 : World} (h : Only g w w1) : Only2 R g w w1 := ⟨h.os, h.tape, h.output, h.size, fun i hi _ h2 => h.block i hi h2⟩
theorem Only2.alloc {R g : Nat} {w w1 : World} (h : Only2 R g w w1) (o : Obj) : Only2 R g w (w1.alloc o) := h.trans (Only2.of1 ((Only.refl R w1).alloc o))
theorem Only2.drewN {R g : Nat} {w w1 : World} (h : Only2 R g w w1) (n : Nat) : Only2 R g w (w1.drewN n) := h.trans (Only2.of1 (only_drewN (Only.refl R w1) n))
theorem Only2.drew {R g : Nat} {w w1 : World} (h : Only2 R g w w1) : Only2 R g w w1.drew := h.trans (Only2.of1 (Only.refl R w1).drew)
theorem Only2.set1 {R g o : Nat} {w w1 : World} (h : Only2 R g w w1) (v : Value) : Only2 R g w (w1.setCell ⟨R, o, none⟩ v) := h.trans (Only2.of1 ((Only.refl R w1).setCell v))
theorem Only2.set2 {R g o : Nat} {w w1 : World} (h : Only2 R g w w1) (v : Value) : Only2 R g w (w1.setCell ⟨g, o, none⟩ v) := h.trans (Only2.of2 ((Only.refl g w1).setCell v))
theorem Only2.blk {R g : Nat} {w w' : World} (h : Only2 R g w w') {k : Nat} {o : Obj} (hk : w.heap[k]? = some o) (h1 : k ≠ R) (h2 : k ≠ g) : w'.heap[k]? = some o :=
  (h.block k (Array.getElem?_eq_some_iff.1 hk).1 h1 h2).trans hk
theorem Only2.arcs {R g : Nat} {w w' : World} (h : Only2 R g w w') {ao : Option Addr} {l : List Arc3} (hA : ArcsAt w ao l) (hne : ∀ c off, ao = some ⟨c, off, none⟩ → 0 < l.length → c ≠ R ∧ c ≠ g) : ArcsAt w' ao l := by
  intro i hi
  obtain ⟨c, off, rfl, hlt, c0, c1, c2⟩ := hA i hi
  have hn := hne c off rfl (by omega)
  have hb : ∀ o, w'.cell? ⟨c, o, none⟩ = w.cell? ⟨c, o, none⟩ := fun o => World.cell?_of_block (w := w) (a := ⟨c, o, none⟩) (h.block c hlt hn.1 hn.2)
  exact ⟨c, off, rfl, Nat.lt_of_lt_of_le hlt h.size, (hb _).trans c0, (hb _).trans c1, (hb _).trans c2⟩
theorem Only2.below {R g B : Nat} {w w' : World} (h : Only2 R g w w') (h1 : B ≤ R) (h2 : B ≤ g) (hB : B ≤ w.heap.size) : Below B w w' :=
  ⟨h.os, h.tape, h.output, h.size, fun k hk => h.block k (by omega) (by omega) (by omega)⟩

theorem own_setOther {w : World} {g cap N : Nat} {h : Nat → Int} (H : OwnI w g cap N h) {p : Addr} (hp : g ≠ p.block) (v : Value) : OwnI (w.setCell p v) g cap N h := by
  obtain ⟨f, h1, h2, h3⟩ := H
  exact ⟨f, h1.setOther hp v, h2, h3⟩
theorem own_sent {w : World} {g cap : Nat} {l : List Arc3} {F : List Int} {k : Nat} {y : Int} (H : OwnI w g cap l.length (ati F)) (hk : k < F.length) (b : Bool) (x : Int) (hy : ati F k + (if b then -x else x) = y) :
    OwnI (w.setCell ⟨g, k, none⟩ (.int .i64 y)) g cap l.length (ati (sentF F k b x)) :=
  (H.set k y).congr fun i _ => by rw [sent_at hk, hy]
theorem RoundAt.setOther {w : World} {R : Nat} {n s t : Int} {ao : Option Addr} {len cap gf fl cf : Nat} {E : Nat → Int} (h : RoundAt w R n s t ao len cap gf fl cf E) {p : Addr} (hp : R ≠ p.block) (v : Value) : RoundAt (w.setCell p v) R n s t ao len cap gf fl cf E := World.rowIs.setOther h hp v

set_option maxHeartbeats 8000000 in
set_option maxRecDepth 100000 in
theorem lsend_any (R N s t gf cf cap : Nat) (ao : Option Addr) (l : List Arc3) (D : Nat → Int) (hE : netErr N s t l = 0) (hD : ∀ v, v < 12 → -1 ≤ D v ∧ D v < (N : Int)) (hAR : ∀ c off, ao = some ⟨c, off, none⟩ → 0 < l.length → c ≠ R ∧ c ≠ gf) (hgR : gf ≠ R) (hcf : l.length ≤ cf) :
    ∀ (j a : Nat) (most : Int) (F : List Int) (E : Nat → Int) (w : World), a < N → E a = D a → 0 ≤ D a → 12 ≤ D a + (j : Int) → 0 ≤ most ∧ most ≤ 600000 → LiveD N t l D F E → ArcsAt w ao l → OwnI w gf cf l.length (ati F) → RoundAt w R N s t ao l.length cap gf l.length cf E →
    Calls Try.prog 18 #[.pointer (some ⟨R, 0, none⟩), .int .i64 (a : Int), .int .i64 most] w fun e w' => Only2 R gf w w' ∧
      ∃ x F' E', e = .returned (.int .i64 x) ∧ OwnI w' gf cf l.length (ati F') ∧ RoundAt w' R N s t ao l.length cap gf l.length cf E' ∧ Sent N t l D a F E x F' E' ∧ (0 ≤ x ∧ x ≤ most) ∧ (x < most → E' a ≠ D a) := by
  obtain ⟨hge, hs, ht, hst⟩ := net_ok hE
  obtain ⟨⟨hn1, hn2⟩, hl60, hall⟩ := err_ok hge
  have hN : N ≤ 12 := by omega
  have HE : Hid (netErr N s t l = 0) := hE
  have HD : Hid (∀ v, v < 12 → -1 ≤ D v ∧ D v < (N : Int)) := hD
  have HAR : Hid (∀ c off, ao = some ⟨c, off, none⟩ → 0 < l.length → c ≠ R ∧ c ≠ gf) := hAR
  clear hge hs ht hst hall hE hD hAR
  intro j
  induction j with
  | zero =>
    intro a most F E w ha hEa h0 hj
    have := (HD.out a (by omega)).2
    omega
  | succ j ih =>
    intro a most F E w ha hEa h0 hj hm hLv hA hO hR
    have HIH : Hid (∀ (a : Nat) (most : Int) (F : List Int) (E : Nat → Int) (w : World), a < N → E a = D a → 0 ≤ D a → 12 ≤ D a + (j : Int) → 0 ≤ most ∧ most ≤ 600000 → LiveD N t l D F E → ArcsAt w ao l → OwnI w gf cf l.length (ati F) → RoundAt w R N s t ao l.length cap gf l.length cf E →
      Calls Try.prog 18 #[.pointer (some ⟨R, 0, none⟩), .int .i64 (a : Int), .int .i64 most] w fun e w' => Only2 R gf w w' ∧
      ∃ x F' E', e = .returned (.int .i64 x) ∧ OwnI w' gf cf l.length (ati F') ∧ RoundAt w' R N s t ao l.length cap gf l.length cf E' ∧ Sent N t l D a F E x F' E' ∧ (0 ≤ x ∧ x ≤ most) ∧ (x < most → E' a ≠ D a)) := ih
    have h12 : a < 12 := by omega
    have hai : (a : Int) < 12 := by omega
    have hDa := HD.out a h12
    have hRl := hR.lt
    have c0 := hR.far h12
    rw [hEa] at c0
    obtain ⟨r0, r1, r2, r3, r4⟩ := hR.cells
    obtain ⟨nx, hnx⟩ : ∃ nx, D a + 1 = nx := ⟨_, rfl⟩
    have v0 : IntKind.i64.wrap (D a + 1) = nx := by rw [IntKind.wrap_i64]; omega
    have HNX : Hid (D a + 1 = nx) := hnx
    have HA : Hid (ArcsAt w ao l) := hA
    have HO : Hid (OwnI w gf cf l.length (ati F)) := hO
    have HR : Hid (RoundAt w R N s t ao l.length cap gf l.length cf E) := hR
    have HLv : Hid (LiveD N t l D F E) := hLv
    have H0 : Hid (0 ≤ D a) := h0
    have HJ : Hid (12 ≤ D a + ((j + 1 : Nat) : Int)) := hj
    have HDa : Hid (D a < 12) := by have := hDa.2; show D a < 12; omega
    obtain ⟨da, hda⟩ : ∃ da, D a = da := ⟨_, rfl⟩
    have HDA : Hid (D a = da) := hda
    rw [hda] at c0 v0
    clear ih hA hO hR hLv h0 hj hDa hEa hnx hda
    by_cases hat : a = t
    · have e1 : ((a : Int) == (t : Int)) = true := by rw [hat]; simp
      have HS : Hid (Sent N t l D a F E most F E) := Sent.refl HLv.out (Or.inl hat)
      clear hat
      go_enter Try.func18, Try.ntmps18
      go_wp2
      go_ret
      exact ⟨Only2.refl R gf w, most, F, E, rfl, HO.out, HR.out, HS.out, ⟨hm.1, Int.le_refl _⟩, fun c => absurd c (Int.lt_irrefl _)⟩
    · have e1 : ((a : Int) == (t : Int)) = false := by simp; omega
      by_cases hm0 : most = 0
      · have e2 : (most == 0) = true := by simpa using hm0
        have HS : Hid (Sent N t l D a F E most F E) := Sent.refl HLv.out (Or.inr hm0)
        clear hat hm0
        go_enter Try.func18, Try.ntmps18
        go_wp2
        go_ret
        exact ⟨Only2.refl R gf w, most, F, E, rfl, HO.out, HR.out, HS.out, ⟨hm.1, Int.le_refl _⟩, fun c => absurd c (Int.lt_irrefl _)⟩
      · have e2 : (most == 0) = false := by simpa using hm0
        have HAT : Hid (a ≠ t) := hat
        have HS0 : Hid (SendK N t l D a F E 0 most 0 F E) := SendK.start HLv.out hm.1
        clear hat hm0
        go_enter Try.func18, Try.ntmps18
        go_wp2
        go_quiet (fail)
        go_wp2
        clear r0 r1 r2 r3 r4 c0 e1 e2
        go_loopg [7, 38] l.length (fun g sn i wr => ∃ (k : Nat) (x : Int) (F1 : List Int) (E1 : Nat → Int), k + g = l.length ∧ sn = .int .i64 x ∧ i = .int .i64 k ∧ Hid (SendK N t l D a F E (2 * k) most x F1 E1) ∧ Hid (OwnI wr gf cf l.length (ati F1)) ∧ Hid (RoundAt wr R N s t ao l.length cap gf l.length cf E1) ∧ Hid (Only2 R gf w wr))
        case atStart => exact ⟨0, 0, F, E, by omega, rfl, rfl, HS0, HO.out.drewN _, HR.out.drewN _, (Only2.refl R gf w).drewN _⟩
        case round =>
          obtain ⟨k, x1, F1, E1, hg, rfl, rfl, HS, HO1, HR1, HW⟩ := hrel
          clear HO HR HS0
          by_cases hlt : k < l.length
          · obtain ⟨bA, offA, e, hbA, a0, a1, a2⟩ := HW.out.arcs HA.out HAR.out k hlt
            have HAO : Hid (ao = some ⟨bA, offA, none⟩) := e
            obtain ⟨p1, p2, p3, p4, p5, p6⟩ := arc_at HE.out hlt
            obtain ⟨p, hp⟩ : ∃ p, frmN l k false = p := ⟨_, rfl⟩
            obtain ⟨q, hq⟩ : ∃ q, towN l k false = q := ⟨_, rfl⟩
            obtain ⟨c, hc⟩ : ∃ c, (at3 l k).2.2 = c := ⟨_, rfl⟩
            rw [p1, hp] at a0
            rw [p2, hq] at a1
            rw [hc] at a2 p5 p6
            rw [hp] at p3
            rw [hq] at p4
            have HP : Hid (frmN l k false = p ∧ towN l k true = p) := ⟨hp, hp⟩
            have HQ : Hid (towN l k false = q ∧ frmN l k true = q) := ⟨hq, hq⟩
            have HC : Hid ((at3 l k).2.2 = c) := hc
            have hwR : wr.heap.size ≠ R ∧ wr.heap.size ≠ gf := by have := HR1.out.lt; have := HO1.out.lt; omega
            have hp12 : p < 12 := by omega
            have hq12 : q < 12 := by omega
            have hpi : (p : Int) < 12 := by omega
            have hqi : (q : Int) < 12 := by omega
            clear p1 p2 hp hq hc
            subst e
            go_upto_region 7 with fail
            clear a0 a1 a2 hbA
            have hA9 := blk_new wr (.cells #[.int .i64 (p : Int), .int .i64 (q : Int), .int .i64 c] 39)
            have HO9 : Hid (OwnI (wr.alloc (.cells #[.int .i64 (p : Int), .int .i64 (q : Int), .int .i64 c] 39)) gf cf l.length (ati F1)) := HO1.out.alloc _
            have HR9 : Hid (RoundAt (wr.alloc (.cells #[.int .i64 (p : Int), .int .i64 (q : Int), .int .i64 c] 39)) R N s t (some ⟨bA, offA, none⟩) l.length cap gf l.length cf E1) := HR1.out.alloc _
            have HW1 : Hid (Only2 R gf w (wr.alloc (.cells #[.int .i64 (p : Int), .int .i64 (q : Int), .int .i64 c] 39))) := HW.out.alloc _
            clear HO1 HR1 HW
            generalize wr.alloc (.cells #[.int .i64 (p : Int), .int .i64 (q : Int), .int .i64 c] 39) = W1 at *
            obtain ⟨A, hAe⟩ : ∃ A, wr.heap.size = A := ⟨_, rfl⟩
            rw [hAe] at hA9 hwR
            simp only [hAe]
            clear hAe
            have HO1 := HO9
            have HR1 := HR9
            have HB1 : Hid (W1.heap[A]? = some (.cells #[.int .i64 (p : Int), .int .i64 (q : Int), .int .i64 c] 39 (0, 0))) := hA9
            obtain ⟨b0, b1, b2⟩ := blk3 hA9
            clear hA9 HO9 HR9
            have HS1 := HS
            clear HS
            obtain ⟨eq1, heq1⟩ : ∃ z, E1 q = z := ⟨_, rfl⟩
            have HEQ1 : Hid (E1 q = eq1) := heq1
            have fq1 := HR1.out.far (v := q) hq12
            rw [heq1] at fq1
            have HS1a : Hid (SendK N t l D a F E (2 * k + if false then 1 else 0) most x1 F1 E1) := HS1
            clear heq1 HS1
            go_cut [57] (fun cc wx => ∃ b, cc = .bool b ∧ Hid (b = decide (p = a ∧ eq1 = nx)) ∧ ∃ nq, wx = W1.drewN nq)
            case first =>
              by_cases g1 : p = a
              · have e1 : ((p : Int) == (a : Int)) = true := by rw [g1]; simp
                by_cases g2 : eq1 = nx
                · have e2 : (eq1 == nx) = true := by simpa using g2
                  have HG : Hid (true = decide (p = a ∧ eq1 = nx)) := (decide_eq_true ⟨g1, g2⟩).symm
                  clear g1 g2
                  go_quiet (fail)
                  go_wp2
                  go_meet
                  case rel => exact ⟨_, rfl, HG, _, rfl⟩
                · have e2 : (eq1 == nx) = false := by simpa using g2
                  have HG : Hid (false = decide (p = a ∧ eq1 = nx)) := (decide_eq_false (fun c => g2 c.2)).symm
                  clear g1 g2
                  go_quiet (fail)
                  go_wp2
                  go_meet
                  case rel => exact ⟨_, rfl, HG, _, rfl⟩
              · have e1 : ((p : Int) == (a : Int)) = false := by simp; omega
                have HG : Hid (false = decide (p = a ∧ eq1 = nx)) := (decide_eq_false (fun c => g1 c.1)).symm
                clear g1
                go_quiet (fail)
                go_wp2
                go_meet
                case rel => exact ⟨_, rfl, HG, _, rfl⟩
            case rest =>
              obtain ⟨bb, rfl, HBB, nq1, rfl⟩ := hcut
              clear fq1 b0 b1 b2
              have HX1 : Hid (Only2 R gf w (W1.drewN nq1)) := HW1.out.drewN _
              have HO1b : Hid (OwnI (W1.drewN nq1) gf cf l.length (ati F1)) := HO1.out.drewN _
              have HR1b : Hid (RoundAt (W1.drewN nq1) R N s t (some ⟨bA, offA, none⟩) l.length cap gf l.length cf E1) := HR1.out.drewN _
              have HB1b : Hid ((W1.drewN nq1).heap[A]? = some (.cells #[.int .i64 (p : Int), .int .i64 (q : Int), .int .i64 c] 39 (0, 0))) := HB1.out
              clear HW1 HO1 HR1 HB1
              generalize W1.drewN nq1 = V1 at *
              go_upto_if 57 with fail
              go_cut [7, 38] (fun sn i wx => i = .int .i64 k ∧ ∃ (x' : Int) (F' : List Int) (E' : Nat → Int), sn = .int .i64 x' ∧ Hid (SendK N t l D a F E (2 * k + (if false then 1 else 0) + 1) most x' F' E') ∧ Hid (OwnI wx gf cf l.length (ati F')) ∧ Hid (RoundAt wx R N s t (some ⟨bA, offA, none⟩) l.length cap gf l.length cf E') ∧ Hid (Only2 R gf w wx) ∧ Hid (wx.heap[A]? = some (.cells #[.int .i64 (p : Int), .int .i64 (q : Int), .int .i64 c] 39 (0, 0))))
              case first =>
                cases bb with
                | true =>
                  obtain ⟨g1, g2⟩ := of_decide_eq_true HBB.out.symm
                  have hF1 := HS1a.out.sent.live
                  have hkF : k < F1.length := by rw [hF1.len]; exact hlt
                  have hyb := hF1.bnd k hlt
                  obtain ⟨y, hy⟩ : ∃ y, ati F1 k = y := ⟨_, rfl⟩
                  have hamt := HS1a.out.amt
                  have d0 := HO1b.out.cell hlt
                  have df := HO1b.out.frozen k
                  rw [hy] at d0 hyb
                  rw [HC.out] at hyb
                  have hroom : room l F1 k false = c - y := by unfold room; simp [hy, HC.out]
                  obtain ⟨m, hmm⟩ : ∃ m, min (most - x1) (c - y) = m := ⟨_, rfl⟩
                  have w1 : IntKind.i64.wrap (most - x1) = most - x1 := by rw [IntKind.wrap_i64]; omega
                  have w2 : IntKind.i64.wrap (c - y) = c - y := by rw [IntKind.wrap_i64]; omega
                  have hm0 : 0 ≤ m ∧ m ≤ most - x1 ∧ m ≤ c - y := by omega
                  have hEq : E1 q = D a + 1 := by rw [HEQ1.out, g2, HNX.out]
                  have hDq : D q = D a + 1 := by
                    have h0 := H0.out
                    rcases hF1.low q hq12 with e | e <;> omega
                  have hcall := HIH.out q m F1 E1 V1.drew p4 (by rw [hEq, hDq]) (by have := H0.out; omega) (by have h0 := HJ.out; omega) ⟨hm0.1, by omega⟩ hF1 (HX1.out.drew.arcs HA.out HAR.out) (HO1b.out.drewN 1) HR1b.out.drew
                  have HCall : Hid (Calls Try.prog 18 #[.pointer (some ⟨R, 0, none⟩), .int .i64 (q : Int), .int .i64 m] V1.drew fun e w' => Only2 R gf V1.drew w' ∧
                    ∃ x F' E', e = .returned (.int .i64 x) ∧ OwnI w' gf cf l.length (ati F') ∧ RoundAt w' R N s t (some ⟨bA, offA, none⟩) l.length cap gf l.length cf E' ∧ Sent N t l D q F1 E1 x F' E' ∧ (0 ≤ x ∧ x ≤ m) ∧ (x < m → E' q ≠ D q)) := hcall
                  have HArm : Hid (∀ xr Fr Er, Sent N t l D q F1 E1 xr Fr Er → (0 ≤ xr ∧ xr ≤ m) → (xr < m → Er q ≠ D q) → SendK N t l D a F E (2 * k + (if false then 1 else 0) + 1) most (x1 + xr) (sentF Fr k false xr) Er ∧ ati Fr k = y ∧ k < Fr.length) := fun xr Fr Er h1 h2 h3 => by
                    have hto : towN l k false = q := HQ.out.1
                    obtain ⟨r1, r2⟩ := HS1a.out.arm (x := xr) (F2 := Fr) (E2 := Er) HE.out hN H0.out hlt (by rw [HP.out.1, g1]) (by rw [hto, hEq]) (by rw [hto]; exact h1) (by rw [hroom, hmm]; exact h2) (by rw [hroom, hmm, hto]; exact h3)
                    exact ⟨r1, by rw [r2, hy], by rw [h1.live.len]; exact hlt⟩
                  obtain ⟨b0, b1, b2⟩ := blk3 HB1b.out
                  obtain ⟨r0, r1, r2, r3, r4⟩ := HR1b.out.cells
                  have HSx : Hid (∀ z : World, Only2 R gf V1.drew z → z.cell? ⟨R, 4, none⟩ = some (.slice (some ⟨gf, 0, none⟩) l.length cf) → z.cell? ⟨gf, k, none⟩ = some (.int .i64 y) → z.cell? ⟨A, 0, none⟩ = some (.int .i64 (p : Int)) ∧ z.cell? ⟨A, 1, none⟩ = some (.int .i64 (q : Int)) ∧ z.cell? ⟨A, 2, none⟩ = some (.int .i64 c) ∧ z.cell? ⟨R, 4, none⟩ = some (.slice (some ⟨gf, 0, none⟩) l.length cf) ∧ z.cell? ⟨gf, k, none⟩ = some (.int .i64 y)) := fun z hz z1 z2 => by
                    have hz3 := hz.blk (k := A) HB1b.out hwR.1 hwR.2
                    obtain ⟨q0, q1, q2⟩ := blk3 hz3
                    exact ⟨q0, q1, q2, z1, z2⟩
                  have HS0x : Hid (V1.drew.cell? ⟨A, 0, none⟩ = some (.int .i64 (p : Int)) ∧ V1.drew.cell? ⟨A, 1, none⟩ = some (.int .i64 (q : Int)) ∧ V1.drew.cell? ⟨A, 2, none⟩ = some (.int .i64 c) ∧ V1.drew.cell? ⟨R, 4, none⟩ = some (.slice (some ⟨gf, 0, none⟩) l.length cf) ∧ V1.drew.cell? ⟨gf, k, none⟩ = some (.int .i64 y)) := ⟨b0, b1, b2, r4, d0⟩
                  have hklt : (k : Int) < (l.length : Int) := by omega
                  clear hcall hF1 hEq hDq hroom b0 b1 b2 r0 r1 r2 r3 r4 d0 df g1 g2 hy hkF
                  go_wp2
                  subst hmm
                  go_region_held3 (fun z => z.cell? ⟨A, 0, none⟩ = some (.int .i64 (p : Int)) ∧ z.cell? ⟨A, 1, none⟩ = some (.int .i64 (q : Int)) ∧ z.cell? ⟨A, 2, none⟩ = some (.int .i64 c) ∧ z.cell? ⟨R, 4, none⟩ = some (.slice (some ⟨gf, 0, none⟩) l.length cf) ∧ z.cell? ⟨gf, k, none⟩ = some (.int .i64 y))
                    (first
                      | with_reducible assumption
                      | with_reducible exact HS0x.out)
                    (first
                      | (go_at_call 18; refine HCall.out.mono ?_; rintro e w3 ⟨ho3, xr, Fr, Er, rfl, hO3, hR3, hS3, hx3, hd3⟩; obtain ⟨hA1, hA2, hA3⟩ := HArm.out xr Fr Er hS3 hx3 hd3; have hc3 := hO3.cell hlt; rw [hA2] at hc3; have hs3 := HSx.out w3 ho3 hR3.cells.2.2.2.2 hc3))
                  all_goals
                    have HO3 : Hid (OwnI w3 gf cf l.length (ati Fr)) := hO3
                    have HR3 : Hid (RoundAt w3 R N s t (some ⟨bA, offA, none⟩) l.length cap gf l.length cf Er) := hR3
                    have HA1 : Hid (SendK N t l D a F E (2 * k + (if false then 1 else 0) + 1) most (x1 + xr) (sentF Fr k false xr) Er) := hA1
                    have HA2 : Hid (ati Fr k = y ∧ k < Fr.length) := ⟨hA2, hA3⟩
                    have HX3 : Hid (Only2 R gf w w3) := HX1.out.drew.trans ho3
                    have HB3 : Hid (w3.heap[A]? = some (.cells #[.int .i64 (p : Int), .int .i64 (q : Int), .int .i64 c] 39 (0, 0))) := ho3.blk HB1b.out hwR.1 hwR.2
                    have r4 := hs3.2.2.2.1
                    have d0 := hs3.2.2.2.2
                    have df := hO3.frozen k
                    have w3' : IntKind.i64.wrap (y + xr) = y + xr := by rw [IntKind.wrap_i64]; omega
                    have w4 : IntKind.i64.wrap (x1 + xr) = x1 + xr := by rw [IntKind.wrap_i64]; omega
                    clear hO3 hR3 hS3 hd3 hA1 hA2 hA3 hc3 hs3 ho3 HCall HArm HSx HS0x
                    go_wp2
                    go_meet
                    case rel =>
                      exact ⟨rfl, x1 + xr, sentF Fr k false xr, Er, rfl, HA1, own_sent HO3.out HA2.out.2 false xr (by rw [HA2.out.1]; simp), HR3.out.setOther (fun e => hgR e.symm) _, HX3.out.set2 _, (Below.heap_setCell _ _ _ _ hwR.2).trans HB3.out⟩
                | false =>
                  have hb : ¬ (p = a ∧ eq1 = nx) := of_decide_eq_false HBB.out.symm
                  have HSk : Hid (SendK N t l D a F E (2 * k + (if false then 1 else 0) + 1) most x1 F1 E1) := HS1a.out.skip (fun h => hb ⟨by rw [← h.1]; exact HP.out.1.symm, by
                    have h2 := h.2
                    have hto : towN l k false = q := HQ.out.1
                    rw [hto, HEQ1.out, HNX.out] at h2
                    exact h2⟩)
                  clear hb
                  go_wp2
                  go_meet
                  case rel => exact ⟨rfl, x1, F1, E1, rfl, HSk, HO1b, HR1b, HX1, HB1b⟩
              case rest =>
                clear HX1 HO1b HR1b HB1b HS1a HEQ1
                obtain ⟨rfl, x2, F2, E2, rfl, HS2, HO2, HR2, HW2, HB2⟩ := hcut
                generalize wc = W2 at *
                obtain ⟨b0, b1, b2⟩ := blk3 HB2.out
                go_upto_region 11 with fail
                obtain ⟨eq2, heq2⟩ : ∃ z, E2 p = z := ⟨_, rfl⟩
                have HEQ2 : Hid (E2 p = eq2) := heq2
                have fq2 := HR2.out.far (v := p) hp12
                rw [heq2] at fq2
                have HS2a : Hid (SendK N t l D a F E (2 * k + if true then 1 else 0) most x2 F2 E2) := HS2
                clear heq2 HS2
                go_cut [103] (fun cc wx => ∃ b, cc = .bool b ∧ Hid (b = decide (q = a ∧ eq2 = nx)) ∧ ∃ nq, wx = W2.drewN nq)
                case first =>
                  by_cases g1 : q = a
                  · have e1 : ((q : Int) == (a : Int)) = true := by rw [g1]; simp
                    by_cases g2 : eq2 = nx
                    · have e2 : (eq2 == nx) = true := by simpa using g2
                      have HG : Hid (true = decide (q = a ∧ eq2 = nx)) := (decide_eq_true ⟨g1, g2⟩).symm
                      clear g1 g2
                      go_quiet (fail)
                      go_wp2
                      go_meet
                      case rel => exact ⟨_, rfl, HG, _, rfl⟩
                    · have e2 : (eq2 == nx) = false := by simpa using g2
                      have HG : Hid (false = decide (q = a ∧ eq2 = nx)) := (decide_eq_false (fun c => g2 c.2)).symm
                      clear g1 g2
                      go_quiet (fail)
                      go_wp2
                      go_meet
                      case rel => exact ⟨_, rfl, HG, _, rfl⟩
                  · have e1 : ((q : Int) == (a : Int)) = false := by simp; omega
                    have HG : Hid (false = decide (q = a ∧ eq2 = nx)) := (decide_eq_false (fun c => g1 c.1)).symm
                    clear g1
                    go_quiet (fail)
                    go_wp2
                    go_meet
                    case rel => exact ⟨_, rfl, HG, _, rfl⟩
                case rest =>
                  obtain ⟨bb, rfl, HBB, nq2, rfl⟩ := hcut
                  clear fq2 b0 b1 b2
                  have HX2 : Hid (Only2 R gf w (W2.drewN nq2)) := HW2.out.drewN _
                  have HO2b : Hid (OwnI (W2.drewN nq2) gf cf l.length (ati F2)) := HO2.out.drewN _
                  have HR2b : Hid (RoundAt (W2.drewN nq2) R N s t (some ⟨bA, offA, none⟩) l.length cap gf l.length cf E2) := HR2.out.drewN _
                  have HB2b : Hid ((W2.drewN nq2).heap[A]? = some (.cells #[.int .i64 (p : Int), .int .i64 (q : Int), .int .i64 c] 39 (0, 0))) := HB2.out
                  clear HW2 HO2 HR2 HB2
                  generalize W2.drewN nq2 = V2 at *
                  go_upto_if 103 with fail
                  cases bb with
                  | true =>
                    obtain ⟨g1, g2⟩ := of_decide_eq_true HBB.out.symm
                    have hF2 := HS2a.out.sent.live
                    have hkF : k < F2.length := by rw [hF2.len]; exact hlt
                    have hyb := hF2.bnd k hlt
                    obtain ⟨y, hy⟩ : ∃ y, ati F2 k = y := ⟨_, rfl⟩
                    have hamt := HS2a.out.amt
                    have d0 := HO2b.out.cell hlt
                    have df := HO2b.out.frozen k
                    rw [hy] at d0 hyb
                    rw [HC.out] at hyb
                    have hroom : room l F2 k true = y := by unfold room; simp [hy]
                    obtain ⟨m, hmm⟩ : ∃ m, min (most - x2) (y) = m := ⟨_, rfl⟩
                    have w1 : IntKind.i64.wrap (most - x2) = most - x2 := by rw [IntKind.wrap_i64]; omega
                    have w2 : IntKind.i64.wrap (c - y) = c - y := by rw [IntKind.wrap_i64]; omega
                    have hm0 : 0 ≤ m ∧ m ≤ most - x2 ∧ m ≤ y := by omega
                    have hEq : E2 p = D a + 1 := by rw [HEQ2.out, g2, HNX.out]
                    have hDq : D p = D a + 1 := by
                      have h0 := H0.out
                      rcases hF2.low p hp12 with e | e <;> omega
                    have hcall := HIH.out p m F2 E2 V2.drew p3 (by rw [hEq, hDq]) (by have := H0.out; omega) (by have h0 := HJ.out; omega) ⟨hm0.1, by omega⟩ hF2 (HX2.out.drew.arcs HA.out HAR.out) (HO2b.out.drewN 1) HR2b.out.drew
                    have HCall : Hid (Calls Try.prog 18 #[.pointer (some ⟨R, 0, none⟩), .int .i64 (p : Int), .int .i64 m] V2.drew fun e w' => Only2 R gf V2.drew w' ∧
                      ∃ x F' E', e = .returned (.int .i64 x) ∧ OwnI w' gf cf l.length (ati F') ∧ RoundAt w' R N s t (some ⟨bA, offA, none⟩) l.length cap gf l.length cf E' ∧ Sent N t l D p F2 E2 x F' E' ∧ (0 ≤ x ∧ x ≤ m) ∧ (x < m → E' p ≠ D p)) := hcall
                    have HArm : Hid (∀ xr Fr Er, Sent N t l D p F2 E2 xr Fr Er → (0 ≤ xr ∧ xr ≤ m) → (xr < m → Er p ≠ D p) → SendK N t l D a F E (2 * k + (if true then 1 else 0) + 1) most (x2 + xr) (sentF Fr k true xr) Er ∧ ati Fr k = y ∧ k < Fr.length) := fun xr Fr Er h1 h2 h3 => by
                      have hto : towN l k true = p := HP.out.2
                      obtain ⟨r1, r2⟩ := HS2a.out.arm (x := xr) (F2 := Fr) (E2 := Er) HE.out hN H0.out hlt (by rw [HQ.out.2, g1]) (by rw [hto, hEq]) (by rw [hto]; exact h1) (by rw [hroom, hmm]; exact h2) (by rw [hroom, hmm, hto]; exact h3)
                      exact ⟨r1, by rw [r2, hy], by rw [h1.live.len]; exact hlt⟩
                    obtain ⟨b0, b1, b2⟩ := blk3 HB2b.out
                    obtain ⟨r0, r1, r2, r3, r4⟩ := HR2b.out.cells
                    have HSx : Hid (∀ z : World, Only2 R gf V2.drew z → z.cell? ⟨R, 4, none⟩ = some (.slice (some ⟨gf, 0, none⟩) l.length cf) → z.cell? ⟨gf, k, none⟩ = some (.int .i64 y) → z.cell? ⟨A, 0, none⟩ = some (.int .i64 (p : Int)) ∧ z.cell? ⟨A, 1, none⟩ = some (.int .i64 (q : Int)) ∧ z.cell? ⟨A, 2, none⟩ = some (.int .i64 c) ∧ z.cell? ⟨R, 4, none⟩ = some (.slice (some ⟨gf, 0, none⟩) l.length cf) ∧ z.cell? ⟨gf, k, none⟩ = some (.int .i64 y)) := fun z hz z1 z2 => by
                      have hz3 := hz.blk (k := A) HB2b.out hwR.1 hwR.2
                      obtain ⟨q0, q1, q2⟩ := blk3 hz3
                      exact ⟨q0, q1, q2, z1, z2⟩
                    have HS0x : Hid (V2.drew.cell? ⟨A, 0, none⟩ = some (.int .i64 (p : Int)) ∧ V2.drew.cell? ⟨A, 1, none⟩ = some (.int .i64 (q : Int)) ∧ V2.drew.cell? ⟨A, 2, none⟩ = some (.int .i64 c) ∧ V2.drew.cell? ⟨R, 4, none⟩ = some (.slice (some ⟨gf, 0, none⟩) l.length cf) ∧ V2.drew.cell? ⟨gf, k, none⟩ = some (.int .i64 y)) := ⟨b0, b1, b2, r4, d0⟩
                    have hklt : (k : Int) < (l.length : Int) := by omega
                    clear hcall hF2 hEq hDq hroom b0 b1 b2 r0 r1 r2 r3 r4 d0 df g1 g2 hy hkF
                    go_wp2
                    subst hmm
                    go_region_held3 (fun z => z.cell? ⟨A, 0, none⟩ = some (.int .i64 (p : Int)) ∧ z.cell? ⟨A, 1, none⟩ = some (.int .i64 (q : Int)) ∧ z.cell? ⟨A, 2, none⟩ = some (.int .i64 c) ∧ z.cell? ⟨R, 4, none⟩ = some (.slice (some ⟨gf, 0, none⟩) l.length cf) ∧ z.cell? ⟨gf, k, none⟩ = some (.int .i64 y))
                      (first
                        | with_reducible assumption
                        | with_reducible exact HS0x.out)
                      (first
                        | (go_at_call 18; refine HCall.out.mono ?_; rintro e w3 ⟨ho3, xr, Fr, Er, rfl, hO3, hR3, hS3, hx3, hd3⟩; obtain ⟨hA1, hA2, hA3⟩ := HArm.out xr Fr Er hS3 hx3 hd3; have hc3 := hO3.cell hlt; rw [hA2] at hc3; have hs3 := HSx.out w3 ho3 hR3.cells.2.2.2.2 hc3))
                    all_goals
                      have HO3 : Hid (OwnI w3 gf cf l.length (ati Fr)) := hO3
                      have HR3 : Hid (RoundAt w3 R N s t (some ⟨bA, offA, none⟩) l.length cap gf l.length cf Er) := hR3
                      have HA1 : Hid (SendK N t l D a F E (2 * k + (if true then 1 else 0) + 1) most (x2 + xr) (sentF Fr k true xr) Er) := hA1
                      have HA2 : Hid (ati Fr k = y ∧ k < Fr.length) := ⟨hA2, hA3⟩
                      have HX3 : Hid (Only2 R gf w w3) := HX2.out.drew.trans ho3
                      have HB3 : Hid (w3.heap[A]? = some (.cells #[.int .i64 (p : Int), .int .i64 (q : Int), .int .i64 c] 39 (0, 0))) := ho3.blk HB2b.out hwR.1 hwR.2
                      have r4 := hs3.2.2.2.1
                      have d0 := hs3.2.2.2.2
                      have df := hO3.frozen k
                      have w3' : IntKind.i64.wrap (y - xr) = y - xr := by rw [IntKind.wrap_i64]; omega
                      have w4 : IntKind.i64.wrap (x2 + xr) = x2 + xr := by rw [IntKind.wrap_i64]; omega
                      clear hO3 hR3 hS3 hd3 hA1 hA2 hA3 hc3 hs3 ho3 HCall HArm HSx HS0x
                      go_wp2
                      go_roundg (gk - 1)
                      case measure => omega
                      case rel => exact ⟨k + 1, x2 + xr, sentF Fr k true xr, Er, by omega, rfl, by go_num, HA1, own_sent HO3.out HA2.out.2 true xr (by rw [HA2.out.1]; simp; omega), HR3.out.setOther (fun e => hgR e.symm) _, HX3.out.set2 _⟩
                  | false =>
                    have hb : ¬ (q = a ∧ eq2 = nx) := of_decide_eq_false HBB.out.symm
                    have HSk : Hid (SendK N t l D a F E (2 * k + (if true then 1 else 0) + 1) most x2 F2 E2) := HS2a.out.skip (fun h => hb ⟨by rw [← h.1]; exact HQ.out.2.symm, by
                      have h2 := h.2
                      have hto : towN l k true = p := HP.out.2
                      rw [hto, HEQ2.out, HNX.out] at h2
                      exact h2⟩)
                    clear hb
                    go_wp2
                    go_roundg (gk - 1)
                    case measure => omega
                    case rel => exact ⟨k + 1, x2, F2, E2, by omega, rfl, by go_num, HSk, HO2b, HR2b, HX2⟩
          · have hkl : k = l.length := by omega
            subst hkl
            obtain ⟨r0, r1, r2, r3, r4⟩ := HR1.out.cells
            by_cases hfull : x1 < most
            · have hfd : decide (x1 < most) = true := decide_eq_true hfull
              have f0 := HR1.out.frozen (5 + a)
              have c0 := HR1.out.far h12
              obtain ⟨hB1, hB2⟩ := HS.out.block (E2 := fun u => if u = a then -1 else E1 u) H0.out HAT.out hfull (fun v => rfl)
              have HB1 : Hid (Sent N t l D a F E x1 F1 (fun u => if u = a then -1 else E1 u)) := hB1
              have HB2 : Hid (-1 < D a) := by have h0 := H0.out; show -1 < D a; omega
              have HAM : Hid (0 ≤ x1 ∧ x1 ≤ most) := HS.out.amt
              clear hB1 hB2 hfull
              go_wp2
              go_ret
              first
                | exact ⟨HW.out.set1 _, x1, F1, _, rfl, own_setOther HO1.out hgR _, HR1.out.set a (-1), HB1.out, HAM.out, fun _ => by have h2 := HB2.out; simp; omega⟩
                | exact ⟨HW.out.set1 _, x1, rfl, F1, own_setOther HO1.out hgR _, _, HR1.out.set a (-1), HB1.out, HAM.out, fun _ => by have h2 := HB2.out; simp; omega⟩
            · have hfd : decide (x1 < most) = false := decide_eq_false hfull
              have HAM : Hid (0 ≤ x1 ∧ x1 ≤ most) := HS.out.amt
              have HNF : Hid (¬ x1 < most) := hfull
              clear hfull
              go_wp2
              go_ret
              first
                | exact ⟨HW.out, x1, F1, E1, rfl, HO1.out, HR1.out, HS.out.sent, HAM.out, fun c => by have h2 := HNF.out; omega⟩
                | exact ⟨HW.out, x1, rfl, F1, HO1.out, E1, HR1.out, HS.out.sent, HAM.out, fun c => by have h2 := HNF.out; omega⟩

end Go.Proofs.Ytlfhnhfhaifchaa
