/- Package push: a step, along an arc or back; all steps by which something could go. -/
import Derived.Test.YtgmifepfbcgfbaaPWait
import Derived.Test.YtgmifepfbcgfbaaPuL
import Derived.Test.YtgmifepfbcgfbaaAppJoin
import Derived.Test.YtgmifepfbcgfbaaFlat
namespace Go.Proofs.Ytgmifepfbcgfbaa
open Go.RowKit
set_option linter.unusedVariables false

theorem blk3z {w : World} {b : Nat} {x y z : Value} {t : TypeId} (h : w.heap[b]? = some (.cells #[x, y, z] t (0, 0))) :
    w.frozen? ⟨b, 0, none⟩ = false ∧ w.frozen? ⟨b, 1, none⟩ = false ∧ w.frozen? ⟨b, 2, none⟩ = false := by
  have r : w.rowIs b t 3 (fun j => if j = 0 then x else if j = 1 then y else z) := ⟨_, h, rfl, fun i hi => by
    match i, hi with
    | 0, _ => rfl
    | 1, _ => rfl
    | 2, _ => rfl⟩
  exact ⟨r.frozen 0, r.frozen 1, r.frozen 2⟩
theorem three_new {w W : World} {A B C : Obj} (h : ((w.alloc A).alloc B).alloc C = W) : W.heap[w.heap.size]? = some A ∧ W.heap[w.heap.size + 1]? = some B ∧ W.heap[w.heap.size + 1 + 1]? = some C ∧ W.heap.size = w.heap.size + 1 + 1 + 1 ∧ Below w.heap.size w W := by
  subst h
  refine ⟨blk_old (blk_old (blk_new w A) B) C, ?_, ?_, by simp, (((Below.refl _ _).alloc (by simp) _).alloc (by simp) _).alloc (by simp; omega) _⟩
  · have := blk_old (blk_new (w.alloc A) B) C
    rwa [World.size_alloc] at this
  · have := blk_new ((w.alloc A).alloc B) C
    rwa [World.size_alloc, World.size_alloc] at this

set_option maxHeartbeats 2000000 in
theorem stepBy_any {N s t : Nat} {l : List Arc3} {f h : List Int} (k : Nat) (d : Bool) (ao af ah : Option Addr) (cap cf ch : Nat) (w : World) (H : PushOk N s t l f h) (hk : k < l.length) (hP : PushIn w ao cap l af cf f ah ch h) :
    Calls Try.prog 31 #[.agg #[.int .i64 (N : Int), .int .i64 (s : Int), .int .i64 (t : Int), .slice ao l.length cap, .slice af l.length cf, .slice ah N ch], .int .i64 (k : Int), .bool d] w fun e w' => Below w.heap.size w w' ∧
      e = .returned (.agg #[.int .i64 (frmN l k d : Int), .int .i64 (towN l k d : Int), .int .i64 (room l f k d)]) := by
  obtain ⟨b, off, rfl, hbb, c0, c1, c2⟩ := hP.arcs.arcs k hk
  obtain ⟨b2, o2, rfl, hb2, d0⟩ := hP.flow.ints k (by rw [H.flen]; exact hk)
  obtain ⟨a1, a2, a3, a4, a5, a6⟩ := arc_at H.net hk
  have hbd := H.bnd k hk
  have hl60 := H.st.2.2.2.2.2
  have hki : (k : Int) < (l.length : Int) := by omega
  have e0 : frmN l k true = towN l k false := rfl
  have e1 : towN l k true = frmN l k false := rfl
  have e2 : room l f k true = ati f k := rfl
  have e3 : room l f k false = (at3 l k).2.2 - ati f k := rfl
  generalize (at3 l k).1 = p at *
  generalize (at3 l k).2.1 = q at *
  generalize (at3 l k).2.2 = c at *
  generalize ati f k = y at *
  subst a1
  subst a2
  have w1 : IntKind.i64.wrap (c - y) = c - y := by rw [IntKind.wrap_i64]; omega
  clear H hP a3 a4 a5 a6 hbd
  cases d
  · rw [e3]
    generalize frmN l k false = p at *
    generalize towN l k false = q at *
    clear e0 e1 e2 e3
    go_enter Try.func31, Try.ntmps31
    go_wp2
    obtain ⟨W, hW⟩ : ∃ W, (((w.alloc (.cells #[.int .i64 (N : Int), .int .i64 (s : Int), .int .i64 (t : Int), .slice (some ⟨b, off, none⟩) l.length cap, .slice (some ⟨b2, o2, none⟩) l.length cf, .slice ah N ch] 28)).alloc (.cells #[.int .i64 0, .int .i64 0, .int .i64 0] 63)).alloc (.cells #[.int .i64 (p : Int), .int .i64 (q : Int), .int .i64 c] 35)) = W := ⟨_, rfl⟩
    rw [hW]
    obtain ⟨x0, x1, x2, hz, hBW⟩ := three_new hW
    obtain ⟨⟨m0, m1, m2, m3, m4, m5⟩, _⟩ := blk6 x0
    obtain ⟨z0, z1, z2⟩ := blk3 x1
    obtain ⟨g0, g1, g2⟩ := blk3z x1
    obtain ⟨n0, n1, n2⟩ := blk3 x2
    have d1 := later hBW d0 hb2
    have hb3 : b2 < W.heap.size := by omega
    have hw0 : w.heap.size < W.heap.size := by omega
    have hw1 : w.heap.size + 1 < W.heap.size := by omega
    have hw2 : w.heap.size + 1 + 1 < W.heap.size := by omega
    have HB : Hid (Below w.heap.size w W) := hBW
    clear hBW d0 x0 x1 x2 hW hz c0 c1 c2
    go_region
    go_wp2
    (try simp only [Exit.inBlock, Exit.then])
    refine bodyPost_ret (v := .agg #[.int .i64 (p : Int), .int .i64 (q : Int), .int .i64 (c - y)]) (by simp [results, Try.results31, go_sem, z0, z1, z2]) rfl ⟨?_, rfl⟩
    exact (((HB.out.setCell (by simp) _).setCell (by simp) _).setCell (by simp) _).drew
  · rw [e2, e0, e1]
    generalize frmN l k false = p at *
    generalize towN l k false = q at *
    clear e0 e1 e2 e3
    go_enter Try.func31, Try.ntmps31
    go_wp2
    obtain ⟨W, hW⟩ : ∃ W, (((w.alloc (.cells #[.int .i64 (N : Int), .int .i64 (s : Int), .int .i64 (t : Int), .slice (some ⟨b, off, none⟩) l.length cap, .slice (some ⟨b2, o2, none⟩) l.length cf, .slice ah N ch] 28)).alloc (.cells #[.int .i64 0, .int .i64 0, .int .i64 0] 63)).alloc (.cells #[.int .i64 (p : Int), .int .i64 (q : Int), .int .i64 c] 35)) = W := ⟨_, rfl⟩
    rw [hW]
    obtain ⟨x0, x1, x2, hz, hBW⟩ := three_new hW
    obtain ⟨⟨m0, m1, m2, m3, m4, m5⟩, _⟩ := blk6 x0
    obtain ⟨z0, z1, z2⟩ := blk3 x1
    obtain ⟨g0, g1, g2⟩ := blk3z x1
    obtain ⟨n0, n1, n2⟩ := blk3 x2
    have d1 := later hBW d0 hb2
    have hb3 : b2 < W.heap.size := by omega
    have hw0 : w.heap.size < W.heap.size := by omega
    have hw1 : w.heap.size + 1 < W.heap.size := by omega
    have hw2 : w.heap.size + 1 + 1 < W.heap.size := by omega
    have HB : Hid (Below w.heap.size w W) := hBW
    clear hBW d0 x0 x1 x2 hW hz c0 c1 c2
    go_region
    go_wp2
    (try simp only [Exit.inBlock, Exit.then])
    refine bodyPost_ret (v := .agg #[.int .i64 (q : Int), .int .i64 (p : Int), .int .i64 y]) (by simp [results, Try.results31, go_sem, z0, z1, z2]) rfl ⟨?_, rfl⟩
    exact (((HB.out.setCell (by simp) _).setCell (by simp) _).setCell (by simp) _).drew

theorem infoStep : (Try.prog.info? 63).map (fun i => (i.zero, i.size, i.bytes)) = some (some (.agg #[.int .i64 0, .int .i64 0, .int .i64 0]), 3, 24) := by kernel_rfl

/-- one of two steps -/
theorem step_at (a b c d e f : Value) : (∀ u : World, (Instr.index 86 (.agg #[a, b, c, d, e, f]) (.int .i64 0)).run Try.prog u = .ok (.agg #[a, b, c]) u) ∧
    ∀ u : World, (Instr.index 86 (.agg #[a, b, c, d, e, f]) (.int .i64 1)).run Try.prog u = .ok (.agg #[d, e, f]) u := by

  constructor
  · intro u
    simp [Instr.index, go_sem]
  · intro u
    simp [Instr.index, go_sem]
theorem wpList_index {ops : Array Oper} {rest : List Oper} {o : Oper} {a : Act} {w : World} {Q : Exit → Act → World → Prop} (hgd : o.guard = none) (ty : TypeId) (x ix : Operand) (ho : o.op = .index ty x ix)
    (c i v : Value) (hx : a.eval x = c) (hi : a.eval ix = i) (hr : ∀ u : World, (Instr.index ty c i).run Try.prog u = .ok v u) (h : wpList Try.prog ops Q rest (a.put o.dst v) w) : wpList Try.prog ops Q (o :: rest) a w := by
  refine wpList_plain hgd fun K hK => ?_
  have hk := hK _ _ h
  unfold Oper.wp
  simp only [execOp, ho, hx, hi, Sem.run_bind, hr, Result.andThen_ok]
  exact hk

/-- the steps so far, in a row of the call's own -/
def OwnS (w : World) (B : Nat) (l : List Arc3) (f : List Int) (m : Nat) (v : Value) : Prop := w.ownsRow B 63 3 v (stepsC l f m).length (flat (stepsC l f m))

set_option maxHeartbeats 4000000 in
theorem steps_any {N s t : Nat} {l : List Arc3} {f h : List Int} (ao af ah : Option Addr) (cap cf ch : Nat) (w : World) (H : PushOk N s t l f h) (hP : PushIn w ao cap l af cf f ah ch h) :
    Calls Try.prog 39 #[.agg #[.int .i64 (N : Int), .int .i64 (s : Int), .int .i64 (t : Int), .slice ao l.length cap, .slice af l.length cf, .slice ah N ch]] w fun e w' => Below w.heap.size w w' ∧
      ∃ a1 c1, e = .returned (.slice a1 (stepsC l f (2 * l.length)).length c1) ∧ ArcsAt w' a1 (stepsC l f (2 * l.length)) := by
  have hl60 := H.st.2.2.2.2.2
  obtain ⟨i0, hi, hz0, hz1, hz2⟩ := info_parts infoStep
  have x0 := blk_new w (.cells #[.int .i64 (N : Int), .int .i64 (s : Int), .int .i64 (t : Int), .slice ao l.length cap, .slice af l.length cf, .slice ah N ch] 28)
  have HX0 : Hid ((w.alloc (.cells #[.int .i64 (N : Int), .int .i64 (s : Int), .int .i64 (t : Int), .slice ao l.length cap, .slice af l.length cf, .slice ah N ch] 28)).heap[w.heap.size]? = some (.cells #[.int .i64 (N : Int), .int .i64 (s : Int), .int .i64 (t : Int), .slice ao l.length cap, .slice af l.length cf, .slice ah N ch] 28 (0, 0))) := x0
  have HP0 : Hid (PushIn (w.alloc (.cells #[.int .i64 (N : Int), .int .i64 (s : Int), .int .i64 (t : Int), .slice ao l.length cap, .slice af l.length cf, .slice ah N ch] 28)) ao cap l af cf f ah ch h) := hP.alloc _
  have HOk : Hid (PushOk N s t l f h) := H
  have HLen : Hid (∀ m, (stepsC l f m).length ≤ m) := steps_len l f
  clear hP H x0
  go_enter Try.func39, Try.ntmps39
  go_wp2
  go_loopw [3, 11] (fun v i wr => ∃ k : Nat, k ≤ l.length ∧ i = .int .i64 k ∧ Hid (OwnS wr (w.heap.size + 1) l f (2 * k) v) ∧ Below (w.heap.size + 1) (w.alloc (.cells #[.int .i64 (N : Int), .int .i64 (s : Int), .int .i64 (t : Int), .slice ao l.length cap, .slice af l.length cf, .slice ah N ch] 28)) wr) (fun _ i _ => l.length - (intOf i).toNat)
  case atStart => exact ⟨0, Nat.zero_le _, rfl, World.ownsRow_nil _ _ _ _, Below.refl _ _⟩
  case round =>
    obtain ⟨k, hk, rfl, HO, hB⟩ := hrel
    have hz := hB.size
    simp only [World.size_alloc] at hz
    by_cases hlt : k < l.length
    · have x1 := blk_below hB HX0.out (Nat.lt_succ_self _)
      obtain ⟨⟨m0, m1, m2, m3, m4, m5⟩, _⟩ := blk6 x1
      have hw0 : w.heap.size < wr.heap.size := by omega
      have HP1 : Hid (PushIn wr ao cap l af cf f ah ch h) := HP0.out.below hB (by simp)
      have HS : Hid (∀ x : World, Below wr.heap.size wr x → Below wr.heap.size wr x ∧ x.cell? ⟨w.heap.size, 0, none⟩ = some (.int .i64 (N : Int)) ∧ x.cell? ⟨w.heap.size, 1, none⟩ = some (.int .i64 (s : Int)) ∧ x.cell? ⟨w.heap.size, 2, none⟩ = some (.int .i64 (t : Int)) ∧ x.cell? ⟨w.heap.size, 3, none⟩ = some (.slice ao l.length cap) ∧ x.cell? ⟨w.heap.size, 4, none⟩ = some (.slice af l.length cf) ∧ x.cell? ⟨w.heap.size, 5, none⟩ = some (.slice ah N ch)) :=
        fun x hx => ⟨hx, later hx m0 hw0, later hx m1 hw0, later hx m2 hw0, later hx m3 hw0, later hx m4 hw0, later hx m5 hw0⟩
      have HCl : Hid (∀ (d : Bool) (W : World), Below wr.heap.size wr W → Calls Try.prog 31 #[.agg #[.int .i64 (N : Int), .int .i64 (s : Int), .int .i64 (t : Int), .slice ao l.length cap, .slice af l.length cf, .slice ah N ch], .int .i64 (k : Int), .bool d] W fun e w' => Below wr.heap.size wr w' ∧
          e = .returned (.agg #[.int .i64 (frmN l k d : Int), .int .i64 (towN l k d : Int), .int .i64 (room l f k d)])) := fun d W hW =>
        (stepBy_any k d ao af ah cap cf ch W HOk.out hlt (HP1.out.below hW (Nat.le_refl _))).mono fun e w' ⟨h1, h2⟩ => ⟨hW.trans (h1.mono hW.size), h2⟩
      have HB : Hid (Below (w.heap.size + 1) (w.alloc (.cells #[.int .i64 (N : Int), .int .i64 (s : Int), .int .i64 (t : Int), .slice ao l.length cap, .slice af l.length cf, .slice ah N ch] 28)) wr) := hB
      clear x1 hB
      go_wp2
      go_cut [20, 21] (fun q z wx => z = .int .i64 0 ∧ q = .agg #[.int .i64 (frmN l k false : Int), .int .i64 (towN l k false : Int), .int .i64 (room l f k false), .int .i64 (frmN l k true : Int), .int .i64 (towN l k true : Int), .int .i64 (room l f k true)] ∧ Hid (Below wr.heap.size wr wx))
      case first =>
        clear HB HP0 HP1 HOk HLen HO HX0 hz0 hz1 hz2 hi
        generalize frmN l k = F1 at *
        generalize towN l k = T1 at *
        generalize room l f k = R1 at *
        go_region_held3 (fun x => Below wr.heap.size wr x ∧ x.cell? ⟨w.heap.size, 0, none⟩ = some (.int .i64 (N : Int)) ∧ x.cell? ⟨w.heap.size, 1, none⟩ = some (.int .i64 (s : Int)) ∧ x.cell? ⟨w.heap.size, 2, none⟩ = some (.int .i64 (t : Int)) ∧ x.cell? ⟨w.heap.size, 3, none⟩ = some (.slice ao l.length cap) ∧ x.cell? ⟨w.heap.size, 4, none⟩ = some (.slice af l.length cf) ∧ x.cell? ⟨w.heap.size, 5, none⟩ = some (.slice ah N ch))
          (first
            | with_reducible assumption
            | with_reducible exact HS.out _ ((Below.refl _ _).drew))
          (first
            | (go_at_call_of 31 (Value.bool false); refine (HCl.out false _ (And.left (by with_reducible assumption))).mono ?_; rintro e w3 ⟨hb3, rfl⟩; have hs3 := HS.out w3 hb3; clear hb3)
            | (go_at_call_of 31 (Value.bool true); refine (HCl.out true _ (And.left (by with_reducible assumption))).mono ?_; rintro e w3 ⟨hb3, rfl⟩; have hs3 := HS.out w3 hb3; clear hb3))
        all_goals
          go_wp2
          go_meet
          case rel => exact ⟨rfl, rfl, hs3.1⟩
      case rest =>
        obtain ⟨rfl, rfl, HBc⟩ := hcut
        have HB2 : Hid (Below (w.heap.size + 1) (w.alloc (.cells #[.int .i64 (N : Int), .int .i64 (s : Int), .int .i64 (t : Int), .slice ao l.length cap, .slice af l.length cf, .slice ah N ch] 28)) wc) := HB.out.trans (HBc.out.mono (by omega))
        have HO2 : Hid (∀ v, OwnS wr (w.heap.size + 1) l f (2 * k) v → OwnS wc (w.heap.size + 1) l f (2 * k) v) := fun v hv => owns_below hv HBc.out (Nat.le_refl _)
        have HO3 := HO2.out _ HO.out
        have HO4 : Hid (OwnS wc (w.heap.size + 1) l f (2 * k) _) := HO3
        clear HS HCl HB HBc HO HO2 HO3 m0 m1 m2 m3 m4 m5 hz hw0
        have HF : Hid (stepsC l f (2 * k + 1) = stepsC l f (2 * k) ++ if 0 < room l f k false then [dirS l f k false] else []) := steps_fwd l f k
        have HK : Hid (stepsC l f (2 * (k + 1)) = stepsC l f (2 * k + 1) ++ if 0 < room l f k true then [dirS l f k true] else []) := steps_back l f k
        have HD0 : Hid (dirS l f k false = ((frmN l k false : Int), (towN l k false : Int), room l f k false)) := rfl
        have HD1 : Hid (dirS l f k true = ((frmN l k true : Int), (towN l k true : Int), room l f k true)) := rfl
        generalize frmN l k false = p0 at *
        generalize towN l k false = q0 at *
        generalize room l f k false = y0 at *
        generalize frmN l k true = p1 at *
        generalize towN l k true = q1 at *
        generalize room l f k true = y1 at *
        generalize dirS l f k false = e0 at *
        generalize dirS l f k true = e1 at *
        have HX0' : Hid (∀ u : World, (Instr.index 86 (.agg #[.int .i64 (p0 : Int), .int .i64 (q0 : Int), .int .i64 y0, .int .i64 (p1 : Int), .int .i64 (q1 : Int), .int .i64 y1]) (.int .i64 0)).run Try.prog u = .ok (.agg #[.int .i64 (p0 : Int), .int .i64 (q0 : Int), .int .i64 y0]) u) := (step_at _ _ _ _ _ _).1
        have HX1' : Hid (∀ u : World, (Instr.index 86 (.agg #[.int .i64 (p0 : Int), .int .i64 (q0 : Int), .int .i64 y0, .int .i64 (p1 : Int), .int .i64 (q1 : Int), .int .i64 y1]) (.int .i64 1)).run Try.prog u = .ok (.agg #[.int .i64 (p1 : Int), .int .i64 (q1 : Int), .int .i64 y1]) u) := (step_at _ _ _ _ _ _).2
        go_wp2
        go_loopw [3, 21] (fun v i wx => ((i = .int .i64 0 ∧ Hid (OwnS wx (w.heap.size + 1) l f (2 * k) v)) ∨ (i = .int .i64 1 ∧ Hid (OwnS wx (w.heap.size + 1) l f (2 * k + 1) v)) ∨ (i = .int .i64 2 ∧ Hid (OwnS wx (w.heap.size + 1) l f (2 * (k + 1)) v))) ∧ Below (w.heap.size + 1) (w.alloc (.cells #[.int .i64 (N : Int), .int .i64 (s : Int), .int .i64 (t : Int), .slice ao l.length cap, .slice af l.length cf, .slice ah N ch] 28)) wx) (fun _ i _ => 2 - (intOf i).toNat)
        case atStart => exact ⟨Or.inl ⟨rfl, HO4⟩, HB2.out⟩
        case round =>
          clear HO4 HB2
          obtain ⟨h3, hB⟩ := hrel
          have hz := hB.size
          simp only [World.size_alloc] at hz
          rcases h3 with ⟨rfl, HO⟩ | ⟨rfl, HO⟩ | ⟨rfl, HO⟩
          · by_cases hr : 0 < y0
            · have hr' : decide (0 < y0) = true := decide_eq_true hr
              have hm := HLen.out (2 * k)
              have HN : Hid (stepsC l f (2 * k + 1) = stepsC l f (2 * k) ++ [e0]) := by rw [Hid, HF.out, if_pos hr]
              have HE : Hid (flat [e0] = [.int .i64 (p0 : Int), .int .i64 (q0 : Int), .int .i64 y0]) := by rw [HD0.out]; rfl
              clear hr
              have HO1 : Hid (∀ u ∈ ([.int .i64 (p0 : Int), .int .i64 (q0 : Int), .int .i64 y0] : List Value), u.oneCell' = true) := fun u hu => by simp at hu; rcases hu with rfl | rfl | rfl <;> rfl
              have HK1 : Hid ((stepsC l f (2 * k)).length + 1 ≤ maxLen) := by unfold Hid maxLen; omega
              have HK2 : Hid (((stepsC l f (2 * k)).length + 1) * 24 ≤ 140737488355328) := by unfold Hid; omega
              have HK3 : Hid (w.heap.size + 1 ≤ ((wr.alloc (.cells #[.int .i64 (p0 : Int), .int .i64 (q0 : Int), .int .i64 y0] 63)).alloc (.cells #[.int .i64 (p0 : Int), .int .i64 (q0 : Int), .int .i64 y0] 63)).heap.size) := by unfold Hid; simp; omega
              have HOa : Hid (((wr.alloc (.cells #[.int .i64 (p0 : Int), .int .i64 (q0 : Int), .int .i64 y0] 63)).alloc (.cells #[.int .i64 (p0 : Int), .int .i64 (q0 : Int), .int .i64 y0] 63)).ownsRow (w.heap.size + 1) 63 3 _ (stepsC l f (2 * k)).length (flat (stepsC l f (2 * k)))) := (World.ownsRow.alloc HO.out _).alloc _
              have HBa : Hid (Below (w.heap.size + 1) _ ((wr.alloc (.cells #[.int .i64 (p0 : Int), .int .i64 (q0 : Int), .int .i64 y0] 63)).alloc (.cells #[.int .i64 (p0 : Int), .int .i64 (q0 : Int), .int .i64 y0] 63))) := (hB.alloc (by omega) _).alloc (by simp; omega) _
              clear HO hB hm
              go_wp2_with (first | (refine wpList_index rfl 86 (.tmp 20) (.tmp 21) rfl _ _ _ rfl rfl (HX0'.out) ?_) | (at_builtin; refine wpList_append_own _ rfl (.tmp 27) (.tmp 29) 76 rfl (w.heap.size + 1) 63 i0 _ 3 24 Try.underlying76 hi hz0 hz1 hz2 rfl (by decide) _ _ _ rfl HOa.out ⟨wr.heap.size + 1, 0, none⟩ 1 1 [.int .i64 (p0 : Int), .int .i64 (q0 : Int), .int .i64 y0] rfl rfl (news3 (t := 63) blk_new1) HO1.out HK1.out HK2.out HK3.out ?_; intro v' w5 hown' hgrow _))
              have hB5 : Below (w.heap.size + 1) _ w5 := HBa.out.grown hgrow HK3.out (fun g hg => (HOa.out.lt g hg).1)
              have HO6 : Hid (OwnS w5 (w.heap.size + 1) l f (2 * k + 1) v') := by rw [Hid, OwnS, HN.out, List.length_append, flat_append, HE.out]; exact hown'
              clear hown' hgrow HOa HBa HO1 HK1 HK2 HK3
              go_wp2
              go_roundw
              case rel => exact ⟨Or.inr (Or.inl ⟨rfl, HO6⟩), hB5⟩
              case measure => simp [intOf]
            · have hr' : decide (0 < y0) = false := decide_eq_false hr
              have HN : Hid (stepsC l f (2 * k + 1) = stepsC l f (2 * k)) := by rw [Hid, HF.out, if_neg hr, List.append_nil]
              clear hr
              go_wp2_with (refine wpList_index rfl 86 (.tmp 20) (.tmp 21) rfl _ _ _ rfl rfl (HX0'.out) ?_)
              go_roundw
              case rel => exact ⟨Or.inr (Or.inl ⟨rfl, by rw [OwnS, HN.out]; exact World.ownsRow.alloc HO.out _⟩), hB.alloc (by omega) _⟩
              case measure => simp [intOf]
          · by_cases hr : 0 < y1
            · have hr' : decide (0 < y1) = true := decide_eq_true hr
              have hm := HLen.out (2 * k + 1)
              have HN : Hid (stepsC l f (2 * (k + 1)) = stepsC l f (2 * k + 1) ++ [e1]) := by rw [Hid, HK.out, if_pos hr]
              have HE : Hid (flat [e1] = [.int .i64 (p1 : Int), .int .i64 (q1 : Int), .int .i64 y1]) := by rw [HD1.out]; rfl
              clear hr
              have HO1 : Hid (∀ u ∈ ([.int .i64 (p1 : Int), .int .i64 (q1 : Int), .int .i64 y1] : List Value), u.oneCell' = true) := fun u hu => by simp at hu; rcases hu with rfl | rfl | rfl <;> rfl
              have HK1 : Hid ((stepsC l f (2 * k + 1)).length + 1 ≤ maxLen) := by unfold Hid maxLen; omega
              have HK2 : Hid (((stepsC l f (2 * k + 1)).length + 1) * 24 ≤ 140737488355328) := by unfold Hid; omega
              have HK3 : Hid (w.heap.size + 1 ≤ ((wr.alloc (.cells #[.int .i64 (p1 : Int), .int .i64 (q1 : Int), .int .i64 y1] 63)).alloc (.cells #[.int .i64 (p1 : Int), .int .i64 (q1 : Int), .int .i64 y1] 63)).heap.size) := by unfold Hid; simp; omega
              have HOa : Hid (((wr.alloc (.cells #[.int .i64 (p1 : Int), .int .i64 (q1 : Int), .int .i64 y1] 63)).alloc (.cells #[.int .i64 (p1 : Int), .int .i64 (q1 : Int), .int .i64 y1] 63)).ownsRow (w.heap.size + 1) 63 3 _ (stepsC l f (2 * k + 1)).length (flat (stepsC l f (2 * k + 1)))) := (World.ownsRow.alloc HO.out _).alloc _
              have HBa : Hid (Below (w.heap.size + 1) _ ((wr.alloc (.cells #[.int .i64 (p1 : Int), .int .i64 (q1 : Int), .int .i64 y1] 63)).alloc (.cells #[.int .i64 (p1 : Int), .int .i64 (q1 : Int), .int .i64 y1] 63))) := (hB.alloc (by omega) _).alloc (by simp; omega) _
              clear HO hB hm
              go_wp2_with (first | (refine wpList_index rfl 86 (.tmp 20) (.tmp 21) rfl _ _ _ rfl rfl (HX1'.out) ?_) | (at_builtin; refine wpList_append_own _ rfl (.tmp 27) (.tmp 29) 76 rfl (w.heap.size + 1) 63 i0 _ 3 24 Try.underlying76 hi hz0 hz1 hz2 rfl (by decide) _ _ _ rfl HOa.out ⟨wr.heap.size + 1, 0, none⟩ 1 1 [.int .i64 (p1 : Int), .int .i64 (q1 : Int), .int .i64 y1] rfl rfl (news3 (t := 63) blk_new1) HO1.out HK1.out HK2.out HK3.out ?_; intro v' w5 hown' hgrow _))
              have hB5 : Below (w.heap.size + 1) _ w5 := HBa.out.grown hgrow HK3.out (fun g hg => (HOa.out.lt g hg).1)
              have HO6 : Hid (OwnS w5 (w.heap.size + 1) l f (2 * (k + 1)) v') := by rw [Hid, OwnS, HN.out, List.length_append, flat_append, HE.out]; exact hown'
              clear hown' hgrow HOa HBa HO1 HK1 HK2 HK3
              go_wp2
              go_roundw
              case rel => exact ⟨Or.inr (Or.inr ⟨rfl, HO6⟩), hB5⟩
              case measure => simp [intOf]
            · have hr' : decide (0 < y1) = false := decide_eq_false hr
              have HN : Hid (stepsC l f (2 * (k + 1)) = stepsC l f (2 * k + 1)) := by rw [Hid, HK.out, if_neg hr, List.append_nil]
              clear hr
              go_wp2_with (refine wpList_index rfl 86 (.tmp 20) (.tmp 21) rfl _ _ _ rfl rfl (HX1'.out) ?_)
              go_roundw
              case rel => exact ⟨Or.inr (Or.inr ⟨rfl, by rw [OwnS, HN.out]; exact World.ownsRow.alloc HO.out _⟩), hB.alloc (by omega) _⟩
              case measure => simp [intOf]
          · go_wp2
            go_roundw
            case rel => exact ⟨k + 1, by omega, by go_num, HO, hB⟩
            case measure => simp [intOf]; omega
    · have hkk : k = l.length := by omega
      subst hkk
      obtain ⟨a1, c1, rfl, hA1, _⟩ := owns_arcs HO.out
      have HA1 : Hid (ArcsAt wr a1 (stepsC l f (2 * l.length))) := hA1
      clear hA1 HO
      go_wp2
      go_ret
      exact ⟨below_in hB (by omega), a1, c1, rfl, HA1.out⟩

end Go.Proofs.Ytgmifepfbcgfbaa
