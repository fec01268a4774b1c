/- The law WalkJoins, walked, out of the contract of Parts. -/
import Derived.Test.YtbnagipapgonpaaWalks
import Derived.Test.YtbnagipapgonpaaWalkTurned
import Derived.Test.YtbnagipapgonpaaBoth
import Derived.Test.YtbnagipapgonpaaJoined
import Derived.Test.YtbnagipapgonpaaSidesOf
import Derived.BigRegion
import Derived.Deep.RegionHeld3
namespace Go.Proofs.Ytbnagipapgonpaa
open Go.RowKit
set_option linter.unusedVariables false

/-- what Turn answers is a graph, whatever is handed in -/
theorem Turn_graph (n : Int) (ao : Option Addr) (cap : Nat) (l : List Arc3) (w : World) (hG : GraphIn w ao cap l) :
    Calls Try.prog 20 #[.agg #[.int .i64 n, .slice ao l.length cap]] w fun e w' => Below w.heap.size w w' ∧
      ∃ n' ao' cap' l' err, e = .returned (.tuple #[.agg #[.int .i64 n', .slice ao' (l' : List Arc3).length cap'], .int .i64 err]) ∧ GraphIn w' ao' cap' l' ∧ (graphErr n (-10000) l = 0 → n' = n ∧ l' = l.map turnA) := by
  by_cases hE : graphErr n (-10000) l = 0
  · refine (Turn_ok n ao cap l w hG.arcs hE).mono ?_
    rintro e w2 ⟨hb2, b2, hb2l, rfl, hT2, _⟩
    exact ⟨hb2, n, some ⟨b2, 0, none⟩, l.length, l.map turnA, 0, by rw [List.length_map], ⟨hT2, by simp, hG.len, fun e => by cases e⟩, fun _ => ⟨rfl, rfl⟩⟩
  · refine (Turn_err n ao cap l w hG.len hG.arcs hE).mono ?_
    rintro e w2 ⟨hb2, rfl⟩
    exact ⟨hb2, 0, none, 0, [], _, rfl, nil_in _, fun h => absurd h hE⟩

theorem parts_line {F : List Int} (h : PartsIs 3 lineL F) : F = [0, 0, 0] := by
  have j1 : Jn lineL 0 1 := Jn.arc (a := (0, 1, 4)) (by simp [lineL])
  have j2 : Jn lineL 1 2 := Jn.arc (a := (1, 2, 3)) (by simp [lineL])
  refine ext_ati (by rw [h.len]; rfl) fun v hv => ?_
  rw [h.len] at hv
  have h0 := h.le (v := 0) (by omega)
  have e1 := (h.same (u := 0) (v := 1) (by omega) (by omega)).2 j1
  have e2 := (h.same (u := 1) (v := 2) (by omega) (by omega)).2 j2
  rcases (by omega : v = 0 ∨ v = 1 ∨ v = 2) with rfl | rfl | rfl
  · show ati F 0 = 0; omega
  · show ati F 1 = 0; omega
  · show ati F 2 = 0; omega

theorem err_snoc {n least : Int} {l : List Arc3} {f t c : Int} (h : graphErr n least (l ++ [(f, t, c)]) = 0) : (0 ≤ f ∧ f < n) ∧ (0 ≤ t ∧ t < n) := by
  obtain ⟨_, _, h3⟩ := err_ok h
  have := h3 (f, t, c) (by simp)
  exact ⟨this.1, this.2.1⟩

/-- a struct of three cells in a block of its own -/
theorem blk3 {w : World} {b : Nat} {x y z : Value} {t : TypeId} (h : w.heap[b]? = some (.cells #[x, y, z] t (0, 0))) :
    w.cell? ⟨b, 0, none⟩ = some x ∧ w.cell? ⟨b, 1, none⟩ = some y ∧ w.cell? ⟨b, 2, none⟩ = some z := by
  have r : w.rowIs b t 3 (fun j => if j = 0 then x else if j = 1 then y else z) := ⟨_, h, rfl, fun i hi => by
    match i, hi with
    | 0, _ => rfl
    | 1, _ => rfl
    | 2, _ => rfl⟩
  exact ⟨r.cell (i := 0) (by omega), r.cell (i := 1) (by omega), r.cell (i := 2) (by omega)⟩

theorem below_al {w0 x : World} (h : Below w0.heap.size w0 x) (o : Obj) : Below w0.heap.size w0 (x.alloc o) := h.alloc h.size o
theorem below_tr {w0 x y : World} (h : Below w0.heap.size w0 x) (k : Below x.heap.size x y) : Below w0.heap.size w0 y := h.trans (k.mono h.size)
theorem blk_new' {w : World} {o : Obj} {b : Nat} (h : b = w.heap.size) : (w.alloc o).heap[b]? = some o := by subst h; exact blk_new w o
theorem blk_drew {w : World} {o : Obj} {b : Nat} (h : w.heap[b]? = some o) : w.drew.heap[b]? = some o := h
theorem owns_ne' {w : World} {B : Nat} {t t' : TypeId} {s : Nat} {ao : Option Addr} {n cap : Nat} {xs : List Value} (h : w.ownsRow B t s (.slice ao n cap) n xs) {p : Nat} {c : Array Value} {fr : Nat × Nat} (hp : w.heap[p]? = some (.cells c t' fr)) (ht : t ≠ t') : ∀ b off, ao = some ⟨b, off, none⟩ → b ≠ p := by
  intro b off e e2
  rcases h.2 with ⟨e3, _⟩ | ⟨g', cap', cur, e3, hB, hg, _⟩
  · rw [e] at e3; cases e3
  · rw [e] at e3
    simp only [Value.slice.injEq, Option.some.injEq, Addr.mk.injEq] at e3
    obtain ⟨⟨rfl, _⟩, _⟩ := e3
    subst e2
    rw [hp] at hg
    simp only [Option.some.injEq, Obj.cells.injEq] at hg
    exact ht hg.2.1.symm
theorem pre0 {w w7 : World} {o : Obj} (h : Below (w.alloc o).drew.heap.size (w.alloc o).drew w7) : w7.heap[w.heap.size]? = some o :=
  (h.block _ (by show w.heap.size < (w.alloc o).heap.size; simp)).trans (blk_new w o)
theorem pre01 {w w7 : World} {o o' : Obj} (h : Below ((w.alloc o).alloc o').drew.heap.size ((w.alloc o).alloc o').drew w7) : w7.heap[w.heap.size]? = some o :=
  (h.block _ (by show w.heap.size < ((w.alloc o).alloc o').heap.size; simp; omega)).trans (blk_old (blk_new w o) o')
theorem blk_new1 {w : World} {o o' : Obj} : ((w.alloc o).alloc o').heap[w.heap.size + 1]? = some o' := by
  have := blk_new (w.alloc o) o'
  rwa [World.size_alloc] at this
theorem pre1 {w w7 : World} {o o' : Obj} (h : Below ((w.alloc o).alloc o').drew.heap.size ((w.alloc o).alloc o').drew w7) : w7.heap[w.heap.size + 1]? = some o' :=
  (h.block _ (by show w.heap.size + 1 < ((w.alloc o).alloc o').heap.size; simp)).trans blk_new1
theorem grown_blk {w w' : World} {B n s : Nat} {t t' : TypeId} {v : Value} {xs : List Value} {p : Nat} {c : Array Value} {fr : Nat × Nat} (hown : w.ownsRow B t s v n xs) (hg : w.grownBy w' v.ownBlock) (ht : t ≠ t') (hp : w.heap[p]? = some (.cells c t' fr)) : w'.heap[p]? = some (.cells c t' fr) := by
  rw [hg.block p (Array.getElem?_eq_some_iff.1 hp).1 ?_]
  · exact hp
  · intro e
    rcases hown.2 with ⟨rfl, _⟩ | ⟨g, cap, cur, rfl, _, hh, _⟩
    · cases e
    · simp only [Value.ownBlock, Option.some.injEq] at e
      subst e
      rw [hp] at hh
      simp only [Option.some.injEq, Obj.cells.injEq] at hh
      exact ht hh.2.1.symm
theorem grown_bel {w0 w w' : World} {n s : Nat} {t : TypeId} {v : Value} {xs : List Value} (h : Below w0.heap.size w0 w) (hown : w.ownsRow w0.heap.size t s v n xs) (hg : w.grownBy w' v.ownBlock) : Below w0.heap.size w0 w' :=
  h.grown hg h.size (by
    intro g e
    rcases hown.2 with ⟨rfl, _⟩ | ⟨g', _, _, rfl, hB0, _⟩
    · cases e
    · simp only [Value.ownBlock, Option.some.injEq] at e; omega)
theorem news3 {w : World} {b : Nat} {x y z : Value} {t : TypeId} (h : w.heap[b]? = some (.cells #[x, y, z] t (0, 0))) : ∀ j u, [x, y, z][j]? = some u → w.cell? ((⟨b, 0, none⟩ : Addr).add j) = some u := by
  obtain ⟨h0, h1, h2⟩ := blk3 h
  intro j u hj
  match j, hj with
  | 0, hj => simp at hj; subst hj; simpa [Addr.add] using h0
  | 1, hj => simp at hj; subst hj; simpa [Addr.add] using h1
  | 2, hj => simp at hj; subst hj; simpa [Addr.add] using h2

theorem step_append_join {P : Program} {ops : Array Oper} {o : Oper} {a : Act} {w w0 : World} {K : Act → World → Prop} {Q : Exit → Act → World → Prop} {E : Prop} (hgd : o.guard = none) (s x : Operand) (t : TypeId)
    (ho : o.op = .call { callee := .builtin .append, args := #[s, x], argTypes := #[t, t] })
    (e : TypeId) (i : TypeInfo) (z : Value) (size bytes : Nat) (ht : P.underlying t = some (.slice e)) (hi : P.info? e = some i) (hz : i.zero = some z)
    (hsize : i.size = size) (hby : i.bytes = bytes) (hzs : z.cells.size = size) (hsz : 0 < size)
    (v : Value) (n : Nat) (xs : List Value) (hs : a.eval s = v) (hown : w.ownsRow w0.heap.size e size v n xs) (hB : Below w0.heap.size w0 w)
    (ad : Addr) (m c : Nat) (news : List Value) (hx : a.eval x = .slice (some ad) m c) (hl : news.length = m * size) (hnews : ∀ j u, news[j]? = some u → w.cell? (ad.add j) = some u) (h1 : ∀ u ∈ news, u.oneCell' = true)
    (h63 : n + m ≤ maxLen) (hbytes : (n + m) * bytes ≤ 140737488355328)
    (h : ∀ ao' cap' w', w'.ownsRow w0.heap.size e size (.slice ao' (n + m) cap') (n + m) (xs ++ news) → Below w0.heap.size w0 w' → (∀ (p : Nat) (c : Array Value) (t' : TypeId) (fr : Nat × Nat), e ≠ t' → w.heap[p]? = some (.cells c t' fr) → w'.heap[p]? = some (.cells c t' fr)) → K (a.put o.dst (.slice ao' (n + m) cap')) w') :
    if Region.wanted o (yielded ops a.tmps) = true then Oper.wp P o a w K Q else E := by
  refine step_append_own hgd s x t ho w0.heap.size e i z size bytes ht hi hz hsize hby hzs hsz v n xs hs hown ad m c news hx hl hnews h1 h63 hbytes hB.size (fun v' w' h2 h3 _ => ?_)
  obtain ⟨ao', cap', rfl⟩ := owns_shape h2
  exact h _ _ _ h2 (grown_bel hB hown h3) (fun p c t' fr ht hp => grown_blk hown h3 ht hp)

set_option maxHeartbeats 4000000 in
set_option maxRecDepth 100000 in
theorem WalkJoins_any (hC : PartsC) (n f t c : Int) (ao : Option Addr) (cap : Nat) (l : List Arc3) (w : World) (hG : GraphIn w ao cap l) (hreach : l.length * 24 ≤ 140737488351232) :
    Calls Try.prog 8 #[.agg #[.int .i64 n, .slice ao l.length cap], .agg #[.int .i64 f, .int .i64 t, .int .i64 c]] w fun e w' => e = .returned (.bool true) ∧ Below w.heap.size w w' := by
  have hm := hG.len
  have hG0 := (hG.alloc (.cells #[.int .i64 n, .slice ao l.length cap] 24)).alloc (.cells #[.int .i64 f, .int .i64 t, .int .i64 c] 44)
  have x0 := blk_old (blk_new w (.cells #[.int .i64 n, .slice ao l.length cap] 24)) (.cells #[.int .i64 f, .int .i64 t, .int .i64 c] 44)
  have y0 := blk_new (w.alloc (.cells #[.int .i64 n, .slice ao l.length cap] 24)) (.cells #[.int .i64 f, .int .i64 t, .int .i64 c] 44)
  rw [World.size_alloc] at y0
  have bb0 : Below w.heap.size w ((w.alloc (.cells #[.int .i64 n, .slice ao l.length cap] 24)).alloc (.cells #[.int .i64 f, .int .i64 t, .int .i64 c] 44)) := (below_one w _).alloc (by simp) _
  have h00 : ((0 : Int) != 0) = false := rfl
  have h00' : ((0 : Int) == 0) = true := rfl
  go_enter Try.func8, Try.ntmps8
  go_wp2_with fail
  refine (line_any _).mono ?_
  rintro e w1 ⟨hb1, ao1, cap1, rfl, hA1, hc1, hm1⟩
  have hz1 := hb1.size
  simp only [World.size_alloc] at hb1 hz1
  go_wp2_with fail
  refine (hC 3 ao1 cap1 lineL w1 (line_in hA1 hc1 hm1)).mono ?_
  rintro e w2 ⟨hb2, ao2, cap2, Q, rfl, hI2, _, hy2⟩
  have hQ := parts_line (hy2 (by decide))
  subst hQ
  rw [show graphErr 3 (-10000) lineL = 0 by decide]
  have hz2 := hb2.size
  have x2 := blk_below hb2 (blk_below hb1 x0 (by omega)) (by omega)
  have y2 := blk_below hb2 (blk_below hb1 y0 (by omega)) (by omega)
  have hG2 := (hG0.below hb1 (by simp)).below hb2 (by omega)
  have hbb2 := bb0.trans ((hb1.trans (hb2.mono (by omega))).mono (by omega))
  clear hb1 hb2 x0 y0 hG0 hA1 hy2 bb0
  go_wp2_with fail
  refine (equalIntsB ao2 _ cap2 3 [0, 0, 0] [0, 0, 0] _ (by decide) (by decide) (hI2.alloc _) (ints_new w2 [0, 0, 0] 3)).mono ?_
  rintro e w3 ⟨rfl, hb3⟩
  rw [decide_eq_true (rfl : ([0, 0, 0] : List Int) = [0, 0, 0])]
  have hz3 := hb3.size
  simp only [World.size_alloc] at hb3 hz3
  have x3 := blk_below hb3 (blk_old x2 _) (by omega)
  have y3 := blk_below hb3 (blk_old y2 _) (by omega)
  have hG3 := (hG2.alloc _).below hb3 (by simp)
  have hbb3 := hbb2.trans (((below_one w2 _).trans (hb3.mono (by omega))).mono (by omega))
  clear hb3 x2 y2 hG2 hbb2 hI2
  obtain ⟨r0, r1, f0, f1⟩ := blk2 x3
  go_wp2_with fail
  refine (hC n ao cap l w3 hG3).mono ?_
  rintro e w4 ⟨hb4, ao4, cap4, F, rfl, hF4, hn4, hy4⟩
  have hz4 := hb4.size
  have x4 := blk_below hb4 x3 (by omega)
  have y4 := blk_below hb4 y3 (by omega)
  have hG4 := hG3.below hb4 (by omega)
  have hbb4 := hbb3.trans (hb4.mono (by omega))
  have HY4 : Hid (graphErr n (-10000) l = 0 → PartsIs n.toNat l F) := hy4
  generalize he : graphErr n (-10000) l = ge at *
  have HE : Hid (graphErr n (-10000) l = ge) := he
  clear hb4 x3 y3 hG3 hbb3 hn4 hy4 r0 r1 f0 f1 he
  obtain ⟨r0, r1, f0, f1⟩ := blk2 x4
  go_wp2_with fail
  refine (Turn_graph n ao cap l w4 hG4).mono ?_
  rintro e w5 ⟨hb5, n', ao', cap', l', err, rfl, hT5, ht5⟩
  have hz5 := hb5.size
  have x5 := blk_old (blk_below hb5 x4 (by omega)) (.cells #[.int .i64 n', .slice ao' l'.length cap'] 24)
  have y5 := blk_old (blk_below hb5 y4 (by omega)) (.cells #[.int .i64 n', .slice ao' l'.length cap'] 24)
  have hG5 := (hG4.below hb5 (by omega)).alloc (.cells #[.int .i64 n', .slice ao' l'.length cap'] 24)
  have hF5 := (hF4.below hb5 (by omega)).alloc (.cells #[.int .i64 n', .slice ao' l'.length cap'] 24)
  have hT5 := hT5.alloc (.cells #[.int .i64 n', .slice ao' l'.length cap'] 24)
  have hbb5 := (hbb4.trans (hb5.mono (by omega))).alloc (by omega) (.cells #[.int .i64 n', .slice ao' l'.length cap'] 24)
  have z5 := blk_new w5 (.cells #[.int .i64 n', .slice ao' l'.length cap'] 24)
  have e5 : (w5.alloc (.cells #[.int .i64 n', .slice ao' l'.length cap'] 24)).heap.size = w5.heap.size + 1 := by simp
  have HT5 : Hid (graphErr n (-10000) l = 0 → n' = n ∧ l' = l.map turnA) := ht5
  clear hb5 x4 y4 hG4 hF4 hbb4 ht5 r0 r1 f0 f1
  obtain ⟨r0, r1, f0, f1⟩ := blk2 z5
  go_wp2_with fail
  refine (hC n' ao' cap' l' _ hT5).mono ?_
  rintro e w6 ⟨hb6, ao6, cap6, M, rfl, hM6, hn6, hy6⟩
  have hz6 := hb6.size
  rw [e5] at hb6 hz6
  have x6 := blk_below hb6 x5 (by omega)
  have y6 := blk_below hb6 y5 (by omega)
  have hG6 := hG5.below hb6 (by rw [e5]; omega)
  have hF6 := hF5.below hb6 (by rw [e5]; omega)
  have hbb6 := hbb5.trans (hb6.mono (by omega))
  have HY6 : Hid (graphErr n' (-10000) l' = 0 → PartsIs n'.toNat l' M) := hy6
  generalize he' : graphErr n' (-10000) l' = ge' at *
  have HE' : Hid (graphErr n' (-10000) l' = ge') := he'
  clear hb6 x5 y5 z5 hG5 hF5 hT5 hbb5 hn6 hy6 r0 r1 f0 f1 he' e5
  have hw6 : w.heap.size < w6.heap.size := by omega
  have hw6' : w.heap.size + 1 < w6.heap.size := by omega
  obtain ⟨r0, r1, f0, f1⟩ := blk2 x6
  obtain ⟨s0, s1, s2⟩ := blk3 y6
  go_wp2
  go_cut [13] (fun s wx => ∃ p ao' cap', s = .pointer (some ⟨p, 0, none⟩) ∧ wx.heap[p]? = some (.cells #[.int .i64 n, .slice ao' (l.length + 1) cap'] 24 (0, 0)) ∧ ArcsAt wx ao' (l ++ [(f, t, c)]) ∧ l.length + 1 ≤ cap' ∧ cap' ≤ maxLen ∧ Below w6.heap.size w6 wx)
  case first =>
    obtain ⟨i0, hi, hz0, hz1, hz2⟩ := info_parts infoArc
    have HA : Hid (ArcsAt w6 ao l) := hG6.arcs
    have HN : Hid (ao = none → l.length = 0 ∧ cap = 0) := hG6.nil
    have HR : Hid (l.length * 24 ≤ 140737488351232) := hreach
    have HO1 : Hid (∀ u ∈ [Value.int .i64 f, .int .i64 t, .int .i64 c], u.oneCell' = true) := by intro u hu; simp at hu; rcases hu with rfl | rfl | rfl <;> rfl
    have HK1 : Hid (l.length + 1 ≤ maxLen) := by rw [Hid]; unfold maxLen; omega
    have HK2 : Hid ((l.length + 1) * 24 ≤ 140737488355328) := by rw [Hid]; omega
    have hS : ∀ x : World, Below w6.heap.size w6 x → Below w6.heap.size w6 x ∧ x.cell? ⟨w.heap.size, 0, none⟩ = some (.int .i64 n) ∧ x.cell? ⟨w.heap.size, 1, none⟩ = some (.slice ao l.length cap) ∧ x.cell? ⟨w.heap.size + 1, 0, none⟩ = some (.int .i64 f) ∧ x.cell? ⟨w.heap.size + 1, 1, none⟩ = some (.int .i64 t) ∧ x.cell? ⟨w.heap.size + 1, 2, none⟩ = some (.int .i64 c) := fun x h => ⟨h, later h r0 hw6, later h r1 hw6, later h s0 hw6', later h s1 hw6', later h s2 hw6'⟩
    have HS : Hid (∀ x : World, Below w6.heap.size w6 x → Below w6.heap.size w6 x ∧ x.cell? ⟨w.heap.size, 0, none⟩ = some (.int .i64 n) ∧ x.cell? ⟨w.heap.size, 1, none⟩ = some (.slice ao l.length cap) ∧ x.cell? ⟨w.heap.size + 1, 0, none⟩ = some (.int .i64 f) ∧ x.cell? ⟨w.heap.size + 1, 1, none⟩ = some (.int .i64 t) ∧ x.cell? ⟨w.heap.size + 1, 2, none⟩ = some (.int .i64 c)) := hS
    clear hS hG6 hreach x6 y6 HE HE' HY4 HY6 HT5 hF6 hM6 hbb6 r0 r1 f0 f1 s0 s1 s2
    go_region_held3 (fun x => Below w6.heap.size w6 x ∧ x.cell? ⟨w.heap.size, 0, none⟩ = some (.int .i64 n) ∧ x.cell? ⟨w.heap.size, 1, none⟩ = some (.slice ao l.length cap) ∧ x.cell? ⟨w.heap.size + 1, 0, none⟩ = some (.int .i64 f) ∧ x.cell? ⟨w.heap.size + 1, 1, none⟩ = some (.int .i64 t) ∧ x.cell? ⟨w.heap.size + 1, 2, none⟩ = some (.int .i64 c))
      (first
        | exact HS.out _ ((Below.refl _ w6).drew)
        | exact HS.out _ (below_al (And.left (by assumption)) _)
        | assumption
        | exact HS.out _ (Below.setCell (Below.setCell (And.left (by assumption)) (by first | exact Nat.le_refl _ | exact hz7 | exact Nat.le_succ_of_le hz7 | exact Nat.le_succ _) _) (by first | exact Nat.le_refl _ | exact hz7 | exact Nat.le_succ_of_le hz7 | exact Nat.le_succ _) _))
      (first
        | (refine step_append_join (w0 := w6) rfl (.tmp 52) (.tmp 54) 22 rfl 44 i0 _ 3 24 Try.underlying22 hi hz0 hz1 hz2 rfl (by decide) (.slice ao7 l.length cap7) l.length (flat l) rfl (by first | with_reducible exact HO.out | with_reducible exact HO.out.alloc _ | with_reducible exact (HO.out.alloc _).alloc _) (by with_reducible exact And.left (by assumption)) ⟨w7.heap.size, 0, none⟩ 1 1 [.int .i64 f, .int .i64 t, .int .i64 c] rfl rfl (news3 (t := 44) (by first | with_reducible exact blk_new _ _ | with_reducible exact pre0 hb7 | with_reducible exact pre01 hb7 | with_reducible exact pre1 hb7 | with_reducible exact blk_old (pre0 hb7) _ | with_reducible exact blk_new1 | with_reducible exact blk_old (blk_new _ _) _)) HO1.out HK1.out HK2.out ?_; intro ao8 cap8 w8 hown8 hb8 hk8; have hs8 := HS.out w8 hb8; have hz8 := hb8.size; have HO8 : Hid (w8.ownsRow w6.heap.size 44 3 (.slice ao8 (l.length + 1) cap8) (l.length + 1) (flat l ++ [.int .i64 f, .int .i64 t, .int .i64 c])) := hown8; (try (have tA1 := hk8 (w6.heap.size) #[.int .i64 0, .slice none 0 0] 24 (0, 0) (by decide) (by first | with_reducible exact blk_new _ _ | with_reducible exact pre0 hb7 | with_reducible exact pre01 hb7 | with_reducible exact pre1 hb7 | with_reducible exact blk_old (pre0 hb7) _ | with_reducible exact blk_new1 | with_reducible exact blk_old (blk_new _ _) _); obtain ⟨b10, b11, b12, b13⟩ := blk2 tA1)); (try (have tA2 := hk8 (w6.heap.size + 1) #[.int .i64 0, .slice none 0 0] 24 (0, 0) (by decide) (by first | with_reducible exact blk_new _ _ | with_reducible exact pre0 hb7 | with_reducible exact pre01 hb7 | with_reducible exact pre1 hb7 | with_reducible exact blk_old (pre0 hb7) _ | with_reducible exact blk_new1 | with_reducible exact blk_old (blk_new _ _) _); obtain ⟨b20, b21, b22, b23⟩ := blk2 tA2)); (try (have tA3 := hk8 (w7.heap.size) #[.int .i64 0, .slice none 0 0] 24 (0, 0) (by decide) (by first | with_reducible exact blk_new _ _ | with_reducible exact pre0 hb7 | with_reducible exact pre01 hb7 | with_reducible exact pre1 hb7 | with_reducible exact blk_old (pre0 hb7) _ | with_reducible exact blk_new1 | with_reducible exact blk_old (blk_new _ _) _); obtain ⟨b30, b31, b32, b33⟩ := blk2 tA3)); (try (have tA4 := hk8 (w7.heap.size + 1) #[.int .i64 0, .slice none 0 0] 24 (0, 0) (by decide) (by first | with_reducible exact blk_new _ _ | with_reducible exact pre0 hb7 | with_reducible exact pre01 hb7 | with_reducible exact pre1 hb7 | with_reducible exact blk_old (pre0 hb7) _ | with_reducible exact blk_new1 | with_reducible exact blk_old (blk_new _ _) _); obtain ⟨b40, b41, b42, b43⟩ := blk2 tA4)); clear hown8 hk8)
        | (refine step_append_join (w0 := w6) rfl (.tmp 52) (.tmp 54) 22 rfl 44 i0 _ 3 24 Try.underlying22 hi hz0 hz1 hz2 rfl (by decide) (.slice ao7 l.length cap7) l.length (flat l) rfl (by first | with_reducible exact HO.out | with_reducible exact HO.out.alloc _ | with_reducible exact (HO.out.alloc _).alloc _) (by with_reducible exact And.left (by assumption)) ⟨w6.heap.size, 0, none⟩ 1 1 [.int .i64 f, .int .i64 t, .int .i64 c] rfl rfl (news3 (t := 44) (by first | with_reducible exact blk_new _ _ | with_reducible exact pre0 hb7 | with_reducible exact pre01 hb7 | with_reducible exact pre1 hb7 | with_reducible exact blk_old (pre0 hb7) _ | with_reducible exact blk_new1 | with_reducible exact blk_old (blk_new _ _) _)) HO1.out HK1.out HK2.out ?_; intro ao8 cap8 w8 hown8 hb8 hk8; have hs8 := HS.out w8 hb8; have hz8 := hb8.size; have HO8 : Hid (w8.ownsRow w6.heap.size 44 3 (.slice ao8 (l.length + 1) cap8) (l.length + 1) (flat l ++ [.int .i64 f, .int .i64 t, .int .i64 c])) := hown8; (try (have tA1 := hk8 (w6.heap.size) #[.int .i64 0, .slice none 0 0] 24 (0, 0) (by decide) (by first | with_reducible exact blk_new _ _ | with_reducible exact pre0 hb7 | with_reducible exact pre01 hb7 | with_reducible exact pre1 hb7 | with_reducible exact blk_old (pre0 hb7) _ | with_reducible exact blk_new1 | with_reducible exact blk_old (blk_new _ _) _); obtain ⟨b10, b11, b12, b13⟩ := blk2 tA1)); (try (have tA2 := hk8 (w6.heap.size + 1) #[.int .i64 0, .slice none 0 0] 24 (0, 0) (by decide) (by first | with_reducible exact blk_new _ _ | with_reducible exact pre0 hb7 | with_reducible exact pre01 hb7 | with_reducible exact pre1 hb7 | with_reducible exact blk_old (pre0 hb7) _ | with_reducible exact blk_new1 | with_reducible exact blk_old (blk_new _ _) _); obtain ⟨b20, b21, b22, b23⟩ := blk2 tA2)); (try (have tA3 := hk8 (w7.heap.size) #[.int .i64 0, .slice none 0 0] 24 (0, 0) (by decide) (by first | with_reducible exact blk_new _ _ | with_reducible exact pre0 hb7 | with_reducible exact pre01 hb7 | with_reducible exact pre1 hb7 | with_reducible exact blk_old (pre0 hb7) _ | with_reducible exact blk_new1 | with_reducible exact blk_old (blk_new _ _) _); obtain ⟨b30, b31, b32, b33⟩ := blk2 tA3)); (try (have tA4 := hk8 (w7.heap.size + 1) #[.int .i64 0, .slice none 0 0] 24 (0, 0) (by decide) (by first | with_reducible exact blk_new _ _ | with_reducible exact pre0 hb7 | with_reducible exact pre01 hb7 | with_reducible exact pre1 hb7 | with_reducible exact blk_old (pre0 hb7) _ | with_reducible exact blk_new1 | with_reducible exact blk_old (blk_new _ _) _); obtain ⟨b40, b41, b42, b43⟩ := blk2 tA4)); clear hown8 hk8)
        | (refine step_append_join (w0 := w6) rfl (.tmp 52) (.tmp 54) 22 rfl 44 i0 _ 3 24 Try.underlying22 hi hz0 hz1 hz2 rfl (by decide) (.slice ao7 l.length cap7) l.length (flat l) rfl (by first | with_reducible exact HO.out | with_reducible exact HO.out.alloc _ | with_reducible exact (HO.out.alloc _).alloc _) (by with_reducible exact And.left (by assumption)) ⟨w7.heap.size + 1, 0, none⟩ 1 1 [.int .i64 f, .int .i64 t, .int .i64 c] rfl rfl (news3 (t := 44) (by first | with_reducible exact blk_new _ _ | with_reducible exact pre0 hb7 | with_reducible exact pre01 hb7 | with_reducible exact pre1 hb7 | with_reducible exact blk_old (pre0 hb7) _ | with_reducible exact blk_new1 | with_reducible exact blk_old (blk_new _ _) _)) HO1.out HK1.out HK2.out ?_; intro ao8 cap8 w8 hown8 hb8 hk8; have hs8 := HS.out w8 hb8; have hz8 := hb8.size; have HO8 : Hid (w8.ownsRow w6.heap.size 44 3 (.slice ao8 (l.length + 1) cap8) (l.length + 1) (flat l ++ [.int .i64 f, .int .i64 t, .int .i64 c])) := hown8; (try (have tA1 := hk8 (w6.heap.size) #[.int .i64 0, .slice none 0 0] 24 (0, 0) (by decide) (by first | with_reducible exact blk_new _ _ | with_reducible exact pre0 hb7 | with_reducible exact pre01 hb7 | with_reducible exact pre1 hb7 | with_reducible exact blk_old (pre0 hb7) _ | with_reducible exact blk_new1 | with_reducible exact blk_old (blk_new _ _) _); obtain ⟨b10, b11, b12, b13⟩ := blk2 tA1)); (try (have tA2 := hk8 (w6.heap.size + 1) #[.int .i64 0, .slice none 0 0] 24 (0, 0) (by decide) (by first | with_reducible exact blk_new _ _ | with_reducible exact pre0 hb7 | with_reducible exact pre01 hb7 | with_reducible exact pre1 hb7 | with_reducible exact blk_old (pre0 hb7) _ | with_reducible exact blk_new1 | with_reducible exact blk_old (blk_new _ _) _); obtain ⟨b20, b21, b22, b23⟩ := blk2 tA2)); (try (have tA3 := hk8 (w7.heap.size) #[.int .i64 0, .slice none 0 0] 24 (0, 0) (by decide) (by first | with_reducible exact blk_new _ _ | with_reducible exact pre0 hb7 | with_reducible exact pre01 hb7 | with_reducible exact pre1 hb7 | with_reducible exact blk_old (pre0 hb7) _ | with_reducible exact blk_new1 | with_reducible exact blk_old (blk_new _ _) _); obtain ⟨b30, b31, b32, b33⟩ := blk2 tA3)); (try (have tA4 := hk8 (w7.heap.size + 1) #[.int .i64 0, .slice none 0 0] 24 (0, 0) (by decide) (by first | with_reducible exact blk_new _ _ | with_reducible exact pre0 hb7 | with_reducible exact pre01 hb7 | with_reducible exact pre1 hb7 | with_reducible exact blk_old (pre0 hb7) _ | with_reducible exact blk_new1 | with_reducible exact blk_old (blk_new _ _) _); obtain ⟨b40, b41, b42, b43⟩ := blk2 tA4)); clear hown8 hk8)
        | (refine step_append_join (w0 := w6) rfl (.tmp 52) (.tmp 54) 22 rfl 44 i0 _ 3 24 Try.underlying22 hi hz0 hz1 hz2 rfl (by decide) (.slice ao7 l.length cap7) l.length (flat l) rfl (by first | with_reducible exact HO.out | with_reducible exact HO.out.alloc _ | with_reducible exact (HO.out.alloc _).alloc _) (by with_reducible exact And.left (by assumption)) ⟨w6.heap.size + 1, 0, none⟩ 1 1 [.int .i64 f, .int .i64 t, .int .i64 c] rfl rfl (news3 (t := 44) (by first | with_reducible exact blk_new _ _ | with_reducible exact pre0 hb7 | with_reducible exact pre01 hb7 | with_reducible exact pre1 hb7 | with_reducible exact blk_old (pre0 hb7) _ | with_reducible exact blk_new1 | with_reducible exact blk_old (blk_new _ _) _)) HO1.out HK1.out HK2.out ?_; intro ao8 cap8 w8 hown8 hb8 hk8; have hs8 := HS.out w8 hb8; have hz8 := hb8.size; have HO8 : Hid (w8.ownsRow w6.heap.size 44 3 (.slice ao8 (l.length + 1) cap8) (l.length + 1) (flat l ++ [.int .i64 f, .int .i64 t, .int .i64 c])) := hown8; (try (have tA1 := hk8 (w6.heap.size) #[.int .i64 0, .slice none 0 0] 24 (0, 0) (by decide) (by first | with_reducible exact blk_new _ _ | with_reducible exact pre0 hb7 | with_reducible exact pre01 hb7 | with_reducible exact pre1 hb7 | with_reducible exact blk_old (pre0 hb7) _ | with_reducible exact blk_new1 | with_reducible exact blk_old (blk_new _ _) _); obtain ⟨b10, b11, b12, b13⟩ := blk2 tA1)); (try (have tA2 := hk8 (w6.heap.size + 1) #[.int .i64 0, .slice none 0 0] 24 (0, 0) (by decide) (by first | with_reducible exact blk_new _ _ | with_reducible exact pre0 hb7 | with_reducible exact pre01 hb7 | with_reducible exact pre1 hb7 | with_reducible exact blk_old (pre0 hb7) _ | with_reducible exact blk_new1 | with_reducible exact blk_old (blk_new _ _) _); obtain ⟨b20, b21, b22, b23⟩ := blk2 tA2)); (try (have tA3 := hk8 (w7.heap.size) #[.int .i64 0, .slice none 0 0] 24 (0, 0) (by decide) (by first | with_reducible exact blk_new _ _ | with_reducible exact pre0 hb7 | with_reducible exact pre01 hb7 | with_reducible exact pre1 hb7 | with_reducible exact blk_old (pre0 hb7) _ | with_reducible exact blk_new1 | with_reducible exact blk_old (blk_new _ _) _); obtain ⟨b30, b31, b32, b33⟩ := blk2 tA3)); (try (have tA4 := hk8 (w7.heap.size + 1) #[.int .i64 0, .slice none 0 0] 24 (0, 0) (by decide) (by first | with_reducible exact blk_new _ _ | with_reducible exact pre0 hb7 | with_reducible exact pre01 hb7 | with_reducible exact pre1 hb7 | with_reducible exact blk_old (pre0 hb7) _ | with_reducible exact blk_new1 | with_reducible exact blk_old (blk_new _ _) _); obtain ⟨b40, b41, b42, b43⟩ := blk2 tA4)); clear hown8 hk8)
        | (go_at_call 23; refine (clone_own ao cap l _ (HA.out.below (And.left (by assumption)) (Nat.le_refl _)) HN.out HR.out).mono ?_; rintro e w7 ⟨hb7, v, rfl, hown⟩; obtain ⟨ao7, cap7, rfl, _, _, _, _⟩ := owns_arcs hown; have hs7 := HS.out w7 (below_tr (And.left (by assumption)) hb7); have hz7 := hs7.1.size; have HO : Hid (w7.ownsRow w6.heap.size 44 3 (.slice ao7 l.length cap7) l.length (flat l)) := owns_weaken hown (Below.size (And.left (by assumption))); clear hown))
    all_goals
      have HAr : ∃ x y, (Value.slice ao8 (l.length + 1) cap8) = .slice x (l ++ [(f, t, c)]).length y ∧ ArcsAt w8 x (l ++ [(f, t, c)]) ∧ (l ++ [(f, t, c)]).length ≤ y ∧ y ≤ maxLen := by
        have h := HO8.out
        have e : flat l ++ [.int .i64 f, .int .i64 t, .int .i64 c] = flat (l ++ [(f, t, c)]) := by rw [flat_append]; rfl
        have e2 : (l ++ [(f, t, c)]).length = l.length + 1 := by simp
        rw [e, ← e2] at h
        obtain ⟨x, y, h1, h2, _, h3, h4⟩ := owns_arcs h
        rw [e2] at h1
        exact ⟨x, y, by rw [e2]; exact h1, h2, h3, h4⟩
      obtain ⟨x, y, exy, hAr, hc8, hm8⟩ := HAr
      rw [List.length_append] at exy hc8
      simp only [List.length_cons, List.length_nil, Nat.zero_add, Value.slice.injEq, true_and] at exy hc8
      obtain ⟨rfl, rfl⟩ := exy
      have HAx : Hid (ArcsAt w8 ao8 (l ++ [(f, t, c)])) := hAr
      clear hAr
      go_wp2_with fail
      go_meet
      case rel =>
        first
        | exact ⟨w8.heap.size, ao8, cap8, rfl, blk_new _ _, HAx.out.alloc _, hc8, hm8, below_al hs8.1 _⟩
        | exact ⟨_, ao8, cap8, rfl, blk2_set tA1 _ _, (HAx.out.setElse (owns_ne' HO8.out tA1 (by decide)) _).setElse (owns_ne' HO8.out tA1 (by decide)) _, hc8, hm8, Below.setCell (Below.setCell hs8.1 (by first | exact Nat.le_refl _ | exact hz7 | exact Nat.le_succ_of_le hz7 | exact Nat.le_succ _) _) (by first | exact Nat.le_refl _ | exact hz7 | exact Nat.le_succ_of_le hz7 | exact Nat.le_succ _) _⟩
        | exact ⟨_, ao8, cap8, rfl, blk2_set tA2 _ _, (HAx.out.setElse (owns_ne' HO8.out tA2 (by decide)) _).setElse (owns_ne' HO8.out tA2 (by decide)) _, hc8, hm8, Below.setCell (Below.setCell hs8.1 (by first | exact Nat.le_refl _ | exact hz7 | exact Nat.le_succ_of_le hz7 | exact Nat.le_succ _) _) (by first | exact Nat.le_refl _ | exact hz7 | exact Nat.le_succ_of_le hz7 | exact Nat.le_succ _) _⟩
        | exact ⟨_, ao8, cap8, rfl, blk2_set tA3 _ _, (HAx.out.setElse (owns_ne' HO8.out tA3 (by decide)) _).setElse (owns_ne' HO8.out tA3 (by decide)) _, hc8, hm8, Below.setCell (Below.setCell hs8.1 (by first | exact Nat.le_refl _ | exact hz7 | exact Nat.le_succ_of_le hz7 | exact Nat.le_succ _) _) (by first | exact Nat.le_refl _ | exact hz7 | exact Nat.le_succ_of_le hz7 | exact Nat.le_succ _) _⟩
        | exact ⟨_, ao8, cap8, rfl, blk2_set tA4 _ _, (HAx.out.setElse (owns_ne' HO8.out tA4 (by decide)) _).setElse (owns_ne' HO8.out tA4 (by decide)) _, hc8, hm8, Below.setCell (Below.setCell hs8.1 (by first | exact Nat.le_refl _ | exact hz7 | exact Nat.le_succ_of_le hz7 | exact Nat.le_succ _) _) (by first | exact Nat.le_refl _ | exact hz7 | exact Nat.le_succ_of_le hz7 | exact Nat.le_succ _) _⟩
  case rest =>
    obtain ⟨p, ao7, cap7, rfl, hp, hA7, hc7, hm7, hbW⟩ := hcut
    have hzc := hbW.size
    have x7 := blk_below hbW x6 hw6
    have y7 := blk_below hbW y6 hw6'
    have hF7 := hF6.below hbW (Nat.le_refl _)
    have hM7 := hM6.below hbW (Nat.le_refl _)
    have hbb7 := hbb6.trans (hbW.mono (by omega))
    have hpl : p < wc.heap.size := (Array.getElem?_eq_some_iff.1 hp).1
    have hG7 : GraphIn wc ao7 cap7 (l ++ [(f, t, c)]) := ⟨hA7, by simpa using hc7, hm7, fun e => by
      obtain ⟨b, off, e', _⟩ := hA7 0 (by simp)
      rw [e] at e'; cases e'⟩
    have hF8 := hC n ao7 cap7 (l ++ [(f, t, c)]) wc hG7
    rw [List.length_append] at hF8
    have HC8 := hF8
    simp only [List.length_cons, List.length_nil, Nat.zero_add] at HC8
    clear hF8 hbW x6 y6 hF6 hM6 hbb6 hG6 hG7 r0 r1 f0 f1 s0 s1 s2 hA7
    obtain ⟨r0, r1, f0, f1⟩ := blk2 hp
    go_wp2_with fail
    refine HC8.mono ?_
    clear HC8
    rintro e w8 ⟨hb8, ao8, cap8, K, rfl, hK8, hn8, hy8⟩
    have hz8 := hb8.size
    have x8 := blk_below hb8 x7 (by omega)
    have y8 := blk_below hb8 y7 (by omega)
    have hF8 := hF7.below hb8 (by omega)
    have hM8 := hM7.below hb8 (by omega)
    have hbb8 := hbb7.trans (hb8.mono (by omega))
    have HY8 : Hid (graphErr n (-10000) (l ++ [(f, t, c)]) = 0 → PartsIs n.toNat (l ++ [(f, t, c)]) K) := hy8
    generalize hi : graphErr n (-10000) (l ++ [(f, t, c)]) = gi at *
    have HI : Hid (graphErr n (-10000) (l ++ [(f, t, c)]) = gi) := hi
    clear hb8 x7 y7 hp hF7 hM7 hbb7 hn8 hy8 r0 r1 f0 f1 hi
    obtain ⟨r0, r1, f0, f1⟩ := blk2 x8
    obtain ⟨s0, s1, s2⟩ := blk3 y8
    have hw8 : w.heap.size < w8.heap.size := by omega
    have hw8' : w.heap.size + 1 < w8.heap.size := by omega
    by_cases g0 : ge = 0
    · subst g0
      obtain ⟨rfl, rfl⟩ := HT5.out HE.out
      have ge0 : ge' = 0 := HE'.out.symm.trans (turn_err' HE.out)
      subst ge0
      obtain ⟨⟨hn1, hn2⟩, hlen, hnodes⟩ := err_ok HE.out
      obtain ⟨N, rfl⟩ := Int.eq_ofNat_of_zero_le (show 0 ≤ n' by omega)
      have hPF := HY4.out rfl
      have hPM := HY6.out rfl
      rw [Int.toNat_natCast] at hPF hPM
      have hFM := hPF.unique hPM.turn
      subst hFM
      have HPF : Hid (PartsIs N l F) := hPF
      have HFl : Hid (F.length = N) := hPF.len
      have hEq := equalIntsB ao4 ao6 cap4 cap6 F F w8 (by rw [HFl.out]; unfold maxLen; omega) (by rw [HFl.out]; unfold maxLen; omega) hF8 hM8
      rw [decide_eq_true rfl, HFl.out] at hEq
      have HEq : Hid (Calls Try.prog 13 #[.slice ao4 N cap4, .slice ao6 N cap6] w8 fun e w' => e = .returned (.bool true) ∧ Below w8.heap.size w8 w') := hEq
      rw [HFl.out]
      clear hEq hPM hPF hnodes HY4 HY6 HT5 HE'
      by_cases gi0 : gi = 0
      · subst gi0
        obtain ⟨⟨hf0, hf1⟩, ht0, ht1⟩ := err_snoc HI.out
        obtain ⟨f, rfl⟩ := Int.eq_ofNat_of_zero_le hf0
        obtain ⟨t, rfl⟩ := Int.eq_ofNat_of_zero_le ht0
        have hfN : f < N := by omega
        have htN : t < N := by omega
        have hPK := HY8.out rfl
        rw [Int.toNat_natCast] at hPK
        have HMore : Hid (∀ v, v < N → ati K v = if ati F v = max (ati F f) (ati F t) then min (ati F f) (ati F t) else ati F v) := fun v hv => parts_more HPF.out hPK hfN htN hv
        have HKl : Hid (K.length = N) := hPK.len
        have HK8 : Hid (∀ v, v < N → ∃ b off, ao8 = some ⟨b, off, none⟩ ∧ b < w8.heap.size ∧ w8.cell? ⟨b, off + v, none⟩ = some (.int .i64 (ati K v))) := fun v hv => hK8 v (by rw [HKl.out]; exact hv)
        have HF8 : Hid (∀ v, v < N → ∃ b off, ao4 = some ⟨b, off, none⟩ ∧ b < w8.heap.size ∧ w8.cell? ⟨b, off + v, none⟩ = some (.int .i64 (ati F v))) := fun v hv => hF8 v (by rw [HFl.out]; exact hv)
        rw [HKl.out]
        have hNN : ((N : Int) != (N : Int)) = false := by simp
        clear hPK HY8 hK8 hF8 hM8
        go_wp2_with fail
        refine Calls.mono HEq.out ?_
        rintro e w9 ⟨rfl, hb9⟩
        have hz9 := hb9.size
        have x9 := blk_below hb9 x8 (by omega)
        have y9 := blk_below hb9 y8 (by omega)
        have hbb9 := hbb8.trans (hb9.mono (by omega))
        have HF9 : Hid (∀ v, v < N → ∃ b off, ao4 = some ⟨b, off, none⟩ ∧ b < w9.heap.size ∧ w9.cell? ⟨b, off + v, none⟩ = some (.int .i64 (ati F v))) := fun v hv => by
          obtain ⟨b, off, e, hb, hc⟩ := HF8.out v hv
          exact ⟨b, off, e, by omega, later hb9 hc hb⟩
        have HK9 : Hid (∀ v, v < N → ∃ b off, ao8 = some ⟨b, off, none⟩ ∧ b < w9.heap.size ∧ w9.cell? ⟨b, off + v, none⟩ = some (.int .i64 (ati K v))) := fun v hv => by
          obtain ⟨b, off, e, hb, hc⟩ := HK8.out v hv
          exact ⟨b, off, e, by omega, later hb9 hc hb⟩
        clear hb9 HF8 HK8 HEq x8 y8 hbb8 r0 r1 f0 f1 s0 s1 s2
        obtain ⟨r0, r1, f0, f1⟩ := blk2 x9
        obtain ⟨s0, s1, s2⟩ := blk3 y9
        have hw9 : w.heap.size < w9.heap.size := by omega
        have hw9' : w.heap.size + 1 < w9.heap.size := by omega
        obtain ⟨bF, oF, rfl, hbF, cf⟩ := HF9.out f hfN
        obtain ⟨b', o', e', _, ct⟩ := HF9.out t htN
        cases e'
        obtain ⟨a, ea⟩ : ∃ a, ati F f = a := ⟨_, rfl⟩
        obtain ⟨b, eb⟩ : ∃ b, ati F t = b := ⟨_, rfl⟩
        rw [ea] at cf HMore
        rw [eb] at ct HMore
        clear ea eb x9 y9
        rcases Int.lt_trichotomy a b with hab | hab | hab
        · rw [Int.max_eq_right (by omega), Int.min_eq_left (by omega)] at HMore
          have hab' : ¬ b < a := by omega
          go_wp2
          go_quiet (fail)
          go_wp2
          go_loopw [125] (fun i wr => ∃ v : Nat, v ≤ N ∧ i = .int .i64 v ∧ Below w9.heap.size w9 wr) (fun i _ => N - (intOf i).toNat)
          case atStart => exact ⟨0, Nat.zero_le _, rfl, below_drewN (Below.refl _ _) _⟩
          case round =>
            obtain ⟨v, hv, rfl, hB⟩ := hrel
            have hz := hB.size
            by_cases hvN : v < N
            · obtain ⟨b1, o1, e1, hb1, c1⟩ := HF9.out v hvN
              cases e1
              have c1 := later hB c1 hb1
              obtain ⟨b2, o2, rfl, hb2, c2⟩ := HK9.out v hvN
              have c2 := later hB c2 hb2
              rw [HMore.out v hvN] at c2
              generalize ati F v = z at *
              have hb1' : bF < wr.heap.size := by omega
              have hb2' : b2 < wr.heap.size := by omega
              by_cases hzy : z = b
              · rw [if_pos hzy] at c2
                subst hzy
                have hxx : (a != a) = false := by simp
                have hzz : (z == z) = true := by simp
                go_wp2
                go_roundw
                case rel => exact ⟨v + 1, by omega, by go_num, hB⟩
                case measure => simp [intOf]; omega
              · rw [if_neg hzy] at c2
                have hzz : (z == b) = false := by simpa using hzy
                have hxx : (z != z) = false := by simp
                go_wp2
                go_roundw
                case rel => exact ⟨v + 1, by omega, by go_num, hB⟩
                case measure => simp [intOf]; omega
            · have hvv : N = v := by omega
              subst hvv
              have hbb10 := hbb9.trans (hB.mono (by omega))
              go_wp2
              go_ret
              exact ⟨rfl, hbb10⟩
        · subst hab
          rw [Int.max_self, Int.min_self] at HMore
          go_wp2
          go_quiet (fail)
          go_wp2
          go_loopw [125] (fun i wr => ∃ v : Nat, v ≤ N ∧ i = .int .i64 v ∧ Below w9.heap.size w9 wr) (fun i _ => N - (intOf i).toNat)
          case atStart => exact ⟨0, Nat.zero_le _, rfl, below_drewN (Below.refl _ _) _⟩
          case round =>
            obtain ⟨v, hv, rfl, hB⟩ := hrel
            have hz := hB.size
            by_cases hvN : v < N
            · obtain ⟨b1, o1, e1, hb1, c1⟩ := HF9.out v hvN
              cases e1
              have c1 := later hB c1 hb1
              obtain ⟨b2, o2, rfl, hb2, c2⟩ := HK9.out v hvN
              have c2 := later hB c2 hb2
              rw [HMore.out v hvN] at c2
              generalize ati F v = z at *
              have hb1' : bF < wr.heap.size := by omega
              have hb2' : b2 < wr.heap.size := by omega
              by_cases hzy : z = a
              · rw [if_pos hzy] at c2
                subst hzy
                have hxx : (z != z) = false := by simp
                have hzz : (z == z) = true := by simp
                go_wp2
                go_roundw
                case rel => exact ⟨v + 1, by omega, by go_num, hB⟩
                case measure => simp [intOf]; omega
              · rw [if_neg hzy] at c2
                have hzz : (z == a) = false := by simpa using hzy
                have hxx : (z != z) = false := by simp
                go_wp2
                go_roundw
                case rel => exact ⟨v + 1, by omega, by go_num, hB⟩
                case measure => simp [intOf]; omega
            · have hvv : N = v := by omega
              subst hvv
              have hbb10 := hbb9.trans (hB.mono (by omega))
              go_wp2
              go_ret
              exact ⟨rfl, hbb10⟩
        · rw [Int.max_eq_left (by omega), Int.min_eq_right (by omega)] at HMore
          have hab' : ¬ a < b := by omega
          go_wp2
          go_quiet (fail)
          go_wp2
          go_loopw [125] (fun i wr => ∃ v : Nat, v ≤ N ∧ i = .int .i64 v ∧ Below w9.heap.size w9 wr) (fun i _ => N - (intOf i).toNat)
          case atStart => exact ⟨0, Nat.zero_le _, rfl, below_drewN (Below.refl _ _) _⟩
          case round =>
            obtain ⟨v, hv, rfl, hB⟩ := hrel
            have hz := hB.size
            by_cases hvN : v < N
            · obtain ⟨b1, o1, e1, hb1, c1⟩ := HF9.out v hvN
              cases e1
              have c1 := later hB c1 hb1
              obtain ⟨b2, o2, rfl, hb2, c2⟩ := HK9.out v hvN
              have c2 := later hB c2 hb2
              rw [HMore.out v hvN] at c2
              generalize ati F v = z at *
              have hb1' : bF < wr.heap.size := by omega
              have hb2' : b2 < wr.heap.size := by omega
              by_cases hzy : z = a
              · rw [if_pos hzy] at c2
                subst hzy
                have hxx : (b != b) = false := by simp
                have hzz : (z == z) = true := by simp
                go_wp2
                go_roundw
                case rel => exact ⟨v + 1, by omega, by go_num, hB⟩
                case measure => simp [intOf]; omega
              · rw [if_neg hzy] at c2
                have hzz : (z == a) = false := by simpa using hzy
                have hxx : (z != z) = false := by simp
                go_wp2
                go_roundw
                case rel => exact ⟨v + 1, by omega, by go_num, hB⟩
                case measure => simp [intOf]; omega
            · have hvv : N = v := by omega
              subst hvv
              have hbb10 := hbb9.trans (hB.mono (by omega))
              go_wp2
              go_ret
              exact ⟨rfl, hbb10⟩
      · have gi0' : (gi != 0) = true := by simpa using gi0
        clear HY8
        go_wp2_with fail
        refine Calls.mono HEq.out ?_
        rintro e w9 ⟨rfl, hb9⟩
        have hbb9 := hbb8.trans (hb9.mono (by omega))
        clear hb9
        go_wp2
        go_ret
        exact ⟨rfl, hbb9⟩
    · have g0' : (ge != 0) = true := by simpa using g0
      clear HY4 HY6 HY8 HT5
      go_wp2
      go_ret
      exact ⟨rfl, hbb8⟩

end Go.Proofs.Ytbnagipapgonpaa
