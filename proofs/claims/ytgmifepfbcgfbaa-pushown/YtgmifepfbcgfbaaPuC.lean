/- What the laws ask of package push, said as contracts: New, Send, Lift, Busy, Check, of what is right. -/
import Derived.Test.YtgmifepfbcgfbaaPuW
import Derived.Test.YtgmifepfbcgfbaaFlowC
import Derived.Test.YtgmifepfbcgfbaaOwnA
import Derived.Test.YtgmifepfbcgfbaaOwnIs
import Derived.Test.YtgmifepfbcgfbaaOnly
import Derived.Deep.WholeRow
import Derived.Laws.Rows
namespace Go.Proofs.Ytgmifepfbcgfbaa
open Go.RowKit
set_option linter.unusedVariables false

/-- an argument that is a Push -/
structure PushIn (w : World) (ao : Option Addr) (cap : Nat) (l : List Arc3) (af : Option Addr) (cf : Nat) (f : List Int) (ah : Option Addr) (ch : Nat) (h : List Int) : Prop where
  arcs : GraphIn w ao cap l
  flow : IntsIn w af cf f
  hgt : IntsIn w ah ch h
theorem PushIn.below {B : Nat} {w w' : World} {ao af ah : Option Addr} {cap cf ch : Nat} {l : List Arc3} {f h : List Int} (H : PushIn w ao cap l af cf f ah ch h) (hb : Below B w w') (hB : w.heap.size ≤ B) : PushIn w' ao cap l af cf f ah ch h :=
  ⟨H.arcs.below hb hB, H.flow.below hb hB, H.hgt.below hb hB⟩
theorem PushIn.alloc {w : World} {ao af ah : Option Addr} {cap cf ch : Nat} {l : List Arc3} {f h : List Int} (H : PushIn w ao cap l af cf f ah ch h) (o : Obj) : PushIn (w.alloc o) ao cap l af cf f ah ch h :=
  ⟨H.arcs.alloc o, H.flow.alloc o, H.hgt.alloc o⟩
/-- a Push in memory of the call's own -/
structure PushNew (w : World) (B : Nat) (ao : Option Addr) (cap : Nat) (l : List Arc3) (af : Option Addr) (cf : Nat) (f : List Int) (ah : Option Addr) (ch : Nat) (h : List Int) : Prop where
  arcs : OwnA w B ao cap l
  flow : OwnIs w B af cf f
  hgt : OwnIs w B ah ch h
  apart : ∀ g o g' o', af = some ⟨g, o, none⟩ → ah = some ⟨g', o', none⟩ → g ≠ g'
theorem PushNew.arg {w : World} {B : Nat} {ao af ah : Option Addr} {cap cf ch : Nat} {l : List Arc3} {f h : List Int} (H : PushNew w B ao cap l af cf f ah ch h) : PushIn w ao cap l af cf f ah ch h :=
  ⟨H.arcs.graph, H.flow.arg, H.hgt.arg⟩
theorem OwnA.from {w : World} {B : Nat} {ao : Option Addr} {cap : Nat} {l : List Arc3} (h : OwnA w B ao cap l) : ∀ b off, ao = some ⟨b, off, none⟩ → B ≤ b := by
  intro b off e
  rcases h with ⟨h, _⟩ | ⟨g, _, h, hB, _⟩
  · rw [h] at e; cases e
  · rw [h] at e; cases e; exact hB
theorem OwnIs.from {w : World} {B : Nat} {ao : Option Addr} {cap : Nat} {l : List Int} (h : OwnIs w B ao cap l) : ∀ b off, ao = some ⟨b, off, none⟩ → B ≤ b := by
  intro b off e
  rcases h with ⟨h, _⟩ | ⟨g, h, hB, _⟩
  · rw [h] at e; cases e
  · rw [h] at e; cases e; exact hB

theorem OwnA.ltB {w : World} {B : Nat} {ao : Option Addr} {cap : Nat} {l : List Arc3} (h : OwnA w B ao cap l) : ∀ b off, ao = some ⟨b, off, none⟩ → b < w.heap.size := by
  intro b off e
  rcases h with ⟨h, _⟩ | ⟨g, _, h, _, _, _, hr, _⟩
  · rw [h] at e; cases e
  · rw [h] at e; cases e; exact hr.lt
theorem OwnIs.ltB {w : World} {B : Nat} {ao : Option Addr} {cap : Nat} {l : List Int} (h : OwnIs w B ao cap l) : ∀ b off, ao = some ⟨b, off, none⟩ → b < w.heap.size := by
  intro b off e
  rcases h with ⟨h, _⟩ | ⟨g, h, _, _, hO⟩
  · rw [h] at e; cases e
  · rw [h] at e; cases e; exact hO.lt

theorem PushNew.from_ {w : World} {B C : Nat} {ao af ah : Option Addr} {cap cf ch : Nat} {l : List Arc3} {f h : List Int} (H : PushNew w B ao cap l af cf f ah ch h) (hC : C ≤ B) : PushNew w C ao cap l af cf f ah ch h :=
  ⟨H.arcs.imp id fun ⟨g, f, e, hB, r⟩ => ⟨g, f, e, Nat.le_trans hC hB, r⟩, H.flow.imp id fun ⟨g, e, hB, r⟩ => ⟨g, e, Nat.le_trans hC hB, r⟩, H.hgt.imp id fun ⟨g, e, hB, r⟩ => ⟨g, e, Nat.le_trans hC hB, r⟩, H.apart⟩

def PCheckC : Prop := ∀ (N s t : Nat) (ao af ah : Option Addr) (cap cf ch : Nat) (l : List Arc3) (f h : List Int) (w : World), PushOk N s t l f h → PushIn w ao cap l af cf f ah ch h →
  Calls Try.prog 9 #[.agg #[.int .i64 (N : Int), .int .i64 (s : Int), .int .i64 (t : Int), .slice ao l.length cap, .slice af f.length cf, .slice ah h.length ch]] w fun e w' => Below w.heap.size w w' ∧ e = .returned (.int .i64 0)
def PNewC : Prop := ∀ (n s t : Int) (ao : Option Addr) (cap : Nat) (l : List Arc3) (w : World), GraphIn w ao cap l →
  Calls Try.prog 20 #[.agg #[.int .i64 n, .int .i64 s, .int .i64 t, .slice ao l.length cap]] w fun e w' => Below w.heap.size w w' ∧
    ∃ n' s' t' a1 c1 L a2 c2 F a3 c3 H, e = .returned (.tuple #[.agg #[.int .i64 n', .int .i64 s', .int .i64 t', .slice a1 (L : List Arc3).length c1, .slice a2 (F : List Int).length c2, .slice a3 (H : List Int).length c3], .int .i64 (netErr n s t l)]) ∧
      PushNew w' w.heap.size a1 c1 L a2 c2 F a3 c3 H ∧ (netErr n s t l = 0 → n' = n ∧ s' = s ∧ t' = t ∧ L = l ∧ F = newF s.toNat l ∧ H = newH n.toNat s.toNat)
def PSendC : Prop := ∀ (N s t : Nat) (k : Int) (b : Bool) (ao af ah : Option Addr) (cap cf ch : Nat) (l : List Arc3) (f h : List Int) (w : World), PushOk N s t l f h → PushIn w ao cap l af cf f ah ch h →
  Calls Try.prog 12 #[.agg #[.int .i64 (N : Int), .int .i64 (s : Int), .int .i64 (t : Int), .slice ao l.length cap, .slice af f.length cf, .slice ah h.length ch], .int .i64 k, .bool b] w fun e w' => Below w.heap.size w w' ∧
    ∃ E n' s' t' a1 c1 L a2 c2 F a3 c3 H, e = .returned (.tuple #[.agg #[.int .i64 n', .int .i64 s', .int .i64 t', .slice a1 (L : List Arc3).length c1, .slice a2 (F : List Int).length c2, .slice a3 (H : List Int).length c3], .int .i64 E]) ∧
      PushNew w' w.heap.size a1 c1 L a2 c2 F a3 c3 H ∧ (E = 0 ↔ 0 ≤ k ∧ CanSend s t l f h k.toNat b) ∧
      (E = 0 → n' = N ∧ s' = s ∧ t' = t ∧ L = l ∧ F = sentF f k.toNat b (amtN l f k.toNat b) ∧ H = h)
def PLiftC : Prop := ∀ (N s t : Nat) (v : Int) (ao af ah : Option Addr) (cap cf ch : Nat) (l : List Arc3) (f h : List Int) (w : World), PushOk N s t l f h → PushIn w ao cap l af cf f ah ch h →
  Calls Try.prog 11 #[.agg #[.int .i64 (N : Int), .int .i64 (s : Int), .int .i64 (t : Int), .slice ao l.length cap, .slice af f.length cf, .slice ah h.length ch], .int .i64 v] w fun e w' => Below w.heap.size w w' ∧
    ∃ E n' s' t' a1 c1 L a2 c2 F a3 c3 H, e = .returned (.tuple #[.agg #[.int .i64 n', .int .i64 s', .int .i64 t', .slice a1 (L : List Arc3).length c1, .slice a2 (F : List Int).length c2, .slice a3 (H : List Int).length c3], .int .i64 E]) ∧
      PushNew w' w.heap.size a1 c1 L a2 c2 F a3 c3 H ∧ (E = 0 ↔ 0 ≤ v ∧ ∃ x, CanLift N s t l f h v.toNat x) ∧
      (∀ x, 0 ≤ v → CanLift N s t l f h v.toNat x → n' = N ∧ s' = s ∧ t' = t ∧ L = l ∧ F = f ∧ H = h.set v.toNat x)
def PBusyC : Prop := ∀ (N s t : Nat) (ao af ah : Option Addr) (cap cf ch : Nat) (l : List Arc3) (f h : List Int) (w : World), PushOk N s t l f h → PushIn w ao cap l af cf f ah ch h →
  Calls Try.prog 10 #[.agg #[.int .i64 (N : Int), .int .i64 (s : Int), .int .i64 (t : Int), .slice ao l.length cap, .slice af f.length cf, .slice ah h.length ch]] w fun e w' => Below w.heap.size w w' ∧
    ∃ a1 c1 B, e = .returned (.tuple #[.slice a1 (B : List Int).length c1, .int .i64 0]) ∧ IntsIn w' a1 c1 B ∧ (∀ x ∈ B, ∃ v : Nat, x = v ∧ v < N ∧ BusyN s t l f v) ∧ ∀ v : Nat, v < N → BusyN s t l f v → (v : Int) ∈ B

/-! ### Step by step -/

theorem lift_unique {l : List Arc3} {f h : List Int} {v : Nat} {x y : Int} (hx : LiftIs l f h v x) (hy : LiftIs l f h v y) : x = y := by
  obtain ⟨u, h1, h2⟩ := hx.some
  obtain ⟨u', h3, h4⟩ := hy.some
  have h5 := hx.least u' h3
  have h6 := hy.least u h1
  omega
open Classical in
/-- one step that is asked for -/
noncomputable def stepP (N s t : Nat) (l : List Arc3) (p : List Int × List Int) (r : Nat) : List Int × List Int :=
  if r < 2 * l.length then if CanSend s t l p.1 p.2 (r / 2) (decide (r % 2 = 1)) then (sentF p.1 (r / 2) (decide (r % 2 = 1)) (amtN l p.1 (r / 2) (decide (r % 2 = 1))), p.2) else p
  else if h : ∃ x, CanLift N s t l p.1 p.2 (r - 2 * l.length) x then (p.1, p.2.set (r - 2 * l.length) (Classical.choose h)) else p
theorem step_send {N s t : Nat} {l : List Arc3} {f h : List Int} {r : Nat} (hr : r < 2 * l.length) (C : CanSend s t l f h (r / 2) (decide (r % 2 = 1))) : stepP N s t l (f, h) r = (sentF f (r / 2) (decide (r % 2 = 1)) (amtN l f (r / 2) (decide (r % 2 = 1))), h) := by
  unfold stepP; rw [if_pos hr, if_pos C]
theorem step_send_no {N s t : Nat} {l : List Arc3} {f h : List Int} {r : Nat} (hr : r < 2 * l.length) (C : ¬ CanSend s t l f h (r / 2) (decide (r % 2 = 1))) : stepP N s t l (f, h) r = (f, h) := by
  unfold stepP; rw [if_pos hr, if_neg C]
theorem step_lift {N s t : Nat} {l : List Arc3} {f h : List Int} {r : Nat} (hr : ¬ r < 2 * l.length) {x : Int} (C : CanLift N s t l f h (r - 2 * l.length) x) : stepP N s t l (f, h) r = (f, h.set (r - 2 * l.length) x) := by
  have hex : ∃ x, CanLift N s t l f h (r - 2 * l.length) x := ⟨x, C⟩
  unfold stepP
  rw [if_neg hr, dif_pos hex, lift_unique (Classical.choose_spec hex).way C.way]
theorem step_lift_no {N s t : Nat} {l : List Arc3} {f h : List Int} {r : Nat} (hr : ¬ r < 2 * l.length) (C : ¬ ∃ x, CanLift N s t l f h (r - 2 * l.length) x) : stepP N s t l (f, h) r = (f, h) := by
  unfold stepP; rw [if_neg hr, dif_neg C]
theorem step_reach {N s t : Nat} {l : List Arc3} {f h : List Int} (H : Reach N s t l f h) (r : Nat) : Reach N s t l (stepP N s t l (f, h) r).1 (stepP N s t l (f, h) r).2 ∧ ∀ u, ati h u ≤ ati (stepP N s t l (f, h) r).2 u := by
  by_cases hr : r < 2 * l.length
  · by_cases C : CanSend s t l f h (r / 2) (decide (r % 2 = 1))
    · rw [step_send hr C]; exact ⟨reach_send H C, fun u => Int.le_refl _⟩
    · rw [step_send_no hr C]; exact ⟨H, fun u => Int.le_refl _⟩
  · by_cases C : ∃ x, CanLift N s t l f h (r - 2 * l.length) x
    · obtain ⟨x, C⟩ := C
      rw [step_lift hr C]; exact ⟨reach_lift H C, lift_up H.ok C⟩
    · rw [step_lift_no hr C]; exact ⟨H, fun u => Int.le_refl _⟩
/-- all steps that are asked for -/
noncomputable def runP (N s t : Nat) (l : List Arc3) (p : List Int × List Int) (rs : List Nat) : List Int × List Int := rs.foldl (stepP N s t l) p
theorem run_reach {N s t : Nat} {l : List Arc3} : ∀ (rs : List Nat) (f h : List Int), Reach N s t l f h → Reach N s t l (runP N s t l (f, h) rs).1 (runP N s t l (f, h) rs).2 ∧ ∀ u, ati h u ≤ ati (runP N s t l (f, h) rs).2 u
  | [], f, h, H => ⟨H, fun u => Int.le_refl _⟩
  | r :: rs, f, h, H => by
    obtain ⟨h1, h2⟩ := step_reach H r
    obtain ⟨h3, h4⟩ := run_reach rs _ _ h1
    exact ⟨h3, fun u => Int.le_trans (h2 u) (h4 u)⟩
theorem run_append {N s t : Nat} {l : List Arc3} (p : List Int × List Int) (a b : List Nat) : runP N s t l p (a ++ b) = runP N s t l (runP N s t l p a) b := by
  unfold runP; rw [List.foldl_append]
theorem run_snoc {N s t : Nat} {l : List Arc3} (p : List Int × List Int) (a : List Nat) (r : Nat) : runP N s t l p (a ++ [r]) = stepP N s t l (runP N s t l p a) r := by
  rw [run_append]; rfl

/-! ### Six cells in a block -/

theorem blk6 {w : World} {b : Nat} {x0 x1 x2 x3 x4 x5 : Value} {t : TypeId} (h : w.heap[b]? = some (.cells #[x0, x1, x2, x3, x4, x5] t (0, 0))) :
    (w.cell? ⟨b, 0, none⟩ = some x0 ∧ w.cell? ⟨b, 1, none⟩ = some x1 ∧ w.cell? ⟨b, 2, none⟩ = some x2 ∧ w.cell? ⟨b, 3, none⟩ = some x3 ∧ w.cell? ⟨b, 4, none⟩ = some x4 ∧ w.cell? ⟨b, 5, none⟩ = some x5) ∧ ∀ j, w.frozen? ⟨b, j, none⟩ = false := by
  have r : w.rowIs b t 6 (fun j => if j = 0 then x0 else if j = 1 then x1 else if j = 2 then x2 else if j = 3 then x3 else if j = 4 then x4 else x5) := ⟨_, h, rfl, fun i hi => by
    match i, hi with
    | 0, _ => rfl
    | 1, _ => rfl
    | 2, _ => rfl
    | 3, _ => rfl
    | 4, _ => rfl
    | 5, _ => rfl⟩
  exact ⟨⟨r.cell (i := 0) (by omega), r.cell (i := 1) (by omega), r.cell (i := 2) (by omega), r.cell (i := 3) (by omega), r.cell (i := 4) (by omega), r.cell (i := 5) (by omega)⟩, fun j => r.frozen j⟩

theorem infoPush : (Try.prog.info? 28).map (·.size) = some 6 := by kernel_rfl
/-- a Push stored whole -/
theorem wpList_store_push {ops : Array Oper} {rest : List Oper} {o : Oper} {a : Act} {w : World} {Q : Exit → Act → World → Prop} (hgd : o.guard = none) (x y : Operand) (ho : o.op = .store 28 x y)
    (g : Nat) (o0 o1 o2 o3 o4 o5 : Value) (n s t : Int) (a1 a2 a3 : Option Addr) (l1 c1 l2 c2 l3 c3 : Nat) (hx : a.eval x = .pointer (some ⟨g, 0, none⟩))
    (hy : a.eval y = .agg #[.int .i64 n, .int .i64 s, .int .i64 t, .slice a1 l1 c1, .slice a2 l2 c2, .slice a3 l3 c3]) (hb : w.heap[g]? = some (.cells #[o0, o1, o2, o3, o4, o5] 28 (0, 0)))
    (h : ∀ w', Only g w w' → w'.heap[g]? = some (.cells #[.int .i64 n, .int .i64 s, .int .i64 t, .slice a1 l1 c1, .slice a2 l2 c2, .slice a3 l3 c3] 28 (0, 0)) → w'.heap.size = w.heap.size → wpList Try.prog ops Q rest (a.put o.dst undef) w') : wpList Try.prog ops Q (o :: rest) a w :=
  wpList_store_row hgd 28 x y ho g _ hx hy 28 #[o0, o1, o2, o3, o4, o5] hb infoPush rfl (by simp [Value.oneCell']) (h _ ⟨rfl, rfl, rfl, by simp, fun k _ hne => setRow_other _ _ _ _ hne⟩ (setRow_heap _ _ _ _ _ _ hb) (by simp))
theorem PushIn.only {b : Nat} {w w' : World} {ao af ah : Option Addr} {cap cf ch : Nat} {l : List Arc3} {f h : List Int} (H : PushIn w ao cap l af cf f ah ch h) (ho : Only b w w')
    (h1 : ∀ c off, ao = some ⟨c, off, none⟩ → c ≠ b) (h2 : ∀ c off, af = some ⟨c, off, none⟩ → c ≠ b) (h3 : ∀ c off, ah = some ⟨c, off, none⟩ → c ≠ b) : PushIn w' ao cap l af cf f ah ch h :=
  ⟨⟨ho.arcs H.arcs.arcs h1, H.arcs.le, H.arcs.max, H.arcs.nil⟩, ⟨ho.ints H.flow.ints h2, H.flow.le, H.flow.max, H.flow.nil⟩, ⟨ho.ints H.hgt.ints h3, H.hgt.le, H.hgt.max, H.hgt.nil⟩⟩

end Go.Proofs.Ytgmifepfbcgfbaa
