/- Contracts of package euler: order. -/
import Derived.Test.YtkcjemhbenkglaaENext
import Derived.Test.YtkcjemhbenkglaaOwns
import Derived.Test.YtkcjemhbenkglaaFlat
import Derived.BigRegion
namespace Go.Proofs.Ytkcjemhbenkglaa
open Go.RowKit
set_option linter.unusedVariables false

def lenOf : Value → Nat
  | .slice _ n _ => n
  | _ => 0

def nums (K : List Nat) : List Int := K.map Int.ofNat
theorem nums_length (K : List Nat) : (nums K).length = K.length := by simp [nums]
theorem nums_snoc (K : List Nat) (k : Nat) : flati (nums (K ++ [k])) = flati (nums K) ++ [.int .i64 (k : Int)] := by simp [nums, flati]
theorem nums_cons (K : List Nat) (k : Nat) : nums (k :: K) = (k : Int) :: nums K := by simp [nums]

def zerb (k : Nat) : Array Value := madeCells #[.bool false] k
theorem infoBool : (Try.prog.info? 4).map (fun i => (i.zero, i.size, i.bytes)) = some (some (.bool false), 1, 1) := by kernel_rfl
theorem make_bools (n : Nat) (hn : n ≤ 60) (w : World) :
    (Instr.makeSlice 57 (.int .i64 (n : Int)) (.int .i64 (n : Int))).run Try.prog w = .ok (.slice (some ⟨w.heap.size, 0, none⟩) n n) (w.alloc (.cells (zerb n) 4)) :=
  run_make_row' 57 4 (.bool false) 1 Try.underlying57 infoBool rfl .i64 .i64 n (by omega) (by omega) w
theorem zerb_row (w : World) (n : Nat) (t : TypeId) : (w.alloc (.cells (zerb n) t)).rowIs w.heap.size t n (fun _ => .bool false) := World.rowIs_made w (.bool false) n t

theorem make_ints_room (n : Nat) (hn : n ≤ 60) (w : World) :
    (Instr.makeSlice 28 (.int .i64 0) (.int .i64 (n : Int))).run Try.prog w = .ok (.slice (some ⟨w.heap.size, 0, none⟩) 0 n) (w.alloc (.cells (zeri n) 3)) := by
  obtain ⟨i, hi, hzz⟩ := Option.map_eq_some_iff.1 infoInt
  simp only [Prod.mk.injEq] at hzz
  obtain ⟨hz, hs, hb⟩ := hzz
  have hr := run_make (P := Try.prog) w 28 3 i _ Try.underlying28 hi hz .i64 .i64 0 (n : Int) (by omega) (by omega) (by rw [hb]; omega) (by omega)
  rw [hs, Int.toNat_natCast, Nat.mul_one] at hr
  exact hr

/-- the list of the places: zeros ahead, what has its place behind -/
def placed (m : Nat) (P : List Nat) (j : Nat) : Int := if j < m - P.length then 0 else ati (nums P) (j - (m - P.length))

theorem placed_cons {m : Nat} {P : List Nat} {k : Nat} (h : P.length < m) (j : Nat) : placed m (k :: P) j = if j = m - P.length - 1 then (k : Int) else placed m P j := by
  unfold placed
  rw [nums_cons]
  simp only [List.length_cons]
  by_cases e : j = m - P.length - 1
  · subst e
    rw [if_neg (by omega), if_pos rfl, show m - P.length - 1 - (m - (P.length + 1)) = 0 by omega]
    rfl
  · rw [if_neg e]
    by_cases e1 : j < m - (P.length + 1)
    · rw [if_pos e1, if_pos (by omega)]
    · rw [if_neg e1, if_neg (by omega), show j - (m - (P.length + 1)) = (j - (m - P.length)) + 1 by omega]
      simp [ati]

theorem placed_all {P : List Nat} {m : Nat} (h : P.length = m) : (List.range m).map (placed m P) = nums P := by
  apply List.ext_getElem (by simp [nums, h])
  intro i h1 h2
  simp only [List.getElem_map, List.getElem_range]
  unfold placed
  rw [if_neg (by omega), show i - (m - P.length) = i by omega, ati_lt _ _ h2]

set_option maxHeartbeats 4000000 in
set_option maxRecDepth 100000 in
theorem order_any (N : Nat) (ao : Option Addr) (cap : Nat) (l : List Arc3) (s t : Int) (w : World) (hA : ArcsAt w ao l) (hlen : l.length ≤ 60)
    (hl : ∀ a ∈ l, (0 ≤ a.1 ∧ a.1 < (N : Int)) ∧ (0 ≤ a.2.1 ∧ a.2.1 < (N : Int))) (hbal : Bal l s t) (hc : Conn l) (hs : l ≠ [] → ∃ a ∈ l, a.1 = s) :
    Calls Try.prog 19 #[.slice ao l.length cap, .int .i64 s] w fun e w' => Below w.heap.size w w' ∧
      ∃ b K, w.heap.size ≤ b ∧ e = .returned (.slice (some ⟨b, 0, none⟩) l.length l.length) ∧ IntsAt w' (some ⟨b, 0, none⟩) (nums K) ∧ TrailIs l s t K := by
  have hmk := make_ints l.length (by omega)
  have hmb := make_bools l.length hlen
  have hmr := make_ints_room l.length hlen
  obtain ⟨i0, hi, hy0, hy1, hy2⟩ := info_parts infoInt
  have HL : Hid (∀ a ∈ l, (0 ≤ a.1 ∧ a.1 < (N : Int)) ∧ (0 ≤ a.2.1 ∧ a.2.1 < (N : Int))) := hl
  have HBal : Hid (Bal l s t) := hbal
  have HC : Hid (Conn l) := hc
  have HS : Hid (l ≠ [] → ∃ a ∈ l, a.1 = s) := hs
  have HA : Hid (ArcsAt w ao l) := hA
  obtain ⟨W, hW⟩ : ∃ W : World, W = ((w.alloc (.cells (zeri l.length) 3)).alloc (.cells (zerb l.length) 4)).alloc (.cells (zeri l.length) 3) := ⟨_, rfl⟩
  have HWz : Hid (W.heap.size = w.heap.size + 3) := by rw [Hid, hW]; simp
  have HBW : Hid (Below w.heap.size w W) := by rw [Hid, hW]; exact ((below_one w _).alloc (by simp) _).alloc (by simp; omega) _
  have HR0 : Hid (W.rowIs w.heap.size 3 l.length (fun j => .int .i64 0)) := by rw [Hid, hW]; exact ((zeri_row _ _ _).alloc _).alloc _
  have HG0 : Hid (W.rowIs (w.heap.size + 1) 4 l.length (fun j => .bool false)) := by
    have := zerb_row (w.alloc (.cells (zeri l.length) 3)) l.length 4
    rw [World.size_alloc] at this
    rw [Hid, hW]; exact this.alloc _
  have HO0 : Hid (W.ownsRow (w.heap.size + 2) 3 1 (.slice (some ⟨w.heap.size + 2, 0, none⟩) 0 l.length) 0 []) := by
    have := World.ownsRow_made (base := w.heap.size + 2) (e := 3) (size := 1) ((w.alloc (.cells (zeri l.length) 3)).alloc (.cells (zerb l.length) 4)) (zeri l.length) l.length (by simp) (by unfold maxLen; omega) (by simp [zeri, size_madeCells])
    simp only [World.size_alloc] at this
    rw [Hid, hW]; exact this
  clear hl hbal hc hs hA
  go_enter Try.func19, Try.ntmps19
  go_wp2
  first | rw [← hW] | skip
  go_loopw [7, 8, 9] (fun v x lf wr => ∃ (B P : List Nat) (y : Int), x = .int .i64 y ∧ P.length ≤ l.length ∧ lf = .int .i64 ((l.length - P.length : Nat) : Int) ∧ OI l s t B P y ∧ wr.ownsRow (w.heap.size + 2) 3 1 v B.length (flati (nums B)) ∧
      wr.rowIs w.heap.size 3 l.length (fun j => .int .i64 (placed l.length P j)) ∧ wr.rowIs (w.heap.size + 1) 4 l.length (fun j => .bool (decide (j ∈ B ++ P))) ∧ Below w.heap.size w wr) (fun v _ lf _ => 2 * (intOf lf).toNat - lenOf v)
  case atStart =>
    refine ⟨[], [], s, rfl, Nat.zero_le _, rfl, OI.start l s t, HO0.out, HR0.out.congr fun j hj => ?_, HG0.out.congr fun j hj => by simp, HBW.out⟩
    simp [placed, hj]
  case round =>
    obtain ⟨B, P, y, rfl, hPl, rfl, hOI, hown, hrow, hg, hB⟩ := hrel
    have hz := hB.size
    have hrl := hrow.lt
    have hgl := hg.lt
    clear HO0 HR0 HG0 HBW HWz hmk hmb hmr hW
    have HOI : Hid (OI l s t B P y) := hOI
    by_cases hlt : P.length < l.length
    · obtain ⟨r, hr⟩ : ∃ r, l.length - P.length = r + 1 := ⟨l.length - P.length - 1, by omega⟩
      have HRr : Hid (l.length - P.length = r + 1) := hr
      have hr60 : r < 60 := by omega
      have hA1 := HA.out.below hB (Nat.le_refl _)
      have hcall := next_any ao cap l (w.heap.size + 1) (fun j => decide (j ∈ B ++ P)) y wr hA1 hlen hg
      rw [hr]
      obtain ⟨aB, cB, rfl⟩ := owns_form hown
      have HRow : Hid (wr.rowIs w.heap.size 3 l.length (fun j => .int .i64 (placed l.length P j))) := hrow
      have HGo : Hid (wr.rowIs (w.heap.size + 1) 4 l.length (fun j => .bool (decide (j ∈ B ++ P)))) := hg
      have HOw : Hid (wr.ownsRow (w.heap.size + 2) 3 1 (.slice aB B.length cB) B.length (flati (nums B))) := hown
      have HB : Hid (Below w.heap.size w wr) := hB
      clear hOI hown hrow hg hB hr
      go_wp2_with fail
      refine hcall.mono ?_
      clear hcall
      rintro e w1 ⟨hb1, hcase⟩
      have hz1 := hb1.size
      have hrow := HRow.out.of_block (hb1.block _ hrl)
      have hg := HGo.out.of_block (hb1.block _ hgl)
      have hown := owns_below HOw.out hb1 (Nat.le_refl _)
      have hB := HB.out.trans (hb1.mono hz)
      clear HRow HGo HOw HB hb1 hA1 hrl hgl
      have hrl := hrow.lt
      have hgl := hg.lt
      rcases hcase with ⟨rfl, hno⟩ | ⟨k, hk, rfl, hf, hgk⟩
      · -- nothing leads on
        obtain ⟨B0, k, eB, hk, hOI2⟩ := HOI.out.pop HL.out (fun j hj e => by simpa using hno j hj e) HBal.out HC.out (HS.out (fun h => by rw [h] at hlt; simp at hlt)) hlt
        subst eB
        rw [nums_snoc, List.length_append, List.length_singleton] at hown
        obtain ⟨g, cap', ev, q0, hown0, hgB, hgz, hcap1, hcap2⟩ := owns_pop hown
        obtain ⟨rfl, _, rfl⟩ : aB = some ⟨g, 0, none⟩ ∧ B0.length + 1 = B0.length + 1 ∧ cB = cap' := by
          cases ev; exact ⟨rfl, rfl, rfl⟩
        have hB0 : B0.length < 60 := by have := HOI.out.len; simp at this; omega
        have hB0r : B0.length ≤ r := by have h1 := HOI.out.len; have h2 := HRr.out; simp at h1; omega
        obtain ⟨b, off, rfl, hb, c0, c1, c2⟩ := HA.out k hk
        have c0 := later hB c0 hb
        have c1 := later hB c1 hb
        have c2 := later hB c2 hb
        have hbz : b < w1.heap.size := by omega
        obtain ⟨a, ha⟩ : ∃ a, at3 l k = a := ⟨_, rfl⟩
        rw [ha] at c0 c1 c2
        obtain ⟨f, x, c⟩ := a
        simp only at c0 c1 c2
        have hrm : r < l.length := by have := HRr.out; omega
        have q1 := hrow.cell (i := r) hrm
        have q2 := hrow.frozen r
        have HO2 : Hid (OI l s t B0 (k :: P) f) := by rw [ha] at hOI2; exact hOI2
        have HRow : Hid (w1.rowIs w.heap.size 3 l.length (fun j => .int .i64 (placed l.length P j))) := hrow
        have HGo : Hid (w1.rowIs (w.heap.size + 1) 4 l.length (fun j => .bool (decide (j ∈ B0 ++ [k] ++ P)))) := hg
        have HOw : Hid (w1.ownsRow (w.heap.size + 2) 3 1 (.slice (some ⟨g, 0, none⟩) B0.length cB) B0.length (flati (nums B0))) := hown0
        have HB : Hid (Below w.heap.size w w1) := hB
        rw [List.length_append, List.length_singleton]
        generalize placed l.length P r = z0 at q1
        clear hOI2 hown hown0 hrow hg hB ha hno HOI ev
        go_wp2
        go_roundw
        case rel =>
          refine ⟨B0, k :: P, f, rfl, by simp only [List.length_cons]; omega, ?_, HO2.out, ?_, ?_, ?_, ?_⟩
          · rw [show l.length - (k :: P).length = r by have := HRr.out; simp only [List.length_cons]; omega]
          · exact owns_set HOw.out (fun _ _ g' cap' e => by cases e; simp; omega) _
          · refine (HRow.out.set r _).congr fun j hj => ?_
            rw [placed_cons hlt, show l.length - P.length - 1 = r by have := HRr.out; omega]
            by_cases e : j = r <;> simp [e]
          · refine (HGo.out.setOther (by simp) _).congr fun j hj => by simp
          · exact HB.out.setCell (by simp) _
        case measure => simp [intOf, lenOf]; omega
      · have hgk' : k ∉ B ++ P := by simpa using hgk
        have hlenB := HOI.out.len
        have HO2 : Hid (OI l s t (B ++ [k]) P (at3 l k).2.1) := HOI.out.push hk hf hgk'
        obtain ⟨b, off, rfl, hb, c0, c1, c2⟩ := HA.out k hk
        have c1 := later hB c1 hb
        have hbz : b < w1.heap.size := by omega
        have HC1 : Hid (w1.cell? ⟨b, off + k * 3 + 1, none⟩ = some (.int .i64 (at3 l k).2.1)) := c1
        obtain ⟨x, hx⟩ : ∃ x, (at3 l k).2.1 = x := ⟨_, rfl⟩
        rw [hx] at HO2 HC1 c1
        have q1 := hg.cell (i := k) hk
        have q2 := hg.frozen k
        have HRow : Hid (w1.rowIs w.heap.size 3 l.length (fun j => .int .i64 (placed l.length P j))) := hrow
        have HGo : Hid (w1.rowIs (w.heap.size + 1) 4 l.length (fun j => .bool (decide (j ∈ B ++ P)))) := hg
        have HOw : Hid (w1.ownsRow (w.heap.size + 2) 3 1 (.slice aB B.length cB) B.length (flati (nums B))) := hown
        have HB : Hid (Below w.heap.size w w1) := hB
        have hB60 : B.length ≤ 60 := by omega
        have HBlen : Hid (B.length + P.length ≤ l.length) := hlenB
        have HF : Hid ((at3 l k).1 = y) := hf
        generalize decide (k ∈ B ++ P) = z0 at q1
        clear hgk hgk' hown hrow hg hB hlenB hf hx c0 c1 c2
        have hown1 : ((w1.setCell ⟨w.heap.size + 1, k, none⟩ (.bool true)).alloc (.cells #[.int .i64 (k : Int)] 3)).ownsRow (w.heap.size + 2) 3 1 (.slice aB B.length cB) B.length (flati (nums B)) :=
          (owns_set HOw.out (fun _ _ g' cap' e => by have := owns_lt HOw.out g' cap' e; simp; omega) _).alloc _
        go_wp2_with (at_builtin; refine wpList_append_own _ rfl (.tmp 35) (.tmp 37) 28 rfl (w.heap.size + 2) 3 i0 _ 1 8 Try.underlying28 hi hy0 hy1 hy2 rfl (by decide) _ _ _ rfl hown1 ⟨w1.heap.size, 0, none⟩ 1 1 [.int .i64 (k : Int)] rfl rfl ?c1 ?c2 ?c3 ?c4 ?c5 ?_)
        case c1 =>
          intro j u hj
          match j, hj with
          | 0, hj =>
            simp at hj; subst hj
            have := newest (w := w1.setCell ⟨w.heap.size + 1, k, none⟩ (.bool true)) #[.int .i64 (k : Int)] 3 0
            rw [World.size_setCell] at this
            exact this
        case c2 => intro u hu; simp at hu; subst hu; rfl
        case c3 => unfold maxLen; omega
        case c4 => omega
        case c5 => simp; omega
        · intro v' w2 hown' hgrow _
          have hb2 : Below (w.heap.size + 2) ((w1.setCell ⟨w.heap.size + 1, k, none⟩ (.bool true)).alloc (.cells #[.int .i64 (k : Int)] 3)) w2 := (Below.refl _ _).grown hgrow (by simp; omega) (by
            intro g' hg'
            exact (hown1.lt g' hg').1)
          have hz2' := hb2.size
          simp only [World.size_alloc, World.size_setCell] at hz2'
          obtain ⟨aC, cC, rfl⟩ := owns_form hown'
          have HOw2 : Hid (w2.ownsRow (w.heap.size + 2) 3 1 (.slice aC (B.length + 1) cC) (B ++ [k]).length (flati (nums (B ++ [k])))) := by
            rw [Hid, nums_snoc, List.length_append, List.length_singleton]; exact hown'
          have HRow2 : Hid (w2.rowIs w.heap.size 3 l.length (fun j => .int .i64 (placed l.length P j))) :=
            ((HRow.out.setOther (by simp) _).alloc _).of_block (hb2.block _ (by omega))
          have HGo2 : Hid (w2.rowIs (w.heap.size + 1) 4 l.length (fun j => .bool (decide (j ∈ B ++ [k] ++ P)))) := by
            refine (((HGo.out.set k _).alloc _).of_block (hb2.block _ (by omega))).congr fun j hj => ?_
            by_cases e : j = k <;> simp [e]
          have HB2 : Hid (Below w.heap.size w w2) := ((HB.out.setCell (by simp) _).alloc (by simp; omega) _).trans (hb2.mono (by omega))
          have c1 : w2.cell? ⟨b, off + k * 3 + 1, none⟩ = some (.int .i64 x) := later hb2 ((later (B := w.heap.size) (((Below.refl _ w1).setCell (Nat.le_succ _) _).alloc (by simp; omega) _) HC1.out hb)) (by omega)
          have hbz2 : b < w2.heap.size := by omega
          clear hown' hgrow hb2 hown1 HOw HRow HGo HB
          go_wp2
          go_roundw
          case rel => exact ⟨B ++ [k], P, x, rfl, hPl, congrArg (Value.int .i64) (by have := HRr.out; omega), HO2.out, HOw2.out, HRow2.out, HGo2.out, HB2.out⟩
          case measure =>
            have h1 := HBlen.out
            have h2 := HRr.out
            simp [intOf, lenOf]; omega
    · have hPe : P.length = l.length := by omega
      have HT : Hid (TrailIs l s t P) := HOI.out.done HBal.out hPe
      have HI : Hid (IntsAt wr (some ⟨w.heap.size, 0, none⟩) (nums P)) := by have := row_ints hrow; rwa [placed_all hPe] at this
      rw [hPe, Nat.sub_self]
      have HB : Hid (Below w.heap.size w wr) := hB
      clear hOI hown hrow hg hB HOI
      go_wp2
      go_ret
      exact ⟨HB.out, w.heap.size, P, Nat.le_refl _, rfl, HI.out, HT.out⟩

end Go.Proofs.Ytkcjemhbenkglaa
