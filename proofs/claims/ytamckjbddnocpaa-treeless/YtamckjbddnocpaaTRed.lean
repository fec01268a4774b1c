/- Contracts of package tree: reduced. -/
import Derived.Test.YtamckjbddnocpaaTreeM
import Derived.Test.YtamckjbddnocpaaMat
import Derived.Test.YtamckjbddnocpaaRowsAt
import Derived.BigRegion
namespace Go.Proofs.Ytamckjbddnocpaa
open Go.RowKit
set_option linter.unusedVariables false

theorem set_twice (w : World) (b o : Nat) (v v' : Value) : (w.setCell ⟨b, o, none⟩ v).setCell ⟨b, o, none⟩ v' = w.setCell ⟨b, o, none⟩ v' := by
  unfold World.setCell
  congr 1
  apply Array.ext_getElem?
  intro i
  simp only [Array.getElem?_modify]
  by_cases h : b = i
  · simp only [h, if_true, Option.map_map]
    congr 1
    funext x
    cases x <;> simp
  · simp only [h, if_false]

/-- one number of a table more by d -/
def bump (M : Mtx) (x y : Nat) (d : Int) : Mtx := fun a b => M a b + if a = x ∧ b = y then d else 0

theorem PMat.bump {B : Nat} {w : World} {D : Nat} {R : Nat → Nat} {N n c : Nat} {M : Mtx} (h : PMat B w D R N n c M) {x : Nat} (hx : x < c) (y : Nat) (d : Int) {v : Int} (hv : v = M x y + d) :
    PMat B (w.setCell ⟨R x, y, none⟩ (.int .i64 v)) D R N n c (bump M x y d) :=
  (h.set hx y v).congr fun a b _ _ => by
    unfold Go.Proofs.Ytamckjbddnocpaa.bump
    by_cases e : a = x ∧ b = y
    · rw [if_pos e, if_pos e, e.1, e.2, hv]
    · rw [if_neg e, if_neg e, Int.add_zero]

theorem one_nat (a b : Nat) : one ((a : Int) = (b : Int)) = if a = b then 1 else 0 := by
  by_cases h : a = b
  · rw [if_pos h, one_yes (by omega)]
  · rw [if_neg h, one_no (by omega)]

theorem lap_step (l : List Arc3) (f t : Nat) (c : Int) (i j : Nat) : lap (l ++ [((f : Int), (t : Int), c)]) i j = bump (bump (bump (bump (lap l) f f 1) t t 1) f t (-1)) t f (-1) i j := by
  rw [lap_append]
  have e : lap [((f : Int), (t : Int), c)] i j = ev ((f : Int), (t : Int), c) i * ev ((f : Int), (t : Int), c) j := by simp [lap]
  rw [e]
  unfold bump ev
  simp only [one_nat]
  generalize lap l i j = L
  by_cases h1 : i = f
  · by_cases h2 : i = t
    · have h3 : f = t := by omega
      subst h3; subst h1
      by_cases h4 : j = i <;> simp [h4] <;> omega
    · by_cases h3 : j = f
      · have h4 : ¬ j = t := by omega
        simp [h1, h3, show ¬ f = t by omega]
      · by_cases h4 : j = t
        · simp [h1, h4, show ¬ f = t by omega, show ¬ t = f by omega]
        · simp [h1, h3, h4, show ¬ f = t by omega]
  · by_cases h2 : i = t
    · by_cases h3 : j = f
      · simp [h2, h3, show ¬ f = t by omega, show ¬ t = f by omega]
      · by_cases h4 : j = t
        · simp [h2, h4, show ¬ t = f by omega]
        · simp [h2, h3, h4, show ¬ t = f by omega]
    · simp [h1, h2]

theorem ev_abs (a : Arc3) (i : Nat) : (ev a i).natAbs ≤ 1 := by
  unfold ev one
  split <;> split <;> decide

theorem lap_abs : ∀ (l : List Arc3) (i j : Nat), (lap l i j).natAbs ≤ l.length
  | [], _, _ => by simp [lap]
  | a :: r, i, j => by
    have h1 := lap_abs r i j
    have h2 : (ev a i * ev a j).natAbs ≤ 1 := by
      rw [Int.natAbs_mul]
      exact Nat.le_trans (Nat.mul_le_mul (ev_abs a i) (ev_abs a j)) (by decide)
    have e : lap (a :: r) i j = lap [a] i j + lap r i j := lap_append [a] r i j
    have e2 : lap [a] i j = ev a i * ev a j := by simp [lap]
    rw [e, e2, List.length_cons]
    have := Int.natAbs_add_le (ev a i * ev a j) (lap r i j)
    omega

theorem PMat.newRow {B : Nat} {w : World} {D : Nat} {R : Nat → Nat} {N n c : Nat} (h : PMat B w D R N n c (fun _ _ => 0)) (hc : c < N) (hB : B ≤ w.heap.size) :
    PMat B ((w.setCell ⟨D, c, none⟩ (.slice (some ⟨w.heap.size, 0, none⟩) n n)).alloc (.cells (zeri n) 3)) D (fun i => if i = c then w.heap.size else R i) N n (c + 1) (fun _ _ => 0) := by
  rw [← World.setCell_alloc_past _ _ _ _ h.outer.lt]
  refine ((h.alloc (.cells (zeri n) 3)).more hc (f := fun _ => 0) (zeri_row w n _) hB ?_ ?_).congr fun i j _ _ => by split <;> rfl
  · have := h.outer.lt; omega
  · intro i hi; have := (h.inner i hi).lt; omega

/-- the table without its last row and column, as it is handed on -/
def tbl (R : Nat → Nat) (N : Nat) (l : List Arc3) : List RowV := (List.range (N - 1)).map fun v => ⟨some ⟨R v, 0, none⟩, N, (List.range (N - 1)).map fun j => lap l v j⟩

theorem tbl_len (R : Nat → Nat) (N : Nat) (l : List Arc3) : (tbl R N l).length = N - 1 := by simp [tbl]
theorem tbl_at (R : Nat → Nat) (N : Nat) (l : List Arc3) {v : Nat} (h : v < N - 1) : atr (tbl R N l) v = ⟨some ⟨R v, 0, none⟩, N, (List.range (N - 1)).map fun j => lap l v j⟩ := by
  rw [atr_lt _ _ (by rw [tbl_len]; exact h)]; simp [tbl]

set_option maxHeartbeats 2000000 in
theorem reduced_any (N : Nat) (h1 : 1 ≤ N) (h12 : N ≤ 8) (ao : Option Addr) (cap : Nat) (l : List Arc3) (w : World) (hA : ArcsAt w ao l) (hlen : l.length ≤ 30)
    (hl : ∀ a ∈ l, (0 ≤ a.1 ∧ a.1 < (N : Int)) ∧ (0 ≤ a.2.1 ∧ a.2.1 < (N : Int))) :
    Calls Try.prog 29 #[.agg #[.int .i64 (N : Int), .slice ao l.length cap]] w fun e w' => Below w.heap.size w w' ∧
      ∃ D R, e = .returned (.slice (some ⟨D, 0, none⟩) (N - 1) N) ∧ RowsAt w' (some ⟨D, 0, none⟩) (tbl R N l) := by
  have hmk := make_intss N (by omega)
  have hmk2 := make_ints N (by omega)
  have HL : Hid (∀ a ∈ l, (0 ≤ a.1 ∧ a.1 < (N : Int)) ∧ (0 ≤ a.2.1 ∧ a.2.1 < (N : Int))) := hl
  have HA : Hid (ArcsAt w ao l) := hA
  clear hl hA
  go_enter Try.func29, Try.ntmps29
  go_wp2_with fail
  go_loopw [13] (fun i wr => ∃ c : Nat, c ≤ N ∧ i = .int .i64 c ∧ (∃ R, PMat (w.heap.size + 1) wr (w.heap.size + 1) R N N c (fun _ _ => 0)) ∧ Below (w.heap.size + 1) (w.alloc (.cells #[.int .i64 (N : Int), .slice ao l.length cap] 34)) wr) (fun i _ => N - (intOf i).toNat)
  case atStart => exact ⟨0, Nat.zero_le _, rfl, ⟨fun _ => 0, by have := nils_mat (w.heap.size + 1) (w.alloc (.cells #[.int .i64 (N : Int), .slice ao l.length cap] 34)) N N (fun _ => 0) (fun _ _ => 0) (by simp); simpa using this⟩, (Below.refl _ _).alloc (by simp) _⟩
  case round =>
    obtain ⟨c, hc, rfl, ⟨R, hP⟩, hB⟩ := hrel
    have hz := hB.size
    simp only [World.size_alloc] at hz
    have hD := hP.outer.lt
    have q0 := hB.block w.heap.size (by omega)
    have hbx : wr.heap[w.heap.size]? = some (.cells #[.int .i64 (N : Int), .slice ao l.length cap] 34 (0, 0)) := q0.trans (blk_new w _)
    obtain ⟨x0, x1, xf0, xf1⟩ := blk2 hbx
    have hwz : w.heap.size < wr.heap.size := by omega
    by_cases hlt : c < N
    · have o1 := hP.outer.cell (i := c) hlt
      have o2 := hP.outer.frozen c
      have HP : Hid (PMat (w.heap.size + 1) wr (w.heap.size + 1) R N N c (fun _ _ => 0)) := hP
      have HB : Hid (Below (w.heap.size + 1) (w.alloc (.cells #[.int .i64 (N : Int), .slice ao l.length cap] 34)) wr) := hB
      clear hP hB q0 hbx
      go_wp2_with fail
      go_roundw
      case rel =>
        refine ⟨c + 1, by omega, by go_num, ⟨_, HP.out.newRow hlt (by omega)⟩, (HB.out.setCell (by simp) _).alloc (by simp; omega) _⟩
      case measure => simp [intOf]; omega
    · have hcN : N = c := by omega
      subst hcN
      have HP0 : Hid (PMat (w.heap.size + 1) wr (w.heap.size + 1) R N N N (lap [])) := hP
      have HB0 : Hid (Below (w.heap.size + 1) (w.alloc (.cells #[.int .i64 (N : Int), .slice ao l.length cap] 34)) wr) := hB
      have HI : Hid (∀ i j, i < N → j < N → R i = R j → i = j) := hP.inj
      have HR : Hid (∀ i, i < N → R i ≠ w.heap.size + 1 ∧ w.heap.size + 1 ≤ R i) := fun i hi => ⟨hP.apart i hi, hP.low.2 i hi⟩
      clear hP hB hmk hmk2 q0 hbx
      go_wp2_with fail
      go_loopw [26] (fun i wq => ∃ k : Nat, k ≤ l.length ∧ i = .int .i64 k ∧ PMat (w.heap.size + 1) wq (w.heap.size + 1) R N N N (lap (l.take k)) ∧ Below (w.heap.size + 1) (w.alloc (.cells #[.int .i64 (N : Int), .slice ao l.length cap] 34)) wq) (fun i _ => l.length - (intOf i).toNat)
      case atStart => exact ⟨0, Nat.zero_le _, rfl, HP0.out, HB0.out⟩
      case round =>
        obtain ⟨k, hk, rfl, hP, hB⟩ := hrel
        clear x0 x1 xf0 xf1 hwz hz HP0 HB0 hD
        have hz := hB.size
        simp only [World.size_alloc] at hz
        have hD := hP.outer.lt
        have hbx : wr.heap[w.heap.size]? = some (.cells #[.int .i64 (N : Int), .slice ao l.length cap] 34 (0, 0)) := (hB.block w.heap.size (by omega)).trans (blk_new w _)
        obtain ⟨x0, x1, xf0, xf1⟩ := blk2 hbx
        have hwz : w.heap.size < wr.heap.size := by omega
        by_cases hkl : k < l.length
        · obtain ⟨b, off, rfl, hb, c0, c1, c2⟩ := (HA.out.alloc _).below hB (by simp) k hkl
          have hmem := HL.out _ (at3_mem l k hkl)
          have hsn := take_snoc3 l k hkl
          generalize ha : at3 l k = a at *
          obtain ⟨f, t, c⟩ := a
          simp only at c0 c1 c2 hmem
          obtain ⟨⟨p1, p2⟩, p3, p4⟩ := hmem
          obtain ⟨f, rfl⟩ := Int.eq_ofNat_of_zero_le p1
          obtain ⟨t, rfl⟩ := Int.eq_ofNat_of_zero_le p3
          have hf : f < N := by omega
          have ht : t < N := by omega
          have hab := fun i j => lap_abs (l.take k) i j
          have htk : (l.take k).length ≤ 30 := by rw [List.length_take]; omega
          have HNx : Hid (∀ i j, lap (l.take (k + 1)) i j = bump (bump (bump (bump (lap (l.take k)) f f 1) t t 1) f t (-1)) t f (-1) i j) := fun i j => by rw [hsn, lap_step]
          have df := hP.at hf
          have dt := hP.at ht
          have nff := hP.num hf hf
          have ntt := hP.num ht ht
          have nft := hP.num hf ht
          have ntf := hP.num ht hf
          have zff := (hP.inner f hf).frozen f
          have ztt := (hP.inner t ht).frozen t
          have zft := (hP.inner f hf).frozen t
          have ztf := (hP.inner t ht).frozen f
          have lf' := (hP.inner f hf).lt
          have lt' := (hP.inner t ht).lt
          obtain ⟨af, bf⟩ := HR.out f hf
          obtain ⟨at', bt⟩ := HR.out t ht
          have bff := hab f f
          have btt := hab t t
          have bft := hab f t
          have btf := hab t f
          have HP : Hid (PMat (w.heap.size + 1) wr (w.heap.size + 1) R N N N (lap (l.take k))) := hP
          have HB : Hid (Below (w.heap.size + 1) (w.alloc (.cells #[.int .i64 (N : Int), .slice (some ⟨b, off, none⟩) l.length cap] 34)) wr) := hB
          clear hP hB ha hsn hab hbx
          by_cases hft : f = t
          · subst hft
            obtain ⟨y1, hy1⟩ : ∃ y, y = lap (l.take k) f f := ⟨_, rfl⟩
            rw [← hy1] at nff bff
            have v1 : -30 ≤ y1 ∧ y1 ≤ 30 := by omega
            have HN : Hid (PMat (w.heap.size + 1) (wr.setCell ⟨R f, f, none⟩ (.int .i64 y1)) (w.heap.size + 1) R N N N (lap (l.take (k + 1)))) := by
              refine (HP.out.bump hf f 0 (by rw [hy1]; omega)).congr fun i j _ _ => ?_
              rw [HNx.out i j]
              unfold bump
              by_cases e : i = f ∧ j = f <;> simp [e] <;> omega
            clear bff btt bft btf HP HNx ntt nft ntf ztt zft ztf dt lt' at' bt hy1
            go_wp2_with fail
            go_region
            go_wp2_with fail
            go_region
            simp only [set_twice]
            go_wp2_with fail
            go_region
            simp only [set_twice]
            go_wp2_with fail
            go_region
            simp only [set_twice]
            go_wp2_with fail
            go_roundw
            case rel =>
              refine ⟨k + 1, by omega, by go_num, ((((HN.out.alloc _).drew).drew).drew).drew, ?_⟩
              exact ((((HB.out.setCell bf _).alloc (by simp; omega) _).drew).drew).drew.drew
            case measure => simp [intOf]; omega
          · have hRne : R f ≠ R t := fun e => hft (HI.out f t hf ht e)
            have hRne' : R t ≠ R f := fun e => hRne e.symm
            have hft' : t ≠ f := fun e => hft e.symm
            obtain ⟨y1, hy1⟩ : ∃ y, y = lap (l.take k) f f := ⟨_, rfl⟩
            obtain ⟨y2, hy2⟩ : ∃ y, y = lap (l.take k) t t := ⟨_, rfl⟩
            obtain ⟨y3, hy3⟩ : ∃ y, y = lap (l.take k) f t := ⟨_, rfl⟩
            obtain ⟨y4, hy4⟩ : ∃ y, y = lap (l.take k) t f := ⟨_, rfl⟩
            rw [← hy1] at nff bff
            rw [← hy2] at ntt btt
            rw [← hy3] at nft bft
            rw [← hy4] at ntf btf
            have v1 : -30 ≤ y1 ∧ y1 ≤ 30 := by omega
            have v2 : -30 ≤ y2 ∧ y2 ≤ 30 := by omega
            have v3 : -30 ≤ y3 ∧ y3 ≤ 30 := by omega
            have v4 : -30 ≤ y4 ∧ y4 ≤ 30 := by omega
            have HN : Hid (PMat (w.heap.size + 1) ((((wr.setCell ⟨R f, f, none⟩ (.int .i64 (y1 + 1))).setCell ⟨R t, t, none⟩ (.int .i64 (y2 + 1))).setCell ⟨R f, t, none⟩ (.int .i64 (y3 - 1))).setCell ⟨R t, f, none⟩ (.int .i64 (y4 - 1))) (w.heap.size + 1) R N N N (lap (l.take (k + 1)))) := by
              refine ((((HP.out.bump hf f 1 (by rw [hy1])).bump ht t 1 ?_).bump hf t (-1) ?_).bump ht f (-1) ?_).congr fun i j _ _ => (HNx.out i j).symm
              · unfold bump; simp [hft', hy2]
              · unfold bump; simp [hft, hft', hy3]; omega
              · unfold bump; simp [hft, hft', hy4]; omega
            clear bff btt bft btf hy1 hy2 hy3 hy4 HP HNx
            go_wp2_with fail
            go_region
            go_wp2_with fail
            go_region
            go_wp2_with fail
            go_region
            go_wp2_with fail
            go_region
            go_wp2_with fail
            go_roundw
            case rel =>
              refine ⟨k + 1, by omega, by go_num, ((((HN.out.alloc _).drew).drew).drew).drew, ?_⟩
              exact ((((((((HB.out.setCell bf _).setCell bt _).setCell bf _).setCell bt _).alloc (by simp; omega) _).drew).drew).drew).drew
            case measure => simp [intOf]; omega
        · have hkk : k = l.length := by omega
          subst hkk
          rw [List.take_length] at hP
          have HIn : Hid (∀ i, i < N → wr.rowIs (R i) 3 N (fun j => .int .i64 (lap l i j))) := hP.inner
          have HOut : Hid (wr.rowIs (w.heap.size + 1) 26 N (fun i => .slice (some ⟨R i, 0, none⟩) N N)) := hP.outer.congr fun i hi => by rw [if_pos hi]
          have HB1 : Hid (Below (w.heap.size + 1) (w.alloc (.cells #[.int .i64 (N : Int), .slice ao l.length cap] 34)) wr) := hB
          have hN1 : ((N : Int) - 1) = ((N - 1 : Nat) : Int) := by omega
          have HBx : Hid (wr.heap[w.heap.size]? = some (.cells #[.int .i64 (N : Int), .slice ao l.length cap] 34 (0, 0))) := hbx
          clear hP hB hbx
          go_wp2_with fail
          go_loopw [82] (fun i wq => ∃ v : Nat, v ≤ N - 1 ∧ i = .int .i64 v ∧ wq.rowIs (w.heap.size + 1) 26 N (fun i => if i < v then .slice (some ⟨R i, 0, none⟩) (N - 1) N else .slice (some ⟨R i, 0, none⟩) N N) ∧
            Hid (∀ i, i < N → wq.rowIs (R i) 3 N (fun j => .int .i64 (lap l i j))) ∧ Hid (Below (w.heap.size + 1) (w.alloc (.cells #[.int .i64 (N : Int), .slice ao l.length cap] 34)) wq)) (fun i _ => N - 1 - (intOf i).toNat)
          case atStart => exact ⟨0, Nat.zero_le _, rfl, HOut.out.congr fun i hi => by simp, HIn, HB1⟩
          case round =>
            obtain ⟨v, hv, rfl, hO, hIn, hB⟩ := hrel
            clear x0 x1 xf0 xf1 hwz hz hD HIn HOut HB1 HBx
            have hz := hB.out.size
            simp only [World.size_alloc] at hz
            have hD := hO.lt
            have hbx : wr.heap[w.heap.size]? = some (.cells #[.int .i64 (N : Int), .slice ao l.length cap] 34 (0, 0)) := (hB.out.block w.heap.size (by omega)).trans (blk_new w _)
            obtain ⟨x0, x1, xf0, xf1⟩ := blk2 hbx
            have hwz : w.heap.size < wr.heap.size := by omega
            by_cases hvl : v < N - 1
            · have o1 := hO.cell (i := v) (by omega)
              rw [if_neg (Nat.lt_irrefl v)] at o1
              have of1 := hO.frozen v
              have HO : Hid (wr.rowIs (w.heap.size + 1) 26 N (fun i => if i < v then .slice (some ⟨R i, 0, none⟩) (N - 1) N else .slice (some ⟨R i, 0, none⟩) N N)) := hO
              have hvN : v < N := by omega
              clear hO hbx
              go_wp2_with fail
              go_region
              go_wp2_with fail
              go_roundw
              case rel =>
                refine ⟨v + 1, by omega, by go_num, ((HO.out.set v _).congr fun i hi => ?_).drew, fun i hi => ((hIn.out i hi).setOther (HR.out i hi).1 _).drew, (hB.out.setCell (by simp) _).drew⟩
                by_cases e : i = v
                · subst e; simp
                · by_cases e2 : i < v
                  · simp [e, e2, show i < v + 1 by omega]
                  · simp [e, e2, show ¬ i < v + 1 by omega]
              case measure => simp [intOf]; omega
            · have hvv : N - 1 = v := by omega
              subst hvv
              have HRes : Hid (RowsAt wr (some ⟨w.heap.size + 1, 0, none⟩) (tbl R N l)) := by
                intro i hi
                have hi' : i < N - 1 := by rw [tbl_len] at hi; exact hi
                refine ⟨w.heap.size + 1, 0, rfl, hD, ?_, ?_⟩
                · rw [Nat.zero_add, hO.cell (by omega), if_pos hi', tbl_at R N l hi']
                  simp [RowV.val]
                · rw [tbl_at R N l hi']
                  have hr := row_ints (hIn.out i (by omega))
                  refine ⟨fun j hj => ?_, by simp, by unfold maxLen; simp only; omega, fun e => by cases e⟩
                  have hj' : j < N - 1 := by simpa using hj
                  obtain ⟨b, off, e, hb, c⟩ := hr j (by simp; omega)
                  refine ⟨b, off, e, hb, ?_⟩
                  rw [c, ati_lt _ _ (by simp; omega), ati_lt _ _ hj]
                  simp
              clear hO hIn
              go_wp2_with fail
              go_ret
              exact ⟨below_in hB.out (by omega), w.heap.size + 1, R, rfl, HRes.out⟩

end Go.Proofs.Ytamckjbddnocpaa
