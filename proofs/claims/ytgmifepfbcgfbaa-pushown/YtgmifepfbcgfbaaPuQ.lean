/- What the laws PushEnds and PushOwn hold in their variables: a net on its way; one more step of it. -/
import Derived.Test.YtgmifepfbcgfbaaPuRun
import Derived.Test.YtgmifepfbcgfbaaAppJoin
namespace Go.Proofs.Ytgmifepfbcgfbaa
open Go.RowKit
set_option linter.unusedVariables false

theorem OwnA.belowB {w w' : World} {B C : Nat} {ao : Option Addr} {cap : Nat} {l : List Arc3} (h : OwnA w B ao cap l) (hb : Below C w w') (hC : w.heap.size ≤ C) : OwnA w' B ao cap l := by
  rcases h with h | ⟨g, f, e, hB, hle, hcap, hr, hf⟩
  · exact Or.inl h
  · exact Or.inr ⟨g, f, e, hB, hle, hcap, hr.of_block (hb.block _ (by have := hr.lt; omega)), hf⟩
theorem OwnA.only {w w' : World} {B b : Nat} {ao : Option Addr} {cap : Nat} {l : List Arc3} (h : OwnA w B ao cap l) (ho : Only b w w') (hne : ∀ c off, ao = some ⟨c, off, none⟩ → c ≠ b) : OwnA w' B ao cap l := by
  rcases h with h | ⟨g, f, e, hB, hle, hcap, hr, hf⟩
  · exact Or.inl h
  · exact Or.inr ⟨g, f, e, hB, hle, hcap, hr.of_block (ho.block g hr.lt (hne g 0 e)), hf⟩
theorem OwnIs.only {w w' : World} {B b : Nat} {ao : Option Addr} {cap : Nat} {l : List Int} (h : OwnIs w B ao cap l) (ho : Only b w w') (hne : ∀ c off, ao = some ⟨c, off, none⟩ → c ≠ b) : OwnIs w' B ao cap l := by
  rcases h with h | ⟨g, e, hB, hcap, f, hO, h2, h3⟩
  · exact Or.inl h
  · exact Or.inr ⟨g, e, hB, hcap, f, hO.of_block (ho.block g hO.lt (hne g 0 e)), h2, h3⟩
theorem PushNew.below {w w' : World} {B C : Nat} {ao af ah : Option Addr} {cap cf ch : Nat} {l : List Arc3} {f h : List Int} (H : PushNew w B ao cap l af cf f ah ch h) (hb : Below C w w') (hC : w.heap.size ≤ C) : PushNew w' B ao cap l af cf f ah ch h :=
  ⟨H.arcs.belowB hb hC, H.flow.below hb hC, H.hgt.below hb hC, H.apart⟩
theorem PushNew.only {w w' : World} {B b : Nat} {ao af ah : Option Addr} {cap cf ch : Nat} {l : List Arc3} {f h : List Int} (H : PushNew w B ao cap l af cf f ah ch h) (ho : Only b w w') (hap : Apart b ao af ah) : PushNew w' B ao cap l af cf f ah ch h :=
  ⟨H.arcs.only ho hap.1, H.flow.only ho hap.2.1, H.hgt.only ho hap.2.2, H.apart⟩

/-- a net on its way in the law's own variable, behind j steps -/
structure EndsAt (N s t : Nat) (l : List Arc3) (w : World) (pb j : Nat) (wr : World) (a1 : Option Addr) (c1 : Nat) (a2 : Option Addr) (c2 : Nat) (a3 : Option Addr) (c3 : Nat) (f h : List Int) : Prop where
  blk : wr.heap[pb]? = some (.cells #[.int .i64 (N : Int), .int .i64 (s : Int), .int .i64 (t : Int), .slice a1 l.length c1, .slice a2 l.length c2, .slice a3 N c3] 28 (0, 0))
  inn : PushIn wr a1 c1 l a2 c2 f a3 c3 h
  ap : Apart pb a1 a2 a3
  wi : Within wr.heap.size a1 a2 a3
  re : Reach N s t l f h
  wk : workN N s t l f h + j ≤ 40000
  bel : Below w.heap.size w wr
  sz : pb < wr.heap.size
theorem EndsAt.on {N s t : Nat} {l : List Arc3} {w : World} {pb j : Nat} {wr w' : World} {a1 a2 a3 : Option Addr} {c1 c2 c3 : Nat} {f h : List Int} (H : EndsAt N s t l w pb j wr a1 c1 a2 c2 a3 c3 f h) (hb : Below wr.heap.size wr w') : EndsAt N s t l w pb j w' a1 c1 a2 c2 a3 c3 f h :=
  ⟨blk_below hb H.blk H.sz, H.inn.below hb (Nat.le_refl _), H.ap, H.wi.le hb.size, H.re, H.wk, H.bel.trans (hb.mono H.bel.size), Nat.lt_of_lt_of_le H.sz hb.size⟩

/-- what the law's second variable holds -/
structure QAt (w3 : World) (qb : Nat) (wx : World) (n s t : Int) (b1 : Option Addr) (d1 : Nat) (l : List Arc3) (b2 : Option Addr) (d2 : Nat) (f : List Int) (b3 : Option Addr) (d3 : Nat) (h : List Int) : Prop where
  blk : wx.heap[qb]? = some (.cells #[.int .i64 n, .int .i64 s, .int .i64 t, .slice b1 l.length d1, .slice b2 f.length d2, .slice b3 h.length d3] 28 (0, 0))
  own : PushNew wx w3.heap.size b1 d1 l b2 d2 f b3 d3 h
  ap : Apart qb b1 b2 b3
  wi : Within wx.heap.size b1 b2 b3
  lo : w3.heap.size ≤ qb
  hi : qb < wx.heap.size
  bel : Below w3.heap.size w3 wx
/-- a step was made, and less is left to do -/
def NextIs (N s t : Nat) (l : List Arc3) (f h : List Int) (E n' s' t' : Int) (L : List Arc3) (F H : List Int) : Prop :=
  E = 0 → n' = N ∧ s' = s ∧ t' = t ∧ L = l ∧ Reach N s t l F H ∧ workN N s t l F H + 1 ≤ workN N s t l f h
/-- a Push that a call has made, laid into a variable that is made then -/
theorem QAt.fresh {w3 w' : World} {n s t : Int} {b1 b2 b3 : Option Addr} {d1 d2 d3 : Nat} {l : List Arc3} {f h : List Int} (hN : PushNew w' w3.heap.size b1 d1 l b2 d2 f b3 d3 h) (hb : Below w3.heap.size w3 w') :
    QAt w3 w'.heap.size (w'.alloc (.cells #[.int .i64 n, .int .i64 s, .int .i64 t, .slice b1 l.length d1, .slice b2 f.length d2, .slice b3 h.length d3] 28)) n s t b1 d1 l b2 d2 f b3 d3 h :=
  have hw : Within w'.heap.size b1 b2 b3 := ⟨hN.arcs.ltB, hN.flow.ltB, hN.hgt.ltB⟩
  ⟨blk_new _ _, hN.below (below_one w' _) (Nat.le_refl _), hw.apart, hw.le (by simp), hb.size, by simp, hb.alloc hb.size _⟩
theorem pre_al6 {W x : World} {o : Obj} (h : Below (W.alloc o).drew.heap.size (W.alloc o).drew x) : x.heap[W.heap.size]? = some o :=
  blk_below h (blk_new W o) (by simp)
theorem blk6_set {w : World} {p : Nat} {x0 x1 x2 x3 x4 x5 : Value} {t : TypeId} (h : w.heap[p]? = some (.cells #[x0, x1, x2, x3, x4, x5] t (0, 0))) (y0 y1 y2 y3 y4 y5 : Value) :
    ((((((w.setCell ⟨p, 0, none⟩ y0).setCell ⟨p, 1, none⟩ y1).setCell ⟨p, 2, none⟩ y2).setCell ⟨p, 3, none⟩ y3).setCell ⟨p, 4, none⟩ y4).setCell ⟨p, 5, none⟩ y5).heap[p]? = some (.cells #[y0, y1, y2, y3, y4, y5] t (0, 0)) := by
  simp [World.setCell, Array.getElem?_modify, h]
theorem only_set6 (w : World) (p : Nat) (y0 y1 y2 y3 y4 y5 : Value) :
    Only p w ((((((w.setCell ⟨p, 0, none⟩ y0).setCell ⟨p, 1, none⟩ y1).setCell ⟨p, 2, none⟩ y2).setCell ⟨p, 3, none⟩ y3).setCell ⟨p, 4, none⟩ y4).setCell ⟨p, 5, none⟩ y5) :=
  ((((((Only.refl p w).setCell y0).setCell y1).setCell y2).setCell y3).setCell y4).setCell y5
theorem below_set6 {W x : World} (h : Below W.heap.size W x) (y0 y1 y2 y3 y4 y5 : Value) :
    Below W.heap.size W ((((((x.setCell ⟨W.heap.size, 0, none⟩ y0).setCell ⟨W.heap.size, 1, none⟩ y1).setCell ⟨W.heap.size, 2, none⟩ y2).setCell ⟨W.heap.size, 3, none⟩ y3).setCell ⟨W.heap.size, 4, none⟩ y4).setCell ⟨W.heap.size, 5, none⟩ y5) :=
  h.trans ((only_set6 x W.heap.size y0 y1 y2 y3 y4 y5).below (Nat.le_refl _) h.size)
/-- .. into a variable that was made ahead of the call -/
theorem QAt.early {w3 w' : World} {n s t : Int} {b1 b2 b3 : Option Addr} {d1 d2 d3 : Nat} {l : List Arc3} {f h : List Int} {x0 x1 x2 x3 x4 x5 : Value} (hN : PushNew w' (w3.heap.size + 1) b1 d1 l b2 d2 f b3 d3 h) (hb : Below w3.heap.size w3 w')
    (hblk : w'.heap[w3.heap.size]? = some (.cells #[x0, x1, x2, x3, x4, x5] 28 (0, 0))) :
    QAt w3 w3.heap.size ((((((w'.setCell ⟨w3.heap.size, 0, none⟩ (.int .i64 n)).setCell ⟨w3.heap.size, 1, none⟩ (.int .i64 s)).setCell ⟨w3.heap.size, 2, none⟩ (.int .i64 t)).setCell ⟨w3.heap.size, 3, none⟩ (.slice b1 l.length d1)).setCell ⟨w3.heap.size, 4, none⟩ (.slice b2 f.length d2)).setCell ⟨w3.heap.size, 5, none⟩ (.slice b3 h.length d3)) n s t b1 d1 l b2 d2 f b3 d3 h :=
  have ho := only_set6 w' w3.heap.size (.int .i64 n) (.int .i64 s) (.int .i64 t) (.slice b1 l.length d1) (.slice b2 f.length d2) (.slice b3 h.length d3)
  have hw : Within w'.heap.size b1 b2 b3 := ⟨hN.arcs.ltB, hN.flow.ltB, hN.hgt.ltB⟩
  have hlt : w3.heap.size < w'.heap.size := (Array.getElem?_eq_some_iff.1 hblk).1
  have hap : Apart w3.heap.size b1 b2 b3 := ⟨fun c off e => by have := hN.arcs.from c off e; omega, fun c off e => by have := hN.flow.from c off e; omega, fun c off e => by have := hN.hgt.from c off e; omega⟩
  ⟨blk6_set hblk _ _ _ _ _ _, (hN.from_ (Nat.le_succ _)).only ho hap, hap, hw.le ho.size, Nat.le_refl _, Nat.lt_of_lt_of_le hlt ho.size, hb.trans (ho.below (Nat.le_refl _) hb.size)⟩
/-- stored into the variable that is there -/
theorem QAt.again {w3 wx w' w'' : World} {qb : Nat} {n s t n' s' t' : Int} {b1 b2 b3 e1 e2 e3 : Option Addr} {d1 d2 d3 g1 g2 g3 : Nat} {l l' : List Arc3} {f h f' h' : List Int} (H : QAt w3 qb wx n s t b1 d1 l b2 d2 f b3 d3 h)
    (hN : PushNew w' wx.heap.size e1 g1 l' e2 g2 f' e3 g3 h') (hb : Below wx.heap.size wx w') (ho : Only qb w' w'') (hblk : w''.heap[qb]? = some (.cells #[.int .i64 n', .int .i64 s', .int .i64 t', .slice e1 l'.length g1, .slice e2 f'.length g2, .slice e3 h'.length g3] 28 (0, 0))) :
    QAt w3 qb w'' n' s' t' e1 g1 l' e2 g2 f' e3 g3 h' :=
  have hq := H.hi
  have hz := hb.size
  have hz2 := ho.size
  have hz3 := H.bel.size
  have hw : Within w'.heap.size e1 e2 e3 := ⟨hN.arcs.ltB, hN.flow.ltB, hN.hgt.ltB⟩
  have hap : Apart qb e1 e2 e3 := ⟨fun c off e => by have := hN.arcs.from c off e; omega, fun c off e => by have := hN.flow.from c off e; omega, fun c off e => by have := hN.hgt.from c off e; omega⟩
  ⟨hblk, (hN.from_ hz3).only ho hap, hap, hw.le hz2, H.lo, by omega, (H.bel.trans (hb.mono hz3)).trans (ho.below H.lo (by omega))⟩
theorem QAt.on {w3 wx w' : World} {qb : Nat} {n s t : Int} {b1 b2 b3 : Option Addr} {d1 d2 d3 : Nat} {l : List Arc3} {f h : List Int} (H : QAt w3 qb wx n s t b1 d1 l b2 d2 f b3 d3 h) (hb : Below wx.heap.size wx w') : QAt w3 qb w' n s t b1 d1 l b2 d2 f b3 d3 h :=
  ⟨blk_below hb H.blk H.hi, H.own.below hb (Nat.le_refl _), H.ap, H.wi.le hb.size, H.lo, Nat.lt_of_lt_of_le H.hi hb.size, H.bel.trans (hb.mono H.bel.size)⟩
/-- the second variable's net put into the first one -/
theorem EndsAt.put {N s t : Nat} {l : List Arc3} {w w3 wx w' : World} {pb qb j : Nat} {a1 a2 a3 b1 b2 b3 : Option Addr} {c1 c2 c3 d1 d2 d3 : Nat} {f h F H : List Int} (K : EndsAt N s t l w pb j w3 a1 c1 a2 c2 a3 c3 f h)
    (Q : QAt w3 qb wx N s t b1 d1 l b2 d2 F b3 d3 H) (hR : Reach N s t l F H) (hw : workN N s t l F H + 1 ≤ workN N s t l f h) (hpw : w.heap.size ≤ pb) (ho : Only pb wx w')
    (hblk : w'.heap[pb]? = some (.cells #[.int .i64 (N : Int), .int .i64 (s : Int), .int .i64 (t : Int), .slice b1 l.length d1, .slice b2 l.length d2, .slice b3 N d3] 28 (0, 0))) :
    EndsAt N s t l w pb (j + 1) w' b1 d1 b2 d2 b3 d3 F H :=
  have hs := K.sz
  have hz := Q.bel.size
  have hz2 := ho.size
  have hz3 := K.bel.size
  have hap : Apart pb b1 b2 b3 := ⟨fun c off e => by have := Q.own.arcs.from c off e; omega, fun c off e => by have := Q.own.flow.from c off e; omega, fun c off e => by have := Q.own.hgt.from c off e; omega⟩
  ⟨hblk, Q.own.arg.only ho hap.1 hap.2.1 hap.2.2, hap, Q.wi.le hz2, hR, by have := K.wk; rw [Int.natCast_add]; omega, (K.bel.trans (Q.bel.mono hz3)).trans (ho.below hpw (by omega)), by omega⟩

end Go.Proofs.Ytgmifepfbcgfbaa
