/- Package push: a Push copied into memory of its own. -/
import Derived.Test.YtgmifepfbcgfbaaPuC
import Derived.Test.YtgmifepfbcgfbaaCloneNet
import Derived.Test.YtgmifepfbcgfbaaOwnIs
namespace Go.Proofs.Ytgmifepfbcgfbaa
open Go.RowKit
set_option linter.unusedVariables false

theorem blk6z {w : World} {b : Nat} {x0 x1 x2 x3 x4 x5 : Value} {t : TypeId} (h : w.heap[b]? = some (.cells #[x0, x1, x2, x3, x4, x5] t (0, 0))) :
    w.frozen? ⟨b, 0, none⟩ = false ∧ w.frozen? ⟨b, 1, none⟩ = false ∧ w.frozen? ⟨b, 2, none⟩ = false ∧ w.frozen? ⟨b, 3, none⟩ = false ∧ w.frozen? ⟨b, 4, none⟩ = false ∧ w.frozen? ⟨b, 5, none⟩ = false := by
  obtain ⟨_, h⟩ := blk6 h
  exact ⟨h 0, h 1, h 2, h 3, h 4, h 5⟩
theorem blk6_put {w : World} {p : Nat} {x0 x1 x2 x3 x4 x5 : Value} {t : TypeId} (h : w.heap[p]? = some (.cells #[x0, x1, x2, x3, x4, x5] t (0, 0))) (v : Value) :
    (w.setCell ⟨p, 3, none⟩ v).heap[p]? = some (.cells #[x0, x1, x2, v, x4, x5] t (0, 0)) ∧ (w.setCell ⟨p, 4, none⟩ v).heap[p]? = some (.cells #[x0, x1, x2, x3, v, x5] t (0, 0)) ∧ (w.setCell ⟨p, 5, none⟩ v).heap[p]? = some (.cells #[x0, x1, x2, x3, x4, v] t (0, 0)) := by
  refine ⟨?_, ?_, ?_⟩ <;> simp [World.setCell, Array.getElem?_modify, h]

theorem OwnA.other {w : World} {B : Nat} {ao : Option Addr} {cap : Nat} {l : List Arc3} (h : OwnA w B ao cap l) {p : Addr} (hp : p.block < B) (v : Value) : OwnA (w.setCell p v) B ao cap l := by
  rcases h with h | ⟨g, f, e, hB, hle, hcap, hr, hf⟩
  · exact Or.inl h
  · exact Or.inr ⟨g, f, e, hB, hle, hcap, hr.setOther (by omega) v, hf⟩
theorem OwnA.weak {w : World} {B C : Nat} {ao : Option Addr} {cap : Nat} {l : List Arc3} (h : OwnA w B ao cap l) (hC : C ≤ B) : OwnA w C ao cap l :=
  h.imp id fun ⟨g, f, e, hB, r⟩ => ⟨g, f, e, Nat.le_trans hC hB, r⟩
theorem OwnIs.weak {w : World} {B C : Nat} {ao : Option Addr} {cap : Nat} {l : List Int} (h : OwnIs w B ao cap l) (hC : C ≤ B) : OwnIs w C ao cap l :=
  h.imp id fun ⟨g, e, hB, r⟩ => ⟨g, e, Nat.le_trans hC hB, r⟩
theorem PushNew.other {w : World} {B : Nat} {ao af ah : Option Addr} {cap cf ch : Nat} {l : List Arc3} {f h : List Int} (H : PushNew w B ao cap l af cf f ah ch h) {p : Addr} (hp : p.block < B) (v : Value) : PushNew (w.setCell p v) B ao cap l af cf f ah ch h :=
  ⟨H.arcs.other hp v, H.flow.setOther hp v, H.hgt.setOther hp v, H.apart⟩
theorem PushNew.alloc {w : World} {B : Nat} {ao af ah : Option Addr} {cap cf ch : Nat} {l : List Arc3} {f h : List Int} (H : PushNew w B ao cap l af cf f ah ch h) (o : Obj) : PushNew (w.alloc o) B ao cap l af cf f ah ch h :=
  ⟨H.arcs.alloc o, H.flow.alloc o, H.hgt.alloc o, H.apart⟩
theorem PushNew.nil (w : World) (B : Nat) : PushNew w B none 0 [] none 0 [] none 0 [] :=
  ⟨Or.inl ⟨rfl, rfl, rfl⟩, Or.inl ⟨rfl, rfl, rfl⟩, Or.inl ⟨rfl, rfl, rfl⟩, fun g o g' o' e => by cases e⟩
/-- but for one block, which lies lower, all is as it was -/
theorem PushNew.onlyN {w w' : World} {B b : Nat} {ao af ah : Option Addr} {cap cf ch : Nat} {l : List Arc3} {f h : List Int} (H : PushNew w B ao cap l af cf f ah ch h) (ho : Only b w w') (hb : b < B) : PushNew w' B ao cap l af cf f ah ch h := by
  refine ⟨?_, ?_, ?_, H.apart⟩
  · rcases H.arcs with h | ⟨g, f, e, hB, hle, hcap, hr, hf⟩
    · exact Or.inl h
    · exact Or.inr ⟨g, f, e, hB, hle, hcap, ho.row hr (by omega), hf⟩
  · rcases H.flow with h | ⟨g, e, hB, hcap, f, hO, h2, h3⟩
    · exact Or.inl h
    · exact Or.inr ⟨g, e, hB, hcap, f, ho.row hO (by omega), h2, h3⟩
  · rcases H.hgt with h | ⟨g, e, hB, hcap, f, hO, h2, h3⟩
    · exact Or.inl h
    · exact Or.inr ⟨g, e, hB, hcap, f, ho.row hO (by omega), h2, h3⟩

set_option maxHeartbeats 4000000 in
theorem pclone_any (n s t : Int) (ao af ah : Option Addr) (cap cf ch : Nat) (l : List Arc3) (f h : List Int) (w : World) (hl60 : l.length ≤ 60) (hf60 : f.length ≤ 60) (hh60 : h.length ≤ 60) (hP : PushIn w ao cap l af cf f ah ch h) :
    Calls Try.prog 30 #[.agg #[.int .i64 n, .int .i64 s, .int .i64 t, .slice ao l.length cap, .slice af f.length cf, .slice ah h.length ch]] w fun e w' => Below w.heap.size w w' ∧
      ∃ a1 c1 a2 c2 a3 c3, e = .returned (.agg #[.int .i64 n, .int .i64 s, .int .i64 t, .slice a1 l.length c1, .slice a2 f.length c2, .slice a3 h.length c3]) ∧ PushNew w' w.heap.size a1 c1 l a2 c2 f a3 c3 h := by
  have hP2 := (hP.alloc (.cells #[.int .i64 n, .int .i64 s, .int .i64 t, .slice ao l.length cap, .slice af f.length cf, .slice ah h.length ch] 28)).alloc (.cells #[.int .i64 0, .int .i64 0, .int .i64 0, .slice none 0 0, .slice none 0 0, .slice none 0 0] 28)
  have hc1 := clone_own ao cap l ((w.alloc (.cells #[.int .i64 n, .int .i64 s, .int .i64 t, .slice ao l.length cap, .slice af f.length cf, .slice ah h.length ch] 28)).alloc (.cells #[.int .i64 0, .int .i64 0, .int .i64 0, .slice none 0 0, .slice none 0 0, .slice none 0 0] 28)) hP2.arcs.arcs hP2.arcs.nil (by omega)
  have HP2 : Hid (PushIn ((w.alloc (.cells #[.int .i64 n, .int .i64 s, .int .i64 t, .slice ao l.length cap, .slice af f.length cf, .slice ah h.length ch] 28)).alloc (.cells #[.int .i64 0, .int .i64 0, .int .i64 0, .slice none 0 0, .slice none 0 0, .slice none 0 0] 28)) ao cap l af cf f ah ch h) := hP2
  have x0 : ((w.alloc (.cells #[.int .i64 n, .int .i64 s, .int .i64 t, .slice ao l.length cap, .slice af f.length cf, .slice ah h.length ch] 28)).alloc (.cells #[.int .i64 0, .int .i64 0, .int .i64 0, .slice none 0 0, .slice none 0 0, .slice none 0 0] 28)).heap[w.heap.size]? = some (.cells #[.int .i64 n, .int .i64 s, .int .i64 t, .slice ao l.length cap, .slice af f.length cf, .slice ah h.length ch] 28 (0, 0)) := blk_old (blk_new w _) _
  have x1 : ((w.alloc (.cells #[.int .i64 n, .int .i64 s, .int .i64 t, .slice ao l.length cap, .slice af f.length cf, .slice ah h.length ch] 28)).alloc (.cells #[.int .i64 0, .int .i64 0, .int .i64 0, .slice none 0 0, .slice none 0 0, .slice none 0 0] 28)).heap[w.heap.size + 1]? = some (.cells #[.int .i64 0, .int .i64 0, .int .i64 0, .slice none 0 0, .slice none 0 0, .slice none 0 0] 28 (0, 0)) := blk_new1
  have HX0 : Hid _ := x0
  have HX1 : Hid _ := x1
  have HP : Hid (PushIn w ao cap l af cf f ah ch h) := hP
  clear hP hP2 x0 x1
  go_enter Try.func30, Try.ntmps30
  go_wp2_with fail
  refine hc1.mono ?_
  clear hc1
  rintro e w1 ⟨hb1, v1, rfl, hown1⟩
  obtain ⟨a1, c1, rfl, hO1⟩ := own_arcs hown1
  simp only [World.size_alloc] at hb1 hO1
  have hz1 := hb1.size
  simp only [World.size_alloc] at hz1
  have x1 := blk_below hb1 HX0.out (by omega)
  have z1 := blk_below hb1 HX1.out (by omega)
  obtain ⟨⟨m0, m1, m2, m3, m4, m5⟩, _⟩ := blk6 x1
  obtain ⟨f0, f1, f2, f3, f4, f5⟩ := blk6z x1
  have hw1 : w.heap.size < w1.heap.size := by omega
  have HB1 : Hid (Below w.heap.size w w1) := ((((Below.refl _ _).alloc (Nat.le_refl _) _).alloc (by simp) _).trans (hb1.mono (by omega)))
  have HO1 : Hid (OwnA w1 (w.heap.size + 1 + 1) a1 c1 l) := hO1
  have HZ1 : Hid (w1.heap[w.heap.size + 1]? = some (.cells #[.int .i64 0, .int .i64 0, .int .i64 0, .slice none 0 0, .slice none 0 0, .slice none 0 0] 28 (0, 0))) := z1
  have HV1 : Hid ((w1.setCell ⟨w.heap.size, 3, none⟩ (.slice a1 l.length c1)).heap[w.heap.size]? = some (.cells #[.int .i64 n, .int .i64 s, .int .i64 t, .slice a1 l.length c1, .slice af f.length cf, .slice ah h.length ch] 28 (0, 0))) := (blk6_put x1 _).1
  clear hb1 hown1 hO1 x1 z1 hz1 HX0 HX1 HP2
  have hw1' : w.heap.size + 1 < w1.heap.size := (Array.getElem?_eq_some_iff.1 HZ1.out).1
  obtain ⟨⟨n0, n1, n2, n3, n4, n5⟩, _⟩ := blk6 HV1.out
  go_wp2_with fail
  refine (cloneI_any af cf f _ (HP.out.below (HB1.out.setCell (Nat.le_refl _) _) (Nat.le_refl _)).flow.ints HP.out.flow.nil hf60).mono ?_
  clear m0 m1 m2 m3 m4 m5 n0 n1 n2 n3 n4 n5 f0 f1 f2 f3 f4 f5
  rintro e w2 ⟨hb2, a2, c2, rfl, hO2⟩
  rw [World.size_setCell] at hb2 hO2
  have hz2 := hb2.size
  rw [World.size_setCell] at hz2
  have hw2 : w.heap.size < w2.heap.size := by omega
  have hw2' : w.heap.size + 1 < w2.heap.size := by omega
  have x2 := blk_below hb2 HV1.out hw1
  obtain ⟨⟨m0, m1, m2, m3, m4, m5⟩, _⟩ := blk6 x2
  obtain ⟨f0, f1, f2, f3, f4, f5⟩ := blk6z x2
  have HB2 : Hid (Below w.heap.size w w2) := (HB1.out.setCell (Nat.le_refl _) _).trans (hb2.mono (by omega))
  have HA2 : Hid (OwnA w2 (w.heap.size + 1 + 1) a1 c1 l) := (HO1.out.other (by simp; omega) _).below hb2 (by rw [World.size_setCell]; exact Nat.le_refl _)
  have HO2 : Hid (OwnIs w2 w1.heap.size a2 c2 f) := hO2
  have HZ2 : Hid (w2.heap[w.heap.size + 1]? = some (.cells #[.int .i64 0, .int .i64 0, .int .i64 0, .slice none 0 0, .slice none 0 0, .slice none 0 0] 28 (0, 0))) := blk_below hb2 ((Below.heap_setCell _ _ _ _ (by simp)).trans HZ1.out) hw1'
  have HV2 : Hid ((w2.setCell ⟨w.heap.size, 4, none⟩ (.slice a2 f.length c2)).heap[w.heap.size]? = some (.cells #[.int .i64 n, .int .i64 s, .int .i64 t, .slice a1 l.length c1, .slice a2 f.length c2, .slice ah h.length ch] 28 (0, 0))) := (blk6_put x2 _).2.1
  clear hb2 hO2 x2 HV1 HZ1 HO1 HB1
  obtain ⟨⟨n0, n1, n2, n3, n4, n5⟩, _⟩ := blk6 HV2.out
  go_wp2_with fail
  refine (cloneI_any ah ch h _ (HP.out.below (HB2.out.setCell (Nat.le_refl _) _) (Nat.le_refl _)).hgt.ints HP.out.hgt.nil hh60).mono ?_
  clear m0 m1 m2 m3 m4 m5 n0 n1 n2 n3 n4 n5 f0 f1 f2 f3 f4 f5
  rintro e w3 ⟨hb3, a3, c3, rfl, hO3⟩
  rw [World.size_setCell] at hb3 hO3
  have hz3 := hb3.size
  rw [World.size_setCell] at hz3
  have hw3 : w.heap.size < w3.heap.size := by omega
  have hw3' : w.heap.size + 1 < w3.heap.size := by omega
  have x3 := blk_below hb3 HV2.out hw2
  obtain ⟨⟨m0, m1, m2, m3, m4, m5⟩, _⟩ := blk6 x3
  obtain ⟨f0, f1, f2, f3, f4, f5⟩ := blk6z x3
  have HB3 : Hid (Below w.heap.size w (w3.setCell ⟨w.heap.size, 5, none⟩ (.slice a3 h.length c3))) := ((HB2.out.setCell (Nat.le_refl _) _).trans (hb3.mono (by omega))).setCell (Nat.le_refl _) _
  have HZ3 : Hid ((w3.setCell ⟨w.heap.size, 5, none⟩ (.slice a3 h.length c3)).heap[w.heap.size + 1]? = some (.cells #[.int .i64 0, .int .i64 0, .int .i64 0, .slice none 0 0, .slice none 0 0, .slice none 0 0] 28 (0, 0))) :=
    (Below.heap_setCell _ _ _ _ (by simp)).trans (blk_below hb3 ((Below.heap_setCell _ _ _ _ (by simp)).trans HZ2.out) hw2')
  have y3 := (blk6_put x3 (.slice a3 h.length c3)).2.2
  have HNew : Hid (PushNew (w3.setCell ⟨w.heap.size, 5, none⟩ (.slice a3 h.length c3)) (w.heap.size + 1 + 1) a1 c1 l a2 c2 f a3 c3 h) := by
    refine PushNew.other ⟨(HA2.out.other (by simp; omega) _).below hb3 (by rw [World.size_setCell]; exact Nat.le_refl _), ((HO2.out.setOther (by simp; omega) _).below hb3 (by rw [World.size_setCell]; exact Nat.le_refl _)).weak (by omega), hO3.weak (by omega), fun g o g' o' e1 e2 => ?_⟩ (by simp; omega) _
    have q1 := HO2.out.ltB _ _ e1
    have q2 := hO3.from _ _ e2
    omega
  clear hb3 hO3 HV2 HZ2 HO2 HA2 HB2
  obtain ⟨⟨n0, n1, n2, n3, n4, n5⟩, _⟩ := blk6 y3
  go_wp2_with (refine wpList_store_push rfl (.tmp 2) (.tmp 17) rfl (w.heap.size + 1) _ _ _ _ _ _ n s t a1 a2 a3 l.length c1 f.length c2 h.length c3 rfl rfl HZ3.out ?_; intro w4 ho4 hb4 hs4)
  obtain ⟨⟨q0, q1, q2, q3, q4, q5⟩, _⟩ := blk6 hb4
  (try simp only [Exit.inBlock, Exit.then])
  refine bodyPost_ret (v := .agg #[.int .i64 n, .int .i64 s, .int .i64 t, .slice a1 l.length c1, .slice a2 f.length c2, .slice a3 h.length c3]) (by simp [results, Try.results30, go_sem, q0, q1, q2, q3, q4, q5]) rfl ⟨?_, a1, c1, a2, c2, a3, c3, rfl, (HNew.out.onlyN ho4 (by omega)).from_ (by omega)⟩
  exact ⟨ho4.os.trans HB3.out.os, ho4.tape.trans HB3.out.tape, ho4.output.trans HB3.out.output, Nat.le_trans HB3.out.size ho4.size, fun i hi => (ho4.block i (by have := HB3.out.size; omega) (by omega)).trans (HB3.out.block i hi)⟩

end Go.Proofs.Ytgmifepfbcgfbaa
