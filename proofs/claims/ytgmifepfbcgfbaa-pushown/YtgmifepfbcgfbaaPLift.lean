/- Package push: Lift. -/
import Derived.Test.YtgmifepfbcgfbaaPClo
import Derived.Test.YtgmifepfbcgfbaaPLow
import Derived.Test.YtgmifepfbcgfbaaPBusy
namespace Go.Proofs.Ytgmifepfbcgfbaa
open Go.RowKit
set_option linter.unusedVariables false

theorem OwnA.ne_ints {w : World} {B C g g' cap ch : Nat} {l : List Arc3} {h : List Int} (hA : OwnA w B (some ⟨g, 0, none⟩) cap l) (hH : OwnIs w C (some ⟨g', 0, none⟩) ch h) : g ≠ g' := by
  rcases hA with ⟨e, _⟩ | ⟨g1, f, e, _, _, _, ⟨c, hc, _⟩, _⟩
  · cases e
  · cases e
    rcases hH with ⟨e, _⟩ | ⟨g2, e, _, _, f', ⟨c', hc', _⟩, _⟩
    · cases e
    · cases e
      intro e
      subst e
      rw [hc] at hc'
      simp only [Option.some.injEq, Obj.cells.injEq] at hc'
      exact absurd hc'.2.1 (by decide)
theorem OwnA.off {w : World} {B : Nat} {ao : Option Addr} {cap : Nat} {l : List Arc3} (h : OwnA w B ao cap l) {p : Addr} (hp : ∀ g, ao = some ⟨g, 0, none⟩ → g ≠ p.block) (v : Value) : OwnA (w.setCell p v) B ao cap l := by
  rcases h with h | ⟨g, f, e, hB, hle, hcap, hr, hf⟩
  · exact Or.inl h
  · exact Or.inr ⟨g, f, e, hB, hle, hcap, hr.setOther (hp g e) v, hf⟩
theorem OwnIs.off {w : World} {B : Nat} {ao : Option Addr} {cap : Nat} {l : List Int} (h : OwnIs w B ao cap l) {p : Addr} (hp : ∀ g, ao = some ⟨g, 0, none⟩ → g ≠ p.block) (v : Value) : OwnIs (w.setCell p v) B ao cap l := by
  rcases h with h | ⟨g, e, hB, hcap, f, hO, h2, h3⟩
  · exact Or.inl h
  · exact Or.inr ⟨g, e, hB, hcap, f, hO.setOther (hp g e) v, h2, h3⟩
/-- one height changed -/
theorem PushNew.setH {w : World} {B g i : Nat} {ao af : Option Addr} {cap cf ch : Nat} {l : List Arc3} {f h : List Int} (H : PushNew w B ao cap l af cf f (some ⟨g, 0, none⟩) ch h) (hi : i < h.length) (c : Int) :
    PushNew (w.setCell ⟨g, i, none⟩ (.int .i64 c)) B ao cap l af cf f (some ⟨g, 0, none⟩) ch (h.set i c) := by
  refine ⟨H.arcs.off (fun g' e => ?_) _, H.flow.off (fun g' e => H.apart g' 0 g 0 e rfl) _, H.hgt.set (by rw [List.length_set]) (fun j _ => ati_set hi c j), H.apart⟩
  have h1 := H.arcs
  rw [e] at h1
  exact h1.ne_ints H.hgt
/-- how much goes along one arc changed -/
theorem PushNew.setF {w : World} {B g i : Nat} {ao ah : Option Addr} {cap cf ch : Nat} {l : List Arc3} {f h : List Int} (H : PushNew w B ao cap l (some ⟨g, 0, none⟩) cf f ah ch h) (hi : i < f.length) (c : Int) :
    PushNew (w.setCell ⟨g, i, none⟩ (.int .i64 c)) B ao cap l (some ⟨g, 0, none⟩) cf (f.set i c) ah ch h := by
  refine ⟨H.arcs.off (fun g' e => ?_) _, H.flow.set (by rw [List.length_set]) (fun j _ => ati_set hi c j), H.hgt.off (fun g' e => fun e2 => H.apart g 0 g' 0 rfl e e2.symm) _, H.apart⟩
  have h1 := H.arcs
  rw [e] at h1
  exact h1.ne_ints H.flow

/-- no height to which the node may be lifted -/
def NoLift (N s t : Nat) (l : List Arc3) (f h : List Int) (v : Int) : Prop := ∀ x, 0 ≤ v → ¬ CanLift N s t l f h v.toNat x
/-- what Lift answers -/
def LiftAns (w : World) (N s t : Nat) (l : List Arc3) (f h : List Int) (v : Int) (e : Ending) (w' : World) : Prop := Below w.heap.size w w' ∧
  ∃ E n' s' t' a1 c1 L a2 c2 F a3 c3 H, e = .returned (.tuple #[.agg #[.int .i64 n', .int .i64 s', .int .i64 t', .slice a1 (L : List Arc3).length c1, .slice a2 (F : List Int).length c2, .slice a3 (H : List Int).length c3], .int .i64 E]) ∧
    PushNew w' w.heap.size a1 c1 L a2 c2 F a3 c3 H ∧ (E = 0 ↔ 0 ≤ v ∧ ∃ x, CanLift N s t l f h v.toNat x) ∧
    (∀ x, 0 ≤ v → CanLift N s t l f h v.toNat x → n' = N ∧ s' = s ∧ t' = t ∧ L = l ∧ F = f ∧ H = h.set v.toNat x)
theorem LiftAns.no {w w' : World} {N s t : Nat} {l : List Arc3} {f h : List Int} {v E : Int} (hE : E ≠ 0) (hn : NoLift N s t l f h v) (hb : Below w.heap.size w w') :
    LiftAns w N s t l f h v (.returned (.tuple #[.agg #[.int .i64 0, .int .i64 0, .int .i64 0, .slice none 0 0, .slice none 0 0, .slice none 0 0], .int .i64 E])) w' :=
  ⟨hb, E, 0, 0, 0, none, 0, [], none, 0, [], none, 0, [], rfl, PushNew.nil _ _, ⟨fun h => absurd h hE, fun ⟨h1, x, h2⟩ => absurd h2 (hn x h1)⟩, fun x h1 h2 => absurd h2 (hn x h1)⟩
theorem LiftAns.yes {w w' : World} {N s t v : Nat} {l : List Arc3} {f h : List Int} {u : Int} {a1 a2 a3 : Option Addr} {c1 c2 c3 : Nat} (C : CanLift N s t l f h v u) (hU : ∀ x, CanLift N s t l f h v x → x = u) (hb : Below w.heap.size w w')
    (hN : PushNew w' w.heap.size a1 c1 l a2 c2 f a3 c3 (h.set v u)) (hf : f.length = l.length) (hh : h.length = N) :
    LiftAns w N s t l f h v (.returned (.tuple #[.agg #[.int .i64 (N : Int), .int .i64 (s : Int), .int .i64 (t : Int), .slice a1 l.length c1, .slice a2 l.length c2, .slice a3 N c3], .int .i64 0])) w' :=
  ⟨hb, 0, N, s, t, a1, c1, l, a2, c2, f, a3, c3, h.set v u, by rw [List.length_set, hf, hh], hN, ⟨fun _ => ⟨Int.natCast_nonneg _, u, C⟩, fun _ => rfl⟩, fun x _ h => ⟨rfl, rfl, rfl, rfl, rfl, by rw [hU x h]; rfl⟩⟩

set_option maxHeartbeats 4000000 in
theorem PLift_own (N s t : Nat) (v : Int) (ao af ah : Option Addr) (cap cf ch : Nat) (l : List Arc3) (f h : List Int) (w : World) (H : PushOk N s t l f h) (hP : PushIn w ao cap l af cf f ah ch h) :
    Calls Try.prog 11 #[.agg #[.int .i64 (N : Int), .int .i64 (s : Int), .int .i64 (t : Int), .slice ao l.length cap, .slice af l.length cf, .slice ah N ch], .int .i64 v] w fun e w' => LiftAns w N s t l f h v e w' := by
  have hP2 := (hP.alloc (.cells #[.int .i64 (N : Int), .int .i64 (s : Int), .int .i64 (t : Int), .slice ao l.length cap, .slice af l.length cf, .slice ah N ch] 28)).alloc (.cells #[.int .i64 0, .int .i64 0, .int .i64 0, .slice none 0 0, .slice none 0 0, .slice none 0 0] 28)
  have hck := PCheck_any N s t ao af ah cap cf ch l f h _ H hP2
  rw [H.flen, H.hlen] at hck
  have HOk : Hid (PushOk N s t l f h) := H
  have HHl : Hid (h.length = N) := H.hlen
  have HFl : Hid (f.length = l.length) := H.flen
  obtain ⟨hs, ht, hst, _, hN, hl60⟩ := H.st
  have x0 : ((w.alloc (.cells #[.int .i64 (N : Int), .int .i64 (s : Int), .int .i64 (t : Int), .slice ao l.length cap, .slice af l.length cf, .slice ah N ch] 28)).alloc (.cells #[.int .i64 0, .int .i64 0, .int .i64 0, .slice none 0 0, .slice none 0 0, .slice none 0 0] 28)).heap[w.heap.size]? = some (.cells #[.int .i64 (N : Int), .int .i64 (s : Int), .int .i64 (t : Int), .slice ao l.length cap, .slice af l.length cf, .slice ah N ch] 28 (0, 0)) := blk_old (blk_new w _) _
  have z0 : ((w.alloc (.cells #[.int .i64 (N : Int), .int .i64 (s : Int), .int .i64 (t : Int), .slice ao l.length cap, .slice af l.length cf, .slice ah N ch] 28)).alloc (.cells #[.int .i64 0, .int .i64 0, .int .i64 0, .slice none 0 0, .slice none 0 0, .slice none 0 0] 28)).heap[w.heap.size + 1]? = some (.cells #[.int .i64 0, .int .i64 0, .int .i64 0, .slice none 0 0, .slice none 0 0, .slice none 0 0] 28 (0, 0)) := blk_new1
  have HP : Hid (PushIn w ao cap l af cf f ah ch h) := hP
  clear hP H hP2
  have e0 : ((0 : Int) != 0) = false := rfl
  go_enter Try.func11, Try.ntmps11
  go_wp2_with fail
  refine hck.mono ?_
  clear hck
  rintro e w1 ⟨hb1, rfl⟩
  simp only [World.size_alloc] at hb1
  have hz1 := hb1.size
  simp only [World.size_alloc] at hz1
  have x1 := blk_below hb1 x0 (by omega)
  have z1 := blk_below hb1 z0 (by omega)
  have HB1 : Hid (Below w.heap.size w w1) := ((((Below.refl _ _).alloc (Nat.le_refl _) _).alloc (by simp) _).trans (hb1.mono (by omega)))
  have HX1 : Hid (w1.heap[w.heap.size]? = some (.cells #[.int .i64 (N : Int), .int .i64 (s : Int), .int .i64 (t : Int), .slice ao l.length cap, .slice af l.length cf, .slice ah N ch] 28 (0, 0))) := x1
  have HZ1 : Hid (w1.heap[w.heap.size + 1]? = some (.cells #[.int .i64 0, .int .i64 0, .int .i64 0, .slice none 0 0, .slice none 0 0, .slice none 0 0] 28 (0, 0))) := z1
  have hw1 : w.heap.size < w1.heap.size := by omega
  have hw1' : w.heap.size + 1 < w1.heap.size := by omega
  have HP1 : Hid (PushIn w1 ao cap l af cf f ah ch h) := HP.out.below HB1.out (Nat.le_refl _)
  obtain ⟨⟨m0, m1, m2, m3, m4, m5⟩, _⟩ := blk6 x1
  clear hb1 x0 z0 x1 z1 hz1
  by_cases hv0 : v < 0
  · have e1 : decide (v < 0) = true := decide_eq_true hv0
    have HNo : Hid (NoLift N s t l f h v) := fun x h => by omega
    clear hv0
    go_wp2_with (refine wpList_store_push rfl (.tmp 4) (.tmp 24) rfl (w.heap.size + 1) _ _ _ _ _ _ 0 0 0 none none none 0 0 0 0 0 0 rfl rfl HZ1.out ?_; intro w4 ho4 hb4 hs4)
    obtain ⟨⟨q0, q1, q2, q3, q4, q5⟩, _⟩ := blk6 hb4
    (try simp only [Exit.inBlock, Exit.then])
    refine bodyPost_ret (v := .tuple #[.agg #[.int .i64 0, .int .i64 0, .int .i64 0, .slice none 0 0, .slice none 0 0, .slice none 0 0], .int .i64 4]) (by simp [results, Try.results11, go_sem, q0, q1, q2, q3, q4, q5]) rfl (LiftAns.no (by decide) HNo.out (HB1.out.trans (ho4.below (by omega) (by omega))))
  · obtain ⟨v, rfl⟩ := Int.eq_ofNat_of_zero_le (show 0 ≤ v by omega)
    have e1 : decide ((v : Int) < 0) = false := decide_eq_false hv0
    clear hv0
    by_cases hvN : (N : Int) ≤ (v : Int)
    · have e2 : decide ((N : Int) ≤ (v : Int)) = true := decide_eq_true hvN
      have HNo : Hid (NoLift N s t l f h v) := fun x _ C => by rw [Int.toNat_natCast] at C; have := C.lt; omega
      go_wp2_with (refine wpList_store_push rfl (.tmp 4) (.tmp 24) rfl (w.heap.size + 1) _ _ _ _ _ _ 0 0 0 none none none 0 0 0 0 0 0 rfl rfl HZ1.out ?_; intro w4 ho4 hb4 hs4)
      obtain ⟨⟨q0, q1, q2, q3, q4, q5⟩, _⟩ := blk6 hb4
      (try simp only [Exit.inBlock, Exit.then])
      refine bodyPost_ret (v := .tuple #[.agg #[.int .i64 0, .int .i64 0, .int .i64 0, .slice none 0 0, .slice none 0 0, .slice none 0 0], .int .i64 4]) (by simp [results, Try.results11, go_sem, q0, q1, q2, q3, q4, q5]) rfl (LiftAns.no (by decide) HNo.out (HB1.out.trans (ho4.below (by omega) (by omega))))
    · have e2 : decide ((N : Int) ≤ (v : Int)) = false := decide_eq_false hvN
      have hvl : v < N := by omega
      clear hvN
      obtain ⟨b, hb⟩ : ∃ b : Bool, b = true ↔ BusyN s t l f v := by
        classical exact ⟨decide (BusyN s t l f v), decide_eq_true_iff⟩
      have hbu := isBusy_any v b ao af ah cap cf ch w1 HOk.out hvl hb HP1.out
      have HBu : Hid (b = true ↔ BusyN s t l f v) := hb
      clear hb
      go_wp2_with fail
      refine hbu.mono ?_
      clear hbu
      rintro e w2 ⟨hb2, rfl⟩
      have hz2 := hb2.size
      have x2 := blk_below hb2 HX1.out hw1
      have HB2 : Hid (Below w.heap.size w w2) := HB1.out.trans (hb2.mono (by omega))
      have HX2 : Hid (w2.heap[w.heap.size]? = some (.cells #[.int .i64 (N : Int), .int .i64 (s : Int), .int .i64 (t : Int), .slice ao l.length cap, .slice af l.length cf, .slice ah N ch] 28 (0, 0))) := x2
      have HZ2 : Hid (w2.heap[w.heap.size + 1]? = some (.cells #[.int .i64 0, .int .i64 0, .int .i64 0, .slice none 0 0, .slice none 0 0, .slice none 0 0] 28 (0, 0))) := blk_below hb2 HZ1.out hw1'
      have hw2 : w.heap.size < w2.heap.size := by omega
      have hw2' : w.heap.size + 1 < w2.heap.size := by omega
      have HP2 : Hid (PushIn w2 ao cap l af cf f ah ch h) := HP.out.below HB2.out (Nat.le_refl _)
      clear m0 m1 m2 m3 m4 m5 hb2 HX1 HZ1 HB1 HP1 hz2 hw1 hw1'
      obtain ⟨⟨m0, m1, m2, m3, m4, m5⟩, _⟩ := blk6 x2
      clear x2
      cases b with
      | false =>
        have HNo : Hid (NoLift N s t l f h v) := fun x _ C => by rw [Int.toNat_natCast] at C; exact Bool.false_ne_true (HBu.out.2 C.busy)
        go_wp2_with (refine wpList_store_push rfl (.tmp 4) (.tmp 29) rfl (w.heap.size + 1) _ _ _ _ _ _ 0 0 0 none none none 0 0 0 0 0 0 rfl rfl HZ2.out ?_; intro w4 ho4 hb4 hs4)
        obtain ⟨⟨q0, q1, q2, q3, q4, q5⟩, _⟩ := blk6 hb4
        (try simp only [Exit.inBlock, Exit.then])
        refine bodyPost_ret (v := .tuple #[.agg #[.int .i64 0, .int .i64 0, .int .i64 0, .slice none 0 0, .slice none 0 0, .slice none 0 0], .int .i64 9]) (by simp [results, Try.results11, go_sem, q0, q1, q2, q3, q4, q5]) rfl (LiftAns.no (by decide) HNo.out (HB2.out.trans (ho4.below (by omega) (by omega))))
      | true =>
        have HBy : Hid (BusyN s t l f v) := HBu.out.1 rfl
        have hlo := lowest_any v ao af ah cap cf ch w2 HOk.out HP2.out
        clear HBu
        go_wp2_with fail
        refine hlo.mono ?_
        clear hlo
        rintro e w3 ⟨hb3, m, rfl, hLow⟩
        have hmb := hLow.bound HOk.out (Nat.le_refl _)
        have HLi : Hid (∀ x, CanLift N s t l f h v x ↔ x = m + 1 ∧ BusyN s t l f v ∧ ati h v < m + 1 ∧ m + 1 ≤ 2 * (N : Int)) := fun x => hLow.lift HOk.out hvl
        have hz3 := hb3.size
        have x3 := blk_below hb3 HX2.out hw2
        have HB3 : Hid (Below w.heap.size w w3) := HB2.out.trans (hb3.mono (by omega))
        have HX3 : Hid (w3.heap[w.heap.size]? = some (.cells #[.int .i64 (N : Int), .int .i64 (s : Int), .int .i64 (t : Int), .slice ao l.length cap, .slice af l.length cf, .slice ah N ch] 28 (0, 0))) := x3
        have HZ3 : Hid (w3.heap[w.heap.size + 1]? = some (.cells #[.int .i64 0, .int .i64 0, .int .i64 0, .slice none 0 0, .slice none 0 0, .slice none 0 0] 28 (0, 0))) := blk_below hb3 HZ2.out hw2'
        have hw3 : w.heap.size < w3.heap.size := by omega
        have hw3' : w.heap.size + 1 < w3.heap.size := by omega
        have HP3 : Hid (PushIn w3 ao cap l af cf f ah ch h) := HP.out.below HB3.out (Nat.le_refl _)
        have hhb := HOk.out.high v hvl
        clear m0 m1 m2 m3 m4 m5 hb3 hLow HX2 HZ2 HB2 HP2 hz3 hw2 hw2'
        obtain ⟨⟨m0, m1, m2, m3, m4, m5⟩, _⟩ := blk6 x3
        clear x3
        obtain ⟨b3, o3, rfl, hb3, d0⟩ := HP3.out.hgt.ints v (by rw [HHl.out]; exact hvl)
        obtain ⟨y, hy⟩ : ∃ y, ati h v = y := ⟨_, rfl⟩
        have HY : Hid (ati h v = y) := hy
        rw [hy] at d0 hhb
        have hvi : (v : Int) < (N : Int) := by omega
        obtain ⟨u, hu⟩ : ∃ u, m + 1 = u := ⟨_, rfl⟩
        have HU : Hid (m + 1 = u) := hu
        have v1 : IntKind.i64.wrap (m + 1) = u := by rw [IntKind.wrap_i64]; omega
        have hub : 0 < u ∧ u ≤ 30 := by omega
        clear hy hu hmb
        by_cases hup : u ≤ y
        · have e3 : decide (u ≤ y) = true := decide_eq_true hup
          have HNo : Hid (NoLift N s t l f h v) := fun x _ C => by
            rw [Int.toNat_natCast] at C
            have h1 := ((HLi.out x).1 C).2.2.1
            rw [HU.out, HY.out] at h1; omega
          clear hup
          go_wp2_with (refine wpList_store_push rfl (.tmp 4) (.tmp 48) rfl (w.heap.size + 1) _ _ _ _ _ _ 0 0 0 none none none 0 0 0 0 0 0 rfl rfl HZ3.out ?_; intro w4 ho4 hb4 hs4)
          obtain ⟨⟨q0, q1, q2, q3, q4, q5⟩, _⟩ := blk6 hb4
          (try simp only [Exit.inBlock, Exit.then])
          refine bodyPost_ret (v := .tuple #[.agg #[.int .i64 0, .int .i64 0, .int .i64 0, .slice none 0 0, .slice none 0 0, .slice none 0 0], .int .i64 9]) (by simp [results, Try.results11, go_sem, q0, q1, q2, q3, q4, q5]) rfl (LiftAns.no (by decide) HNo.out (HB3.out.trans (ho4.below (by omega) (by omega))))
        · have e3 : decide (u ≤ y) = false := decide_eq_false hup
          have htop := top_any N s t ao l.length cap w3 hN
          have HUp : Hid (y < u) := by show y < u; omega
          clear hup
          go_wp2_with fail
          refine htop.mono ?_
          clear htop
          rintro e w4 ⟨hb4, rfl⟩
          have hz4 := hb4.size
          have x4 := blk_below hb4 HX3.out hw3
          have HB4 : Hid (Below w.heap.size w w4) := HB3.out.trans (hb4.mono (by omega))
          have HZ4 : Hid (w4.heap[w.heap.size + 1]? = some (.cells #[.int .i64 0, .int .i64 0, .int .i64 0, .slice none 0 0, .slice none 0 0, .slice none 0 0] 28 (0, 0))) := blk_below hb4 HZ3.out hw3'
          have hw4 : w.heap.size < w4.heap.size := by omega
          have hw4' : w.heap.size + 1 < w4.heap.size := by omega
          have HP4 : Hid (PushIn w4 ao cap l af cf f (some ⟨b3, o3, none⟩) ch h) := HP.out.below HB4.out (Nat.le_refl _)
          clear m0 m1 m2 m3 m4 m5 d0 hb4 HX3 HZ3 HB3 HP3 hz4 hw3 hw3'
          obtain ⟨⟨m0, m1, m2, m3, m4, m5⟩, _⟩ := blk6 x4
          clear x4
          by_cases hto : 2 * (N : Int) < u
          · have e4 : decide (2 * (N : Int) < u) = true := decide_eq_true hto
            have HNo : Hid (NoLift N s t l f h v) := fun x _ C => by
              rw [Int.toNat_natCast] at C
              have h1 := ((HLi.out x).1 C).2.2.2
              rw [HU.out] at h1; omega
            clear hto
            go_wp2_with (refine wpList_store_push rfl (.tmp 4) (.tmp 48) rfl (w.heap.size + 1) _ _ _ _ _ _ 0 0 0 none none none 0 0 0 0 0 0 rfl rfl HZ4.out ?_; intro w5 ho4 hb4 hs4)
            obtain ⟨⟨q0, q1, q2, q3, q4, q5⟩, _⟩ := blk6 hb4
            (try simp only [Exit.inBlock, Exit.then])
            refine bodyPost_ret (v := .tuple #[.agg #[.int .i64 0, .int .i64 0, .int .i64 0, .slice none 0 0, .slice none 0 0, .slice none 0 0], .int .i64 9]) (by simp [results, Try.results11, go_sem, q0, q1, q2, q3, q4, q5]) rfl (LiftAns.no (by decide) HNo.out (HB4.out.trans (ho4.below (by omega) (by omega))))
          · have e4 : decide (2 * (N : Int) < u) = false := decide_eq_false hto
            have HCan : Hid (CanLift N s t l f h v u) := (HLi.out u).2 ⟨HU.out.symm, HBy.out, by rw [HU.out, HY.out]; exact HUp.out, by rw [HU.out]; omega⟩
            have HUn : Hid (∀ x, CanLift N s t l f h v x → x = u) := fun x C => ((HLi.out x).1 C).1.trans HU.out
            have hcl := pclone_any N s t ao af (some ⟨b3, o3, none⟩) cap cf ch l f h w4 hl60 (by rw [HFl.out]; exact hl60) (by rw [HHl.out]; omega) HP4.out
            rw [HFl.out, HHl.out] at hcl
            clear hto HLi
            go_wp2_with fail
            refine hcl.mono ?_
            clear hcl
            rintro e w5 ⟨hb5, a1, c1, a2, c2, a3, c3, rfl, hN5⟩
            have hz5 := hb5.size
            obtain ⟨g, rfl, hg5, hgz, hgc, d5, f5⟩ := hN5.hgt.at (i := v) (by rw [HHl.out]; exact hvl)
            have HB5 : Hid (Below w.heap.size w w5) := HB4.out.trans (hb5.mono (by omega))
            have HZ5 : Hid (w5.heap[w.heap.size + 1]? = some (.cells #[.int .i64 0, .int .i64 0, .int .i64 0, .slice none 0 0, .slice none 0 0, .slice none 0 0] 28 (0, 0))) := blk_below hb5 HZ4.out hw4'
            have HN5 : Hid (PushNew w5 w4.heap.size a1 c1 l a2 c2 f (some ⟨g, 0, none⟩) c3 h) := hN5
            have hw5 : w.heap.size < w5.heap.size := by omega
            have hw5' : w.heap.size + 1 < w5.heap.size := by omega
            have hgn : g ≠ w.heap.size + 1 := by omega
            have hgn5 : g ≠ w5.heap.size := by omega
            rw [HHl.out] at hgc
            clear m0 m1 m2 m3 m4 m5 hb5 hN5 HZ4 HB4 HP4
            have HZ6 : Hid (((w5.setCell ⟨g, v, none⟩ (.int .i64 u)).alloc (.cells #[.int .i64 (N : Int), .int .i64 (s : Int), .int .i64 (t : Int), .slice a1 l.length c1, .slice a2 l.length c2, .slice (some ⟨g, 0, none⟩) N c3] 28)).heap[w.heap.size + 1]? = some (.cells #[.int .i64 0, .int .i64 0, .int .i64 0, .slice none 0 0, .slice none 0 0, .slice none 0 0] 28 (0, 0))) := blk_old ((Below.heap_setCell _ _ _ _ (by simp; omega)).trans HZ5.out) _
            go_wp2_with (refine wpList_store_push rfl (.tmp 4) (.tmp 56) rfl (w.heap.size + 1) _ _ _ _ _ _ N s t a1 a2 (some ⟨g, 0, none⟩) l.length c1 l.length c2 N c3 rfl rfl HZ6.out ?_; intro w6 ho6 hb6 hs6)
            obtain ⟨⟨q0, q1, q2, q3, q4, q5⟩, _⟩ := blk6 hb6
            have HN6 := ((HN5.out.setH (i := v) (by rw [HHl.out]; exact hvl) u).alloc (.cells #[.int .i64 (N : Int), .int .i64 (s : Int), .int .i64 (t : Int), .slice a1 l.length c1, .slice a2 l.length c2, .slice (some ⟨g, 0, none⟩) N c3] 28)).onlyN ho6 (by omega)
            (try simp only [Exit.inBlock, Exit.then])
            refine bodyPost_ret (v := .tuple #[.agg #[.int .i64 (N : Int), .int .i64 (s : Int), .int .i64 (t : Int), .slice a1 l.length c1, .slice a2 l.length c2, .slice (some ⟨g, 0, none⟩) N c3], .int .i64 0]) (by simp [results, Try.results11, go_sem, q0, q1, q2, q3, q4, q5]) rfl (LiftAns.yes HCan.out HUn.out (((HB5.out.setCell (p := ⟨g, v, none⟩) (by show w.heap.size ≤ g; omega) _).alloc (by simp; omega) _).trans (ho6.below (by omega) (by simp; omega))) (HN6.from_ (by omega)) HFl.out HHl.out)
theorem PLift_any : PLiftC := by
  intro N s t v ao af ah cap cf ch l f h w H hP
  rw [H.flen, H.hlen]
  exact (PLift_own N s t v ao af ah cap cf ch l f h w H hP).mono fun e w' h => h

end Go.Proofs.Ytgmifepfbcgfbaa
