/- Package push: Send. -/
import Derived.Test.YtgmifepfbcgfbaaPLift
import Derived.Test.YtgmifepfbcgfbaaOnw
import Derived.Lib.MinMax
import Derived.Deep.RegionHeld3
namespace Go.Proofs.Ytgmifepfbcgfbaa
open Go.RowKit
set_option linter.unusedVariables false

/-- nothing can be sent so -/
def NoSend (s t : Nat) (l : List Arc3) (f h : List Int) (k : Int) (d : Bool) : Prop := ¬ (0 ≤ k ∧ CanSend s t l f h k.toNat d)
/-- what Send answers -/
def SendAns (w : World) (N s t : Nat) (l : List Arc3) (f h : List Int) (k : Int) (d : Bool) (e : Ending) (w' : World) : Prop := Below w.heap.size w w' ∧
  ∃ E n' s' t' a1 c1 L a2 c2 F a3 c3 H, e = .returned (.tuple #[.agg #[.int .i64 n', .int .i64 s', .int .i64 t', .slice a1 (L : List Arc3).length c1, .slice a2 (F : List Int).length c2, .slice a3 (H : List Int).length c3], .int .i64 E]) ∧
    PushNew w' w.heap.size a1 c1 L a2 c2 F a3 c3 H ∧ (E = 0 ↔ 0 ≤ k ∧ CanSend s t l f h k.toNat d) ∧
    (E = 0 → n' = N ∧ s' = s ∧ t' = t ∧ L = l ∧ F = sentF f k.toNat d (amtN l f k.toNat d) ∧ H = h)
theorem SendAns.no {w w' : World} {N s t : Nat} {l : List Arc3} {f h : List Int} {k E : Int} {d : Bool} (hE : E ≠ 0) (hn : NoSend s t l f h k d) (hb : Below w.heap.size w w') :
    SendAns w N s t l f h k d (.returned (.tuple #[.agg #[.int .i64 0, .int .i64 0, .int .i64 0, .slice none 0 0, .slice none 0 0, .slice none 0 0], .int .i64 E])) w' :=
  ⟨hb, E, 0, 0, 0, none, 0, [], none, 0, [], none, 0, [], rfl, PushNew.nil _ _, ⟨fun h => absurd h hE, fun h => absurd h hn⟩, fun h => absurd h hE⟩
theorem SendAns.yes {w w' : World} {N s t k : Nat} {l : List Arc3} {f h : List Int} {d : Bool} {a1 a2 a3 : Option Addr} {c1 c2 c3 : Nat} (C : CanSend s t l f h k d) (hb : Below w.heap.size w w')
    (hN : PushNew w' w.heap.size a1 c1 l a2 c2 (sentF f k d (amtN l f k d)) a3 c3 h) (hf : f.length = l.length) (hh : h.length = N) :
    SendAns w N s t l f h k d (.returned (.tuple #[.agg #[.int .i64 (N : Int), .int .i64 (s : Int), .int .i64 (t : Int), .slice a1 l.length c1, .slice a2 l.length c2, .slice a3 N c3], .int .i64 0])) w' :=
  ⟨hb, 0, N, s, t, a1, c1, l, a2, c2, sentF f k d (amtN l f k d), a3, c3, h, by rw [sent_len, hf, hh], hN, ⟨fun _ => ⟨Int.natCast_nonneg _, C⟩, fun _ => rfl⟩, fun _ => ⟨rfl, rfl, rfl, rfl, rfl, rfl⟩⟩

set_option maxHeartbeats 2000000 in
set_option maxRecDepth 100000 in
theorem PSend_own (N s t : Nat) (k : Int) (d : Bool) (ao af ah : Option Addr) (cap cf ch : Nat) (l : List Arc3) (f h : List Int) (w : World) (H : PushOk N s t l f h) (hP : PushIn w ao cap l af cf f ah ch h) :
    Calls Try.prog 12 #[.agg #[.int .i64 (N : Int), .int .i64 (s : Int), .int .i64 (t : Int), .slice ao l.length cap, .slice af l.length cf, .slice ah N ch], .int .i64 k, .bool d] w fun e w' => SendAns w N s t l f h k d e w' := by
  have hP2 := (hP.alloc (.cells #[.int .i64 (N : Int), .int .i64 (s : Int), .int .i64 (t : Int), .slice ao l.length cap, .slice af l.length cf, .slice ah N ch] 28)).alloc (.cells #[.int .i64 0, .int .i64 0, .int .i64 0, .slice none 0 0, .slice none 0 0, .slice none 0 0] 28)
  have hck := PCheck_any N s t ao af ah cap cf ch l f h _ H hP2
  rw [H.flen, H.hlen] at hck
  have HOk : Hid (PushOk N s t l f h) := H
  have HHl : Hid (h.length = N) := H.hlen
  have HFl : Hid (f.length = l.length) := H.flen
  obtain ⟨hs, ht, hst, _, hN, hl60⟩ := H.st
  have x0 : ((w.alloc (.cells #[.int .i64 (N : Int), .int .i64 (s : Int), .int .i64 (t : Int), .slice ao l.length cap, .slice af l.length cf, .slice ah N ch] 28)).alloc (.cells #[.int .i64 0, .int .i64 0, .int .i64 0, .slice none 0 0, .slice none 0 0, .slice none 0 0] 28)).heap[w.heap.size]? = some (.cells #[.int .i64 (N : Int), .int .i64 (s : Int), .int .i64 (t : Int), .slice ao l.length cap, .slice af l.length cf, .slice ah N ch] 28 (0, 0)) := blk_old (blk_new w _) _
  have z0 : ((w.alloc (.cells #[.int .i64 (N : Int), .int .i64 (s : Int), .int .i64 (t : Int), .slice ao l.length cap, .slice af l.length cf, .slice ah N ch] 28)).alloc (.cells #[.int .i64 0, .int .i64 0, .int .i64 0, .slice none 0 0, .slice none 0 0, .slice none 0 0] 28)).heap[w.heap.size + 1]? = some (.cells #[.int .i64 0, .int .i64 0, .int .i64 0, .slice none 0 0, .slice none 0 0, .slice none 0 0] 28 (0, 0)) := blk_new1
  have HP : Hid (PushIn w ao cap l af cf f ah ch h) := hP
  clear hP H hP2
  have e0 : ((0 : Int) != 0) = false := rfl
  go_enter Try.func12, Try.ntmps12
  go_wp2_with fail
  refine hck.mono ?_
  clear hck
  rintro e w1 ⟨hb1, rfl⟩
  simp only [World.size_alloc] at hb1
  have hz1 := hb1.size
  simp only [World.size_alloc] at hz1
  have x1 := blk_below hb1 x0 (by omega)
  have z1 := blk_below hb1 z0 (by omega)
  have HB1 : Hid (Below w.heap.size w w1) := ((((Below.refl _ _).alloc (Nat.le_refl _) _).alloc (by simp) _).trans (hb1.mono (by omega)))
  have HX1 : Hid (w1.heap[w.heap.size]? = some (.cells #[.int .i64 (N : Int), .int .i64 (s : Int), .int .i64 (t : Int), .slice ao l.length cap, .slice af l.length cf, .slice ah N ch] 28 (0, 0))) := x1
  have HZ1 : Hid (w1.heap[w.heap.size + 1]? = some (.cells #[.int .i64 0, .int .i64 0, .int .i64 0, .slice none 0 0, .slice none 0 0, .slice none 0 0] 28 (0, 0))) := z1
  have hw1 : w.heap.size < w1.heap.size := by omega
  have hw1' : w.heap.size + 1 < w1.heap.size := by omega
  have HP1 : Hid (PushIn w1 ao cap l af cf f ah ch h) := HP.out.below HB1.out (Nat.le_refl _)
  obtain ⟨⟨m0, m1, m2, m3, m4, m5⟩, _⟩ := blk6 x1
  clear hb1 x0 z0 x1 z1 hz1
  by_cases hk0 : k < 0
  · have e1 : decide (k < 0) = true := decide_eq_true hk0
    have HNo : Hid (NoSend s t l f h k d) := fun ⟨c, _⟩ => by omega
    clear hk0
    go_wp2_with (refine wpList_store_push rfl (.tmp 6) (.tmp 28) rfl (w.heap.size + 1) _ _ _ _ _ _ 0 0 0 none none none 0 0 0 0 0 0 rfl rfl HZ1.out ?_; intro w9 ho9 hb9 hs9)
    obtain ⟨⟨q0, q1, q2, q3, q4, q5⟩, _⟩ := blk6 hb9
    (try simp only [Exit.inBlock, Exit.then])
    refine bodyPost_ret (v := .tuple #[.agg #[.int .i64 0, .int .i64 0, .int .i64 0, .slice none 0 0, .slice none 0 0, .slice none 0 0], .int .i64 5]) (by simp [results, Try.results12, go_sem, q0, q1, q2, q3, q4, q5]) rfl (SendAns.no (by decide) HNo.out (HB1.out.trans (ho9.below (by omega) (by omega))))
  · obtain ⟨k, rfl⟩ := Int.eq_ofNat_of_zero_le (show 0 ≤ k by omega)
    have e1 : decide ((k : Int) < 0) = false := decide_eq_false hk0
    clear hk0
    by_cases hkl : (l.length : Int) ≤ (k : Int)
    · have e2 : decide ((l.length : Int) ≤ (k : Int)) = true := decide_eq_true hkl
      have HNo : Hid (NoSend s t l f h k d) := fun ⟨_, C⟩ => by
        have := C.lt
        rw [Int.toNat_natCast] at this
        omega
      have hkn : l.length ≤ k := by omega
      clear hkl
      go_wp2_with (refine wpList_store_push rfl (.tmp 6) (.tmp 28) rfl (w.heap.size + 1) _ _ _ _ _ _ 0 0 0 none none none 0 0 0 0 0 0 rfl rfl HZ1.out ?_; intro w9 ho9 hb9 hs9)
      obtain ⟨⟨q0, q1, q2, q3, q4, q5⟩, _⟩ := blk6 hb9
      (try simp only [Exit.inBlock, Exit.then])
      refine bodyPost_ret (v := .tuple #[.agg #[.int .i64 0, .int .i64 0, .int .i64 0, .slice none 0 0, .slice none 0 0, .slice none 0 0], .int .i64 5]) (by simp [results, Try.results12, go_sem, q0, q1, q2, q3, q4, q5]) rfl (SendAns.no (by decide) HNo.out (HB1.out.trans (ho9.below (by omega) (by omega))))
    · have e2 : decide ((l.length : Int) ≤ (k : Int)) = false := decide_eq_false hkl
      have hk : k < l.length := by omega
      have HKi : Hid ((k : Int) < (l.length : Int)) := by show (k : Int) < _; omega
      clear hkl
      have hsb := stepBy_any k d ao af ah cap cf ch w1 HOk.out hk HP1.out
      go_wp2_with fail
      refine hsb.mono ?_
      clear hsb
      rintro e w2 ⟨hb2, rfl⟩
      have hz2 := hb2.size
      have x2 := blk_below hb2 HX1.out hw1
      have z2 := blk_below hb2 HZ1.out hw1'
      obtain ⟨hpN, hqN⟩ := ends_lt HOk.out.net hk d
      have hrb := room_nonneg HOk.out hk d
      have HRb : Hid (0 ≤ room l f k d ∧ room l f k d ≤ 10000) := ⟨hrb, by
        have h1 := HOk.out.bnd k hk
        have h2 := (arc_at HOk.out.net hk).2.2.2.2
        unfold room; cases d <;> simp <;> omega⟩
      have HCan : Hid (CanSend s t l f h k d ↔ BusyN s t l f (frmN l k d) ∧ ati h (frmN l k d) = ati h (towN l k d) + 1 ∧ room l f k d ≠ 0) :=
        ⟨fun C => ⟨C.busy, C.high, by have := C.room; omega⟩, fun ⟨c1, c2, c3⟩ => ⟨hk, c1, c2, by omega⟩⟩
      have HAm : Hid (amtN l f k d = min (room l f k d) (-gone l (ati f) (frmN l k d))) := rfl
      obtain ⟨bz, hbz⟩ : ∃ b : Bool, b = true ↔ BusyN s t l f (frmN l k d) := by
        classical exact ⟨decide (BusyN s t l f (frmN l k d)), decide_eq_true_iff⟩
      have hh1 := HOk.out.high _ hpN
      have hh2 := HOk.out.high _ hqN
      have HWa : Hid (-600000 ≤ -gone l (ati f) (frmN l k d) ∧ -gone l (ati f) (frmN l k d) ≤ 600000) := by
        have := HOk.out.bound (frmN l k d)
        show _ ∧ _
        omega
      clear hrb m0 m1 m2 m3 m4 m5
      generalize frmN l k d = p at *
      generalize towN l k d = q at *
      obtain ⟨y, hy⟩ : ∃ y, room l f k d = y := ⟨_, rfl⟩
      rw [hy] at HRb HCan HAm
      rw [hy]
      clear hy
      have HB2 : Hid (Below w.heap.size w (w2.alloc (.cells #[.int .i64 (p : Int), .int .i64 (q : Int), .int .i64 y] 63))) := (HB1.out.trans (hb2.mono (by omega))).alloc (by omega) _
      have HX2 : Hid ((w2.alloc (.cells #[.int .i64 (p : Int), .int .i64 (q : Int), .int .i64 y] 63)).heap[w.heap.size]? = some (.cells #[.int .i64 (N : Int), .int .i64 (s : Int), .int .i64 (t : Int), .slice ao l.length cap, .slice af l.length cf, .slice ah N ch] 28 (0, 0))) := blk_old x2 _
      have HZ2 : Hid ((w2.alloc (.cells #[.int .i64 (p : Int), .int .i64 (q : Int), .int .i64 y] 63)).heap[w.heap.size + 1]? = some (.cells #[.int .i64 0, .int .i64 0, .int .i64 0, .slice none 0 0, .slice none 0 0, .slice none 0 0] 28 (0, 0))) := blk_old z2 _
      have HS2 : Hid ((w2.alloc (.cells #[.int .i64 (p : Int), .int .i64 (q : Int), .int .i64 y] 63)).heap[w2.heap.size]? = some (.cells #[.int .i64 (p : Int), .int .i64 (q : Int), .int .i64 y] 63 (0, 0))) := blk_new _ _
      have hwW0 : w.heap.size < (w2.alloc (.cells #[.int .i64 (p : Int), .int .i64 (q : Int), .int .i64 y] 63)).heap.size := by simp; omega
      have hwW1 : w.heap.size + 1 < (w2.alloc (.cells #[.int .i64 (p : Int), .int .i64 (q : Int), .int .i64 y] 63)).heap.size := by simp; omega
      have hwW2 : w2.heap.size < (w2.alloc (.cells #[.int .i64 (p : Int), .int .i64 (q : Int), .int .i64 y] 63)).heap.size := by simp
      have hR : w.heap.size + 1 < w2.heap.size := by omega
      obtain ⟨⟨m0, m1, m2, m3, m4, m5⟩, _⟩ := blk6 (blk_old x2 (.cells #[.int .i64 (p : Int), .int .i64 (q : Int), .int .i64 y] 63))
      obtain ⟨n0, n1, n2⟩ := blk3 HS2.out
      clear x2 z2 hb2 HX1 HZ1 HB1 HP1 hz2 hw1 hw1'
      go_wp2
      obtain ⟨W, hW⟩ : ∃ W, (w2.alloc (.cells #[.int .i64 (p : Int), .int .i64 (q : Int), .int .i64 y] 63)) = W := ⟨_, rfl⟩
      rw [hW] at HB2 HX2 HZ2 HS2 hwW0 hwW1 hwW2 m0 m1 m2 m3 m4 m5 n0 n1 n2
      rw [hW]
      obtain ⟨R, hRR⟩ : ∃ R, w2.heap.size = R := ⟨_, rfl⟩
      rw [hRR] at HS2 hwW2 n0 n1 n2 hR
      rw [hRR]
      clear hW hRR
      have HPW : Hid (PushIn W ao cap l af cf f ah ch h) := HP.out.below HB2.out (Nat.le_refl _)
      obtain ⟨b3, o3, rfl, hb3, d0⟩ := HPW.out.hgt.ints p (by rw [HHl.out]; exact hpN)
      obtain ⟨b4, o4, e4, _, d1⟩ := HPW.out.hgt.ints q (by rw [HHl.out]; exact hqN)
      cases e4
      have HCB : Hid (∀ W' : World, Below W.heap.size W W' → Calls Try.prog 27 #[.agg #[.int .i64 (N : Int), .int .i64 (s : Int), .int .i64 (t : Int), .slice ao l.length cap, .slice af l.length cf, .slice (some ⟨b3, o3, none⟩) N ch], .int .i64 (p : Int)] W' fun e w' => Below W.heap.size W w' ∧ e = .returned (.bool bz)) := fun W' hW' =>
        (isBusy_any p bz ao af (some ⟨b3, o3, none⟩) cap cf ch W' HOk.out hpN hbz (HPW.out.below hW' (Nat.le_refl _))).mono fun e w' ⟨h1, h2⟩ => ⟨hW'.trans (h1.mono hW'.size), h2⟩
      have HCW : Hid (∀ W' : World, Below W.heap.size W W' → Calls Try.prog 32 #[.agg #[.int .i64 (N : Int), .int .i64 (s : Int), .int .i64 (t : Int), .slice ao l.length cap, .slice af l.length cf, .slice (some ⟨b3, o3, none⟩) N ch]] W' fun e w' => Below W.heap.size W w' ∧ ∃ b, e = .returned (.slice (some ⟨b, 0, none⟩) N N) ∧ w'.rowIs b 3 N (fun j => .int .i64 (-gone l (ati f) (j : Int)))) := fun W' hW' =>
        (waitsP_any ao af (some ⟨b3, o3, none⟩) cap cf ch W' HOk.out (HPW.out.below hW' (Nat.le_refl _))).mono fun e w' ⟨h1, b, _, h2, h3⟩ => ⟨hW'.trans (h1.mono hW'.size), b, h2, h3⟩
      have HBz : Hid (bz = true ↔ BusyN s t l f p) := hbz
      obtain ⟨hp, hhp⟩ : ∃ x, ati h p = x := ⟨_, rfl⟩
      obtain ⟨hq, hhq⟩ : ∃ x, ati h q = x := ⟨_, rfl⟩
      rw [hhp] at d0 hh1 HCan
      rw [hhq] at d1 hh2 HCan
      clear hhp hhq hbz
      have hpi : (p : Int) < (N : Int) := by omega
      have hqi : (q : Int) < (N : Int) := by omega
      have v1 : IntKind.i64.wrap (hq + 1) = hq + 1 := by rw [IntKind.wrap_i64]; omega
      have HS : Hid (∀ x : World, Below W.heap.size W x → Below W.heap.size W x ∧ x.cell? ⟨w.heap.size, 0, none⟩ = some (.int .i64 (N : Int)) ∧ x.cell? ⟨w.heap.size, 1, none⟩ = some (.int .i64 (s : Int)) ∧ x.cell? ⟨w.heap.size, 2, none⟩ = some (.int .i64 (t : Int)) ∧ x.cell? ⟨w.heap.size, 3, none⟩ = some (.slice ao l.length cap) ∧ x.cell? ⟨w.heap.size, 4, none⟩ = some (.slice af l.length cf) ∧ x.cell? ⟨w.heap.size, 5, none⟩ = some (.slice (some ⟨b3, o3, none⟩) N ch) ∧ x.cell? ⟨R, 0, none⟩ = some (.int .i64 (p : Int)) ∧ x.cell? ⟨R, 1, none⟩ = some (.int .i64 (q : Int)) ∧ x.cell? ⟨R, 2, none⟩ = some (.int .i64 y) ∧ x.cell? ⟨b3, o3 + p, none⟩ = some (.int .i64 hp) ∧ x.cell? ⟨b3, o3 + q, none⟩ = some (.int .i64 hq)) :=
        fun x hx => ⟨hx, later hx m0 hwW0, later hx m1 hwW0, later hx m2 hwW0, later hx m3 hwW0, later hx m4 hwW0, later hx m5 hwW0, later hx n0 hwW2, later hx n1 hwW2, later hx n2 hwW2, later hx d0 hb3, later hx d1 hb3⟩
      have hne : Nonempty (Onw W) := ⟨⟨W, Below.refl _ _⟩⟩
      have F0 : ∀ j : Onw W, j.w.cell? ⟨w.heap.size, 0, none⟩ = some (.int .i64 (N : Int)) := fun j => (HS.out _ j.ok).2.1
      have F1 : ∀ j : Onw W, j.w.cell? ⟨w.heap.size, 1, none⟩ = some (.int .i64 (s : Int)) := fun j => (HS.out _ j.ok).2.2.1
      have F2 : ∀ j : Onw W, j.w.cell? ⟨w.heap.size, 2, none⟩ = some (.int .i64 (t : Int)) := fun j => (HS.out _ j.ok).2.2.2.1
      have F3 : ∀ j : Onw W, j.w.cell? ⟨w.heap.size, 3, none⟩ = some (.slice ao l.length cap) := fun j => (HS.out _ j.ok).2.2.2.2.1
      have F4 : ∀ j : Onw W, j.w.cell? ⟨w.heap.size, 4, none⟩ = some (.slice af l.length cf) := fun j => (HS.out _ j.ok).2.2.2.2.2.1
      have F5 : ∀ j : Onw W, j.w.cell? ⟨w.heap.size, 5, none⟩ = some (.slice (some ⟨b3, o3, none⟩) N ch) := fun j => (HS.out _ j.ok).2.2.2.2.2.2.1
      have F6 : ∀ j : Onw W, j.w.cell? ⟨R, 0, none⟩ = some (.int .i64 (p : Int)) := fun j => (HS.out _ j.ok).2.2.2.2.2.2.2.1
      have F7 : ∀ j : Onw W, j.w.cell? ⟨R, 1, none⟩ = some (.int .i64 (q : Int)) := fun j => (HS.out _ j.ok).2.2.2.2.2.2.2.2.1
      have F8 : ∀ j : Onw W, j.w.cell? ⟨R, 2, none⟩ = some (.int .i64 y) := fun j => (HS.out _ j.ok).2.2.2.2.2.2.2.2.2.1
      have F9 : ∀ j : Onw W, j.w.cell? ⟨b3, o3 + p, none⟩ = some (.int .i64 hp) := fun j => (HS.out _ j.ok).2.2.2.2.2.2.2.2.2.2.1
      have F10 : ∀ j : Onw W, j.w.cell? ⟨b3, o3 + q, none⟩ = some (.int .i64 hq) := fun j => (HS.out _ j.ok).2.2.2.2.2.2.2.2.2.2.2
      clear hh1 hh2 m0 m1 m2 m3 m4 m5 n0 n1 n2 d0 d1
      go_cut [58] (fun c wx => ∃ b : Bool, c = .bool b ∧ Hid (b = true ↔ ¬ CanSend s t l f h k d) ∧ Hid (Below W.heap.size W wx))
      case first =>
        cases bz with
        | false =>
          have HA : Hid (¬ CanSend s t l f h k d) := fun C => Bool.false_ne_true (HBz.out.2 (HCan.out.1 C).1)
          clear HCan HBz HAm HRb HWa HB2 HX2 HZ2 HS2 HPW HOk
          refine wp_region_onw (by kernel_rfl) (by kernel_rfl) ?_
          repeat (go_big_quiet_step ((go_at_call 27; refine (HCB.out _ (Onw.ok _)).mono ?_; rintro e w3 ⟨hb3', rfl⟩; exact ⟨rfl, ⟨w3, hb3'⟩, rfl⟩)))
          refine wpQuiet_nil ?_
          rintro x ⟨j, rfl⟩
          go_wp2
          go_meet
          case rel => exact ⟨true, rfl, ⟨fun _ => HA.out, fun _ => rfl⟩, j.ok⟩
        | true =>
          by_cases hh : hp = hq + 1
          · have e5 : (hp != hq + 1) = false := by simpa using hh
            have HA : Hid ((y == 0) = true ↔ ¬ CanSend s t l f h k d) := by
              rw [Hid, HCan.out]
              constructor
              · intro e c; exact c.2.2 (by simpa using e)
              · intro c
                by_cases e : y = 0
                · simpa using e
                · exact absurd ⟨HBz.out.1 rfl, hh, e⟩ c
            clear HCan HBz HAm HRb HWa HB2 HX2 HZ2 HS2 HPW HOk hh
            refine wp_region_onw (by kernel_rfl) (by kernel_rfl) ?_
            repeat (go_big_quiet_step ((go_at_call 27; refine (HCB.out _ (Onw.ok _)).mono ?_; rintro e w3 ⟨hb3', rfl⟩; exact ⟨rfl, ⟨w3, hb3'⟩, rfl⟩)))
            refine wpQuiet_nil ?_
            rintro x ⟨j, rfl⟩
            go_wp2
            go_meet
            case rel => exact ⟨_, rfl, HA, j.ok⟩
          · have e5 : (hp != hq + 1) = true := by simpa using hh
            have HA : Hid (¬ CanSend s t l f h k d) := fun C => hh (HCan.out.1 C).2.1
            clear HCan HBz HAm HRb HWa HB2 HX2 HZ2 HS2 HPW HOk hh
            refine wp_region_onw (by kernel_rfl) (by kernel_rfl) ?_
            repeat (go_big_quiet_step ((go_at_call 27; refine (HCB.out _ (Onw.ok _)).mono ?_; rintro e w3 ⟨hb3', rfl⟩; exact ⟨rfl, ⟨w3, hb3'⟩, rfl⟩)))
            refine wpQuiet_nil ?_
            rintro x ⟨j, rfl⟩
            go_wp2
            go_meet
            case rel => exact ⟨true, rfl, ⟨fun _ => HA.out, fun _ => rfl⟩, j.ok⟩
      case rest =>
        obtain ⟨b, rfl, HA, HBc⟩ := hcut
        have HBw : Hid (Below w.heap.size w wc) := HB2.out.trans (HBc.out.mono (by omega))
        have HZc : Hid (wc.heap[w.heap.size + 1]? = some (.cells #[.int .i64 0, .int .i64 0, .int .i64 0, .slice none 0 0, .slice none 0 0, .slice none 0 0] 28 (0, 0))) := blk_below HBc.out HZ2.out hwW1
        have hcz := HBc.out.size
        have hw1c : w.heap.size + 1 < wc.heap.size := by omega
        clear HCB HBz HB2 HZ2
        cases b with
        | true =>
          have HNo : Hid (NoSend s t l f h k d) := fun ⟨_, C⟩ => by
            rw [Int.toNat_natCast] at C
            exact HA.out.1 rfl C
          clear HA HCan
          go_wp2_with (refine wpList_store_push rfl (.tmp 6) (.tmp 59) rfl (w.heap.size + 1) _ _ _ _ _ _ 0 0 0 none none none 0 0 0 0 0 0 rfl rfl HZc.out ?_; intro w9 ho9 hb9 hs9)
          obtain ⟨⟨q0, q1, q2, q3, q4, q5⟩, _⟩ := blk6 hb9
          (try simp only [Exit.inBlock, Exit.then])
          refine bodyPost_ret (v := .tuple #[.agg #[.int .i64 0, .int .i64 0, .int .i64 0, .slice none 0 0, .slice none 0 0, .slice none 0 0], .int .i64 9]) (by simp [results, Try.results12, go_sem, q0, q1, q2, q3, q4, q5]) rfl (SendAns.no (by decide) HNo.out (HBw.out.trans (ho9.below (by omega) (by omega))))
        | false =>
          have HC : Hid (CanSend s t l f h k d) := by
            by_cases C : CanSend s t l f h k d
            · exact C
            · exact absurd (HA.out.2 C) Bool.false_ne_true
          clear HA HCan
          have s2 := HS.out _ HBc.out
          obtain ⟨_, m0, m1, m2, m3, m4, m5, n0, n1, n2, _, _⟩ := s2
          have hR2 : R < wc.heap.size := by omega
          have HCWc : Hid (∀ W' : World, Below wc.heap.size wc W' → Calls Try.prog 32 #[.agg #[.int .i64 (N : Int), .int .i64 (s : Int), .int .i64 (t : Int), .slice ao l.length cap, .slice af l.length cf, .slice (some ⟨b3, o3, none⟩) N ch]] W' fun e w' => Below wc.heap.size wc w' ∧ ∃ b, e = .returned (.slice (some ⟨b, 0, none⟩) N N) ∧ w'.rowIs b 3 N (fun j => .int .i64 (-gone l (ati f) (j : Int)))) := fun W' hW' =>
            (waitsP_any ao af (some ⟨b3, o3, none⟩) cap cf ch W' HOk.out (HPW.out.below (HBc.out.trans (hW'.mono hcz)) (Nat.le_refl _))).mono fun e w' ⟨h1, b, _, h2, h3⟩ => ⟨hW'.trans (h1.mono hW'.size), b, h2, h3⟩
          have HPc : Hid (PushIn wc ao cap l af cf f (some ⟨b3, o3, none⟩) ch h) := HPW.out.below HBc.out (Nat.le_refl _)
          obtain ⟨u, hu⟩ : ∃ u, -gone l (ati f) (p : Int) = u := ⟨_, rfl⟩
          have HUp : Hid (-gone l (ati f) (p : Int) = u) := hu
          have HUb : Hid (-600000 ≤ u ∧ u ≤ 600000) := by rw [← hu]; exact HWa.out
          have HA2 : Hid (amtN l f k d = min u y) := by rw [Hid, HAm.out, hu, Int.min_comm]
          have HXc : Hid (wc.heap[w.heap.size]? = some (.cells #[.int .i64 (N : Int), .int .i64 (s : Int), .int .i64 (t : Int), .slice ao l.length cap, .slice af l.length cf, .slice (some ⟨b3, o3, none⟩) N ch] 28 (0, 0))) := blk_below HBc.out HX2.out hwW0
          have hw0c : w.heap.size < wc.heap.size := by omega
          have HSc : Hid (∀ x : World, Below wc.heap.size wc x → Below wc.heap.size wc x ∧ x.cell? ⟨w.heap.size, 0, none⟩ = some (.int .i64 (N : Int)) ∧ x.cell? ⟨w.heap.size, 1, none⟩ = some (.int .i64 (s : Int)) ∧ x.cell? ⟨w.heap.size, 2, none⟩ = some (.int .i64 (t : Int)) ∧ x.cell? ⟨w.heap.size, 3, none⟩ = some (.slice ao l.length cap) ∧ x.cell? ⟨w.heap.size, 4, none⟩ = some (.slice af l.length cf) ∧ x.cell? ⟨w.heap.size, 5, none⟩ = some (.slice (some ⟨b3, o3, none⟩) N ch) ∧ x.cell? ⟨R, 0, none⟩ = some (.int .i64 (p : Int)) ∧ x.cell? ⟨R, 1, none⟩ = some (.int .i64 (q : Int)) ∧ x.cell? ⟨R, 2, none⟩ = some (.int .i64 y)) := fun x hx => ⟨hx, later hx m0 hw0c, later hx m1 hw0c, later hx m2 hw0c, later hx m3 hw0c, later hx m4 hw0c, later hx m5 hw0c, later hx n0 hR2, later hx n1 hR2, later hx n2 hR2⟩
          clear m0 m1 m2 m3 m4 m5 n0 n1 n2
          clear HS F0 F1 F2 F3 F4 F5 F6 F7 F8 F9 F10 hne HCW HBc HX2 HPW hu HWa HAm HS2 hwW0 hwW1 hwW2
          go_wp2
          go_cut [10] (fun x wx => x = .int .i64 (min u y) ∧ Hid (Below wc.heap.size wc wx))
          case first =>
            refine wp_region_held_drew (S := (fun x => Below wc.heap.size wc x ∧ x.cell? ⟨w.heap.size, 0, none⟩ = some (.int .i64 (N : Int)) ∧ x.cell? ⟨w.heap.size, 1, none⟩ = some (.int .i64 (s : Int)) ∧ x.cell? ⟨w.heap.size, 2, none⟩ = some (.int .i64 (t : Int)) ∧ x.cell? ⟨w.heap.size, 3, none⟩ = some (.slice ao l.length cap) ∧ x.cell? ⟨w.heap.size, 4, none⟩ = some (.slice af l.length cf) ∧ x.cell? ⟨w.heap.size, 5, none⟩ = some (.slice (some ⟨b3, o3, none⟩) N ch) ∧ x.cell? ⟨R, 0, none⟩ = some (.int .i64 (p : Int)) ∧ x.cell? ⟨R, 1, none⟩ = some (.int .i64 (q : Int)) ∧ x.cell? ⟨R, 2, none⟩ = some (.int .i64 y))) (by kernel_rfl) (HSc.out _ ((Below.refl _ _).drew)) (fun hHeld => ?_)
            refine wpAnyH_take (i := 0) (oi := { dst := some 60, op := Op.load 28 (Operand.tmp 3), type := 28, pos := "push.go:53", after := #[], guard := none }) (v := ?_) rfl (by kernel_rfl) (by kernel_rfl) (by kernel_rfl) (fun _ _ _ h => h) (Or.inl ⟨by rfl, ?_⟩) (by assumption) ?_
            rotate_left
            · intro w hSw
              (try dsimp only at hSw)
              go_simp
              all_goals (with_reducible rfl)
            (first | simp only [Act.put, List.setIfInBounds_toArray, List.set_cons_zero, List.set_cons_succ] | skip)
            refine wpAnyH_take (i := 2) (oi := { dst := some 62, op := Op.fieldAddr 63 (Operand.tmp 9) 0, type := 0, pos := "push.go:53", after := #[], guard := none }) (v := ?_) rfl (by kernel_rfl) (by kernel_rfl) (by kernel_rfl) (fun _ _ _ h => h) (Or.inl ⟨by rfl, ?_⟩) (by assumption) ?_
            rotate_left
            · intro w hSw
              (try dsimp only at hSw)
              go_simp
              all_goals (with_reducible rfl)
            (first | simp only [Act.put, List.setIfInBounds_toArray, List.set_cons_zero, List.set_cons_succ] | skip)
            refine wpAnyH_take (i := 3) (oi := { dst := some 63, op := Op.load 3 (Operand.tmp 62), type := 3, pos := "push.go:53", after := #[{ on := 2, ground := Ground.data }], guard := none }) (v := ?_) rfl (by kernel_rfl) (by kernel_rfl) (by kernel_rfl) (fun _ _ _ h => h) (Or.inl ⟨by rfl, ?_⟩) (by assumption) ?_
            rotate_left
            · intro w hSw
              (try dsimp only at hSw)
              go_simp
              all_goals (with_reducible rfl)
            (first | simp only [Act.put, List.setIfInBounds_toArray, List.set_cons_zero, List.set_cons_succ] | skip)
            refine wpAnyH_take (i := 6) (oi := { dst := some 66, op := Op.fieldAddr 63 (Operand.tmp 9) 2, type := 0, pos := "push.go:53", after := #[], guard := none }) (v := ?_) rfl (by kernel_rfl) (by kernel_rfl) (by kernel_rfl) (fun _ _ _ h => h) (Or.inl ⟨by rfl, ?_⟩) (by assumption) ?_
            rotate_left
            · intro w hSw
              (try dsimp only at hSw)
              go_simp
              all_goals (with_reducible rfl)
            (first | simp only [Act.put, List.setIfInBounds_toArray, List.set_cons_zero, List.set_cons_succ] | skip)
            refine wpAnyH_take (i := 7) (oi := { dst := some 67, op := Op.load 3 (Operand.tmp 66), type := 3, pos := "push.go:53", after := #[{ on := 6, ground := Ground.data }], guard := none }) (v := ?_) rfl (by kernel_rfl) (by kernel_rfl) (by kernel_rfl) (fun _ _ _ h => h) (Or.inl ⟨by rfl, ?_⟩) (by assumption) ?_
            rotate_left
            · intro w hSw
              (try dsimp only at hSw)
              go_simp
              all_goals (with_reducible rfl)
            (first | simp only [Act.put, List.setIfInBounds_toArray, List.set_cons_zero, List.set_cons_succ] | skip)
            refine wpAnyH_ready (rs := [1]) (by kernel_rfl) (by simp) ?_
            refine AllReadyH.cons (o := { dst := some 61, op := Op.call { callee := Callee.value (Operand.func 32), args := #[Operand.tmp 60], argTypes := #[28] }, type := 25, pos := "push.go:53", after := #[{ on := 0, ground := Ground.data }], guard := none }) rfl (fun K hK => ?_) AllReadyH.nil
            go_simp
            refine (HCWc.out _ hHeld.1).mono ?_
            rintro e w3 ⟨hb3', gb, rfl, hrow⟩
            have hs3 := HSc.out w3 hb3'
            have c0 : w3.cell? ⟨gb, p, none⟩ = some (.int .i64 (-gone l (ati f) (p : Int))) := hrow.cell hpN
            rw [HUp.out] at c0
            have hzr := hrow.lt
            go_wp2_with fail
            refine hK.out _ _ ?_ (fun hHeld => ?_)
            · exact hs3
            clear hK K
            (first | simp only [Act.put, List.setIfInBounds_toArray, List.set_cons_zero, List.set_cons_succ] | skip)
            refine wpAnyH_take (i := 4) (oi := { dst := some 64, op := Op.indexAddr 25 (Operand.tmp 61) (Operand.tmp 63), type := 0, pos := "push.go:53", after := #[{ on := 1, ground := Ground.data }, { on := 3, ground := Ground.data }], guard := none }) (v := ?_) rfl (by kernel_rfl) (by kernel_rfl) (by kernel_rfl) (fun _ _ _ h => h) (Or.inl ⟨by rfl, ?_⟩) (by assumption) ?_
            rotate_left
            · intro w hSw
              (try dsimp only at hSw)
              go_simp
              all_goals (with_reducible rfl)
            (first | simp only [Act.put, List.setIfInBounds_toArray, List.set_cons_zero, List.set_cons_succ] | skip)
            refine wpAnyH_ready (rs := [5]) (by kernel_rfl) (by simp) ?_
            refine AllReadyH.cons (o := { dst := some 65, op := Op.load 3 (Operand.tmp 64), type := 3, pos := "push.go:53", after := #[{ on := 4, ground := Ground.data }], guard := none }) rfl (fun K hK => ?_) AllReadyH.nil
            go_simp
            refine hK.out _ _ ?_ (fun hHeld => ?_)
            · exact hs3
            clear hK K
            (first | simp only [Act.put, List.setIfInBounds_toArray, List.set_cons_zero, List.set_cons_succ] | skip)
            refine wpAnyH_ready (rs := [8]) (by kernel_rfl) (by simp) ?_
            refine AllReadyH.cons (o := { dst := some 68, op := Op.call { callee := Callee.builtin Builtin.min, args := #[Operand.tmp 65, Operand.tmp 67], argTypes := #[3, 3] }, type := 3, pos := "push.go:53", after := #[{ on := 5, ground := Ground.data }, { on := 7, ground := Ground.data }], guard := none }) rfl (fun K hK => ?_) AllReadyH.nil
            go_simp
            refine hK.out _ _ ?_ (fun hHeld => ?_)
            · exact hs3
            clear hK K
            (first | simp only [Act.put, List.setIfInBounds_toArray, List.set_cons_zero, List.set_cons_succ] | skip)
            refine wpAnyH_take (i := 9) (oi := { dst := some 10, op := Op.assign (Operand.tmp 68), type := 3, pos := "push.go:53", after := #[{ on := 8, ground := Ground.data }, { on := 1, ground := Ground.chain }, { on := 0, ground := Ground.phase }, { on := 1, ground := Ground.phase }, { on := 2, ground := Ground.phase }, { on := 3, ground := Ground.phase }, { on := 4, ground := Ground.phase }, { on := 5, ground := Ground.phase }, { on := 6, ground := Ground.phase }, { on := 7, ground := Ground.phase }, { on := 8, ground := Ground.phase }], guard := none }) (v := ?_) rfl (by kernel_rfl) (by kernel_rfl) (by kernel_rfl) (fun _ _ _ h => h) (Or.inl ⟨by rfl, ?_⟩) (by assumption) ?_
            rotate_left
            · intro w hSw
              (try dsimp only at hSw)
              go_simp
              all_goals (with_reducible rfl)
            (first | simp only [Act.put, List.setIfInBounds_toArray, List.set_cons_zero, List.set_cons_succ] | skip)
            refine wpAnyH_done (by kernel_rfl) ?_ _
            go_wp2
            go_meet
            case rel => exact ⟨rfl, hs3.1⟩
          case rest =>
            obtain ⟨rfl, HBd⟩ := hcut
            have hdz := HBd.out.size
            have xd := blk_below HBd.out HXc.out hw0c
            have HZd : Hid (wc.heap[w.heap.size + 1]? = some (.cells #[.int .i64 0, .int .i64 0, .int .i64 0, .slice none 0 0, .slice none 0 0, .slice none 0 0] 28 (0, 0))) := blk_below HBd.out HZc.out hw1c
            have hw0d : w.heap.size < wc.heap.size := by omega
            have hw1d : w.heap.size + 1 < wc.heap.size := by omega
            have HPd : Hid (PushIn wc ao cap l af cf f (some ⟨b3, o3, none⟩) ch h) := HPc.out.below HBd.out (Nat.le_refl _)
            have HBw2 : Hid (Below w.heap.size w wc) := HBw.out.trans (HBd.out.mono (by omega))
            obtain ⟨⟨m0, m1, m2, m3, m4, m5⟩, _⟩ := blk6 xd
            obtain ⟨am, ham⟩ : ∃ a, min u y = a := ⟨_, rfl⟩
            have hamb : -600000 ≤ am ∧ am ≤ 600000 := by
              have h1 := HUb.out
              have h2 := HRb.out
              omega
            have HA3 : Hid (amtN l f k d = am) := by rw [Hid, HA2.out, ham]
            rw [ham]
            have hzb := HOk.out.bnd k hk
            have hcb := (arc_at HOk.out.net hk).2.2.2.2
            have v2 : IntKind.i64.wrap (-am) = -am := by rw [IntKind.wrap_i64]; omega
            have hfk : k < f.length := by rw [HFl.out]; exact hk
            have hcl := pclone_any N s t ao af (some ⟨b3, o3, none⟩) cap cf ch l f h wc hl60 (by rw [HFl.out]; exact hl60) (by rw [HHl.out]; omega) HPd.out
            rw [HFl.out, HHl.out] at hcl
            clear HA2 ham HCWc HPc HXc HBw HZc HBd xd HUb HUp HRb HPd
            cases d with
            | false =>
              have HSe : Hid (f.set k (ati f k + am) = sentF f k false (amtN l f k false)) := by rw [Hid, HA3.out]; rfl
              go_wp2_with fail
              refine hcl.mono ?_
              clear hcl
              rintro e w5 ⟨hb5, a1, c1, a2, c2, a3, c3, rfl, hN5⟩
              have hz5 := hb5.size
              obtain ⟨g, rfl, hg5, hgz, hgc, d5, f5⟩ := hN5.flow.at hfk
              have HB5 : Hid (Below w.heap.size w w5) := HBw2.out.trans (hb5.mono (by omega))
              have HZ5 : Hid (w5.heap[w.heap.size + 1]? = some (.cells #[.int .i64 0, .int .i64 0, .int .i64 0, .slice none 0 0, .slice none 0 0, .slice none 0 0] 28 (0, 0))) := blk_below hb5 HZd.out hw1d
              have HN5 : Hid (PushNew w5 wc.heap.size a1 c1 l (some ⟨g, 0, none⟩) c2 f a3 c3 h) := hN5
              obtain ⟨z, hz⟩ : ∃ z, ati f k = z := ⟨_, rfl⟩
              rw [hz] at d5 hzb HSe
              have v3 : IntKind.i64.wrap (z + am) = z + am := by rw [IntKind.wrap_i64]; omega
              have hw5 : w.heap.size < w5.heap.size := by omega
              have hw5' : w.heap.size + 1 < w5.heap.size := by omega
              have hgn : g ≠ w.heap.size + 1 := by omega
              have hgn5 : g ≠ w5.heap.size := by omega
              rw [HFl.out] at hgc
              have HZ6 : Hid (((w5.setCell ⟨g, k, none⟩ (.int .i64 (z + am))).alloc (.cells #[.int .i64 (N : Int), .int .i64 (s : Int), .int .i64 (t : Int), .slice a1 l.length c1, .slice (some ⟨g, 0, none⟩) l.length c2, .slice a3 N c3] 28)).heap[w.heap.size + 1]? = some (.cells #[.int .i64 0, .int .i64 0, .int .i64 0, .slice none 0 0, .slice none 0 0, .slice none 0 0] 28 (0, 0))) := blk_old ((Below.heap_setCell _ _ _ _ (by simp; omega)).trans HZ5.out) _
              clear m0 m1 m2 m3 m4 m5 hb5 hN5 HZd HBw2 hz
              go_wp2_with (refine wpList_store_push rfl (.tmp 6) (.tmp 82) rfl (w.heap.size + 1) _ _ _ _ _ _ N s t a1 (some ⟨g, 0, none⟩) a3 l.length c1 l.length c2 N c3 rfl rfl HZ6.out ?_; intro w6 ho6 hb6 hs6)
              obtain ⟨⟨q0, q1, q2, q3, q4, q5⟩, _⟩ := blk6 hb6
              have HN6 := ((HN5.out.setF hfk (z + am)).alloc (.cells #[.int .i64 (N : Int), .int .i64 (s : Int), .int .i64 (t : Int), .slice a1 l.length c1, .slice (some ⟨g, 0, none⟩) l.length c2, .slice a3 N c3] 28)).onlyN ho6 (by omega)
              rw [HSe.out] at HN6
              (try simp only [Exit.inBlock, Exit.then])
              refine bodyPost_ret (v := .tuple #[.agg #[.int .i64 (N : Int), .int .i64 (s : Int), .int .i64 (t : Int), .slice a1 l.length c1, .slice (some ⟨g, 0, none⟩) l.length c2, .slice a3 N c3], .int .i64 0]) (by simp [results, Try.results12, go_sem, q0, q1, q2, q3, q4, q5]) rfl (SendAns.yes HC.out (((HB5.out.setCell (p := ⟨g, k, none⟩) (by show w.heap.size ≤ g; omega) _).alloc (by simp; omega) _).trans (ho6.below (by omega) (by simp; omega))) (HN6.from_ (by omega)) HFl.out HHl.out)
            | true =>
              have HSe : Hid (f.set k (ati f k + -am) = sentF f k true (amtN l f k true)) := by rw [Hid, HA3.out]; rfl
              go_wp2_with fail
              refine hcl.mono ?_
              clear hcl
              rintro e w5 ⟨hb5, a1, c1, a2, c2, a3, c3, rfl, hN5⟩
              have hz5 := hb5.size
              obtain ⟨g, rfl, hg5, hgz, hgc, d5, f5⟩ := hN5.flow.at hfk
              have HB5 : Hid (Below w.heap.size w w5) := HBw2.out.trans (hb5.mono (by omega))
              have HZ5 : Hid (w5.heap[w.heap.size + 1]? = some (.cells #[.int .i64 0, .int .i64 0, .int .i64 0, .slice none 0 0, .slice none 0 0, .slice none 0 0] 28 (0, 0))) := blk_below hb5 HZd.out hw1d
              have HN5 : Hid (PushNew w5 wc.heap.size a1 c1 l (some ⟨g, 0, none⟩) c2 f a3 c3 h) := hN5
              obtain ⟨z, hz⟩ : ∃ z, ati f k = z := ⟨_, rfl⟩
              rw [hz] at d5 hzb HSe
              have v3 : IntKind.i64.wrap (z + -am) = z + -am := by rw [IntKind.wrap_i64]; omega
              have hw5 : w.heap.size < w5.heap.size := by omega
              have hw5' : w.heap.size + 1 < w5.heap.size := by omega
              have hgn : g ≠ w.heap.size + 1 := by omega
              have hgn5 : g ≠ w5.heap.size := by omega
              rw [HFl.out] at hgc
              have HZ6 : Hid (((w5.setCell ⟨g, k, none⟩ (.int .i64 (z + -am))).alloc (.cells #[.int .i64 (N : Int), .int .i64 (s : Int), .int .i64 (t : Int), .slice a1 l.length c1, .slice (some ⟨g, 0, none⟩) l.length c2, .slice a3 N c3] 28)).heap[w.heap.size + 1]? = some (.cells #[.int .i64 0, .int .i64 0, .int .i64 0, .slice none 0 0, .slice none 0 0, .slice none 0 0] 28 (0, 0))) := blk_old ((Below.heap_setCell _ _ _ _ (by simp; omega)).trans HZ5.out) _
              clear m0 m1 m2 m3 m4 m5 hb5 hN5 HZd HBw2 hz
              go_wp2_with (refine wpList_store_push rfl (.tmp 6) (.tmp 82) rfl (w.heap.size + 1) _ _ _ _ _ _ N s t a1 (some ⟨g, 0, none⟩) a3 l.length c1 l.length c2 N c3 rfl rfl HZ6.out ?_; intro w6 ho6 hb6 hs6)
              obtain ⟨⟨q0, q1, q2, q3, q4, q5⟩, _⟩ := blk6 hb6
              have HN6 := ((HN5.out.setF hfk (z + -am)).alloc (.cells #[.int .i64 (N : Int), .int .i64 (s : Int), .int .i64 (t : Int), .slice a1 l.length c1, .slice (some ⟨g, 0, none⟩) l.length c2, .slice a3 N c3] 28)).onlyN ho6 (by omega)
              rw [HSe.out] at HN6
              (try simp only [Exit.inBlock, Exit.then])
              refine bodyPost_ret (v := .tuple #[.agg #[.int .i64 (N : Int), .int .i64 (s : Int), .int .i64 (t : Int), .slice a1 l.length c1, .slice (some ⟨g, 0, none⟩) l.length c2, .slice a3 N c3], .int .i64 0]) (by simp [results, Try.results12, go_sem, q0, q1, q2, q3, q4, q5]) rfl (SendAns.yes HC.out (((HB5.out.setCell (p := ⟨g, k, none⟩) (by show w.heap.size ≤ g; omega) _).alloc (by simp; omega) _).trans (ho6.below (by omega) (by simp; omega))) (HN6.from_ (by omega)) HFl.out HHl.out)
theorem PSend_any : PSendC := by
  intro N s t k d ao af ah cap cf ch l f h w H hP
  rw [H.flen, H.hlen]
  exact (PSend_own N s t k d ao af ah cap cf ch l f h w H hP).mono fun e w' h => h

end Go.Proofs.Ytgmifepfbcgfbaa
