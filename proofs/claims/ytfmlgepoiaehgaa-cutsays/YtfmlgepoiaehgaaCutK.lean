/- Package cut: Least, Greatest. -/
import Derived.Deep.RegionHeld3
import Derived.Test.YtfmlgepoiaehgaaCutP
import Derived.Test.YtfmlgepoiaehgaaTurnG
import Derived.Test.YtfmlgepoiaehgaaMMore
import Derived.Test.YtfmlgepoiaehgaaAppJoin
namespace Go.Proofs.Ytfmlgepoiaehgaa
open Go.RowKit
set_option linter.unusedVariables false

theorem onward_len (N s t x0 : Nat) (best : Int) (ao af : Option Addr) (cap capf lf : Nat) (l : List Arc3) (f : List Int) (w : World) (hlf : lf = l.length) (hE : netErr N s t l = 0) (hf : FlowIs N s t l f) (hb : gone l (ati f) s = best) (hx : Win N s t l best x0) (hA : ArcsAt w ao l) (hF : IntsAt w af f) :
    Calls Try.prog 23 #[.agg #[.int .i64 (N : Int), .int .i64 (s : Int), .int .i64 (t : Int), .slice ao l.length cap], .slice af lf capf, .int .u16 (x0 : Int)] w fun e w' => Below w.heap.size w w' ∧
      ∃ x : Nat, e = .returned (.int .u16 (x : Int)) ∧ x < 2 ^ N ∧ Hid (Win N s t l best x ∧ ∀ i, i < l.length → ShutAt l f x i) := by
  subst hlf
  exact onward_any N s t x0 best ao af cap capf l f w hE hf hb hx hA hF

set_option maxHeartbeats 4000000 in
set_option maxRecDepth 100000 in
theorem CLeast_of (hM : MOfC) : CLeastC := by
  intro n s t ao cap l w hG
  have hG0 := hG.alloc (.cells #[.int .i64 n, .int .i64 s, .int .i64 t, .slice ao l.length cap] 24)
  have x0 := blk_new w (.cells #[.int .i64 n, .int .i64 s, .int .i64 t, .slice ao l.length cap] 24)
  have hc := hM n s t ao cap l _ hG0
  obtain ⟨E, hEE⟩ : ∃ E, netErr n s t l = E := ⟨_, rfl⟩
  rw [hEE] at hc
  have HE : Hid (netErr n s t l = E) := hEE
  rw [hEE]
  clear hG hEE
  go_enter Try.func9, Try.ntmps9
  go_wp2_with fail
  refine hc.mono ?_
  clear hc
  rintro e w1 ⟨hb1, a1, c1, F, v, rfl, hI, hT⟩
  simp only [World.size_alloc] at hb1
  have hz1 := hb1.size
  simp only [World.size_alloc] at hz1
  have x1 := blk_below hb1 x0 (by omega)
  have HB1 : Hid (Below w.heap.size w w1) := below_in hb1 (by omega)
  have HG1 : Hid (GraphIn w1 ao cap l) := hG0.below hb1 (by simp)
  have HI : Hid (IntsIn w1 a1 c1 F) := hI
  have HT : Hid (MostTells n s t l F v E) := hT
  clear hb1 x0 hG0 hI hT
  obtain ⟨r0, r1, r2, r3⟩ := blk4 x1
  by_cases hE : E = 0
  · subst hE
    have h00 : ((0 : Int) != 0) = false := rfl
    obtain ⟨hge, ⟨hs0, hs1⟩, ⟨ht0, ht1⟩, _⟩ := net_ok HE.out
    obtain ⟨⟨hn1, hn2⟩, hl60, hall⟩ := err_ok hge
    obtain ⟨N, rfl⟩ := Int.eq_ofNat_of_zero_le (show 0 ≤ n by omega)
    obtain ⟨sN, rfl⟩ := Int.eq_ofNat_of_zero_le hs0
    obtain ⟨tN, rfl⟩ := Int.eq_ofNat_of_zero_le ht0
    obtain ⟨hf, hgo⟩ := HT.out.flow rfl
    have hmx := HT.out.most rfl
    rw [Int.toNat_natCast] at hf hmx
    obtain ⟨S, hS⟩ : ∃ S, 2 ^ sN = S := ⟨_, rfl⟩
    have hw0 : Win N sN tN l v S := Win.start (by omega) hS
    have HBit : Hid (∀ W, Calls Try.prog 24 #[.int .i64 (sN : Int)] W fun e w' => e = .returned (.int .u16 (S : Int)) ∧ w' = W) := bit_any sN S (by omega) hS
    have hFl : F.length = l.length := hf.len
    have HOn : Hid (∀ W : World, Below w1.heap.size w1 W → Calls Try.prog 23 #[.agg #[.int .i64 (N : Int), .int .i64 (sN : Int), .int .i64 (tN : Int), .slice ao l.length cap], .slice a1 F.length c1, .int .u16 (S : Int)] W fun e w' => Below w1.heap.size w1 w' ∧
        ∃ x : Nat, e = .returned (.int .u16 (x : Int)) ∧ x < 2 ^ N ∧ Hid (Win N sN tN l v x ∧ ∀ i, i < l.length → ShutAt l F x i)) := fun W hW => by
      have h := onward_len N sN tN S v ao a1 cap c1 F.length l F W hFl HE.out hf hgo hw0 (HG1.out.arcs.below hW (Nat.le_refl _)) (HI.out.ints.below hW (Nat.le_refl _))
      exact h.mono fun e w' ⟨hb, r⟩ => ⟨hW.trans (hb.mono hW.size), r⟩
    have hwz : w.heap.size < w1.heap.size := by omega
    have HS : Hid (∀ x : World, Below w1.heap.size w1 x → Below w1.heap.size w1 x ∧ x.cell? ⟨w.heap.size, 0, none⟩ = some (.int .i64 (N : Int)) ∧ x.cell? ⟨w.heap.size, 1, none⟩ = some (.int .i64 (sN : Int)) ∧ x.cell? ⟨w.heap.size, 2, none⟩ = some (.int .i64 (tN : Int)) ∧ x.cell? ⟨w.heap.size, 3, none⟩ = some (.slice ao l.length cap)) :=
      fun x h => ⟨h, later h r0 hwz, later h r1 hwz, later h r2 hwz, later h r3 hwz⟩
    have HPart : Hid (∀ x : Nat, Win N sN tN l v x → (∀ i, i < l.length → ShutAt l F x i) → ∃ hi, PartIs N sN tN l v x hi) := fun x h1 h2 => h1.part HE.out hf hgo hmx h2
    have h4 : (2 : Nat) ^ N ≤ 4096 := pow_small (show N < 13 by omega) rfl
    have H4 : Hid ((2 : Nat) ^ N ≤ 4096) := h4
    clear hge hall hs0 hs1 ht0 ht1 hf hgo hmx hS hw0 hFl h4 r0 r1 r2 r3 x1 HT HG1 HI
    have r0 := (HS.out w1 (Below.refl _ _)).2
    obtain ⟨r0, r1, r2, r3⟩ := r0
    go_wp2
    go_region_held3 (fun x => Below w1.heap.size w1 x ∧ x.cell? ⟨w.heap.size, 0, none⟩ = some (.int .i64 (N : Int)) ∧ x.cell? ⟨w.heap.size, 1, none⟩ = some (.int .i64 (sN : Int)) ∧ x.cell? ⟨w.heap.size, 2, none⟩ = some (.int .i64 (tN : Int)) ∧ x.cell? ⟨w.heap.size, 3, none⟩ = some (.slice ao l.length cap))
      (first
        | with_reducible assumption
        | with_reducible exact HS.out _ ((Below.refl _ _).drew))
      (first
        | (go_at_call 24; refine (HBit.out _).mono ?_; rintro e w' ⟨rfl, hw⟩; rw [hw]; clear hw)
        | (go_at_call 23; refine (HOn.out _ (And.left (by with_reducible assumption))).mono ?_; rintro e w3 ⟨hb3, x, rfl, hx, HX⟩; have hs3 := HS.out w3 hb3; clear hb3))
    all_goals
      go_wp2
      go_ret3
      exact ⟨HB1.out.trans (hs3.1.mono (by omega)), x, v, rfl, ⟨fun h => absurd HE.out h, fun _ => HPart.out x HX.out.1 HX.out.2, by have := H4.out; omega⟩⟩
  · have hE' : (E != 0) = true := by simpa using hE
    have HN : Hid (E ≠ 0) := hE
    clear hE x1
    go_wp2
    go_ret3
    exact ⟨HB1.out, 0, 0, rfl, ⟨fun _ => ⟨rfl, rfl⟩, fun h => absurd (HE.out.symm.trans h) HN.out, by omega⟩⟩

theorem turn_back (l : List Arc3) : (l.map turnA).map turnA = l := by
  rw [List.map_map]
  have : turnA ∘ turnA = id := funext fun a => rfl
  rw [this, List.map_id]

set_option maxHeartbeats 4000000 in
set_option maxRecDepth 100000 in
theorem CGreat_of (hL : CLeastC) : CGreatC := by
  intro n s t ao cap l w hG
  have hG0 := hG.alloc (.cells #[.int .i64 n, .int .i64 s, .int .i64 t, .slice ao l.length cap] 24)
  have x0 := blk_new w (.cells #[.int .i64 n, .int .i64 s, .int .i64 t, .slice ao l.length cap] 24)
  have hc := CheckNet_any n s t ao cap l _ hG.len hG0.arcs
  obtain ⟨E, hEE⟩ : ∃ E, netErr n s t l = E := ⟨_, rfl⟩
  rw [hEE] at hc
  have HE : Hid (netErr n s t l = E) := hEE
  rw [hEE]
  clear hG hEE
  obtain ⟨r0, r1, r2, r3⟩ := blk4 x0
  go_enter Try.func10, Try.ntmps10
  go_wp2_with fail
  refine hc.mono ?_
  clear hc
  rintro e w1 ⟨rfl, hb1⟩
  simp only [World.size_alloc] at hb1
  have hz1 := hb1.size
  simp only [World.size_alloc] at hz1
  have x1 := blk_below hb1 x0 (by omega)
  have HB1 : Hid (Below w.heap.size w w1) := below_in hb1 (by omega)
  have HG1 : Hid (GraphIn w1 ao cap l) := hG0.below hb1 (by simp)
  clear hb1 x0 hG0 r0 r1 r2 r3
  obtain ⟨r0, r1, r2, r3⟩ := blk4 x1
  by_cases hE : E = 0
  · subst hE
    have h00 : ((0 : Int) != 0) = false := rfl
    obtain ⟨hge, ⟨hs0, hs1⟩, ⟨ht0, ht1⟩, _⟩ := net_ok HE.out
    obtain ⟨⟨hn1, hn2⟩, hl60, hall⟩ := err_ok hge
    have hlong : graphErr n (-10000) l = 0 := err_mk ⟨⟨hn1, hn2⟩, hl60, fun a ha => by have := hall a ha; exact ⟨this.1, this.2.1, by omega, this.2.2.2⟩⟩
    obtain ⟨N, rfl⟩ := Int.eq_ofNat_of_zero_le (show 0 ≤ n by omega)
    obtain ⟨sN, rfl⟩ := Int.eq_ofNat_of_zero_le hs0
    obtain ⟨tN, rfl⟩ := Int.eq_ofNat_of_zero_le ht0
    have hwz : w.heap.size < w1.heap.size := by omega
    have ht := TurnG_any N ao cap l w1 HG1.out
    have HLong : Hid (graphErr N (-10000) l = 0) := hlong
    clear hge hall hlong hs0 hs1 ht0 ht1
    go_wp2_with fail
    refine ht.mono ?_
    clear ht
    rintro e w2 ⟨hb2, n', ao', cap', l', err, rfl, hG2, _, hT⟩
    obtain ⟨rfl, rfl⟩ := hT HLong.out
    have hz2 := hb2.size
    have hwz2 : w.heap.size < w2.heap.size := by omega
    have x2 := (blk_below hb2 x1 (by omega))
    have HB2 : Hid (Below w.heap.size w w2) := HB1.out.trans (hb2.mono (by omega))
    have HG2 : Hid (GraphIn w2 ao' cap' (l.map turnA)) := hG2
    have X2 : Hid (w2.heap[w.heap.size]? = some (.cells #[.int .i64 (N : Int), .int .i64 (sN : Int), .int .i64 (tN : Int), .slice ao l.length cap] 24 (0, 0))) := x2
    clear hb2 hG2 x1 HB1 HG1 hT r0 r1 r2 r3
    obtain ⟨r0, r1, r2, r3⟩ := blk4 x2
    clear x2
    have HCall : Hid (∀ W : World, GraphIn W ao' cap' (l.map turnA) → Calls Try.prog 9 #[.agg #[.int .i64 (N : Int), .int .i64 (tN : Int), .int .i64 (sN : Int), .slice ao' l.length cap']] W fun e w' => Below W.heap.size W w' ∧
        ∃ (x : Nat) (v : Int), e = .returned (.tuple #[.int .u16 (x : Int), .int .i64 v, .int .i64 0]) ∧ LeastTells N tN sN (l.map turnA) x v) := fun W hW => by
      have h := hL N tN sN ao' cap' (l.map turnA) W hW
      rw [net_turn HE.out, List.length_map] at h
      exact h
    clear hwz hz1
    go_wp2_with fail
    refine (HCall.out _ (HG2.out.alloc _)).mono ?_
    rintro e w3 ⟨hb3, x, v, rfl, hT3⟩
    simp only [World.size_alloc] at hb3
    have hz3 := hb3.size
    have x3 := blk_below hb3 (blk_old X2.out (.cells #[.int .i64 (N : Int), .slice ao' l.length cap'] 52)) (by omega)
    have HB3 : Hid (Below w.heap.size w w3) := HB2.out.trans ((below_in hb3 (by omega)).mono (by omega))
    obtain ⟨hi, hp⟩ := hT3.some (net_turn HE.out)
    rw [Int.toNat_natCast, Int.toNat_natCast, Int.toNat_natCast] at hp
    have hgd := net_ok HE.out
    have h4 : (2 : Nat) ^ N ≤ 4096 := pow_small (show N < 13 by omega) rfl
    have h20 : 0 < 2 ^ N := Nat.two_pow_pos N
    have hen := part_ends (fun k hk => by
      have := (err_ok (net_ok (net_turn HE.out)).1).2.2 _ (at3_mem _ k hk)
      exact this.2.2.1) hp
    have hx2 := hen.1.lt
    have hpt := hp.turn (by omega) (by omega) (net_nodes (net_turn HE.out)) hx2 hen.2.lt
    rw [turn_back] at hpt
    obtain ⟨m, hm⟩ : ∃ m, 2 ^ N = m + 1 := ⟨2 ^ N - 1, by omega⟩
    have HNod : Hid (∀ W, Calls Try.prog 26 #[.int .i64 (N : Int)] W fun e w' => e = .returned (.int .u16 (m : Int)) ∧ w' = W) := nodes_any N m (by omega) hm
    have u1 := andNot_u16_nat m x (by omega) (by omega)
    have hfw := full_without (N := N) (x := x) (by omega) hx2
    rw [show 2 ^ N - 1 = m by omega] at hfw hpt
    rw [hfw] at u1
    have HP : Hid (PartIs N sN tN l v (m - hi) (m - x)) := hpt
    have HM : Hid (m - x < 65536) := by rw [Hid]; omega
    obtain ⟨y, hy⟩ : ∃ y, m - x = y := ⟨_, rfl⟩
    rw [hy] at u1 HP HM
    clear hb3 HB2 HG2 HCall X2 hT3 hp hgd h4 h20 hen hx2 hpt hm hfw hy r0 r1 r2 r3
    obtain ⟨r0, r1, r2, r3⟩ := blk4 x3
    go_wp2_with (first
      | (go_at_call 26; refine (HNod.out _).mono ?_; rintro e w' ⟨rfl, hw⟩; rw [hw]; clear hw))
    go_ret3
    exact ⟨HB3.out, y, v, rfl, ⟨fun h => absurd HE.out h, fun _ => ⟨_, HP.out⟩, HM.out⟩⟩
  · have hE' : (E != 0) = true := by simpa using hE
    have HN : Hid (E ≠ 0) := hE
    clear hE x1
    go_wp2
    go_ret3
    exact ⟨HB1.out, 0, 0, rfl, ⟨fun _ => ⟨rfl, rfl⟩, fun h => absurd (HE.out.symm.trans h) HN.out, by omega⟩⟩

theorem CLeast_any : CLeastC := CLeast_of MOf_any
theorem CGreat_any : CGreatC := CGreat_of CLeast_any

end Go.Proofs.Ytfmlgepoiaehgaa
