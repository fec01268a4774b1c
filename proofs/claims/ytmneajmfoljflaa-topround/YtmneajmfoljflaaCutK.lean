/- Package cut: Least, Greatest. -/
import Derived.Deep.RegionHeld3
import Derived.Test.YtmneajmfoljflaaJoinedD
import Derived.Test.YtmneajmfoljflaaMMore
import Derived.Test.YtmneajmfoljflaaAppJoin
namespace Go.Proofs.Ytmneajmfoljflaa
open Go.RowKit
set_option linter.unusedVariables false

theorem onward_len (N s t x0 : Nat) (best : Int) (ao af : Option Addr) (cap capf lf : Nat) (l : List Arc3) (f : List Int) (w : World) (hlf : lf = l.length) (hE : netErr N s t l = 0) (hf : FlowIs N s t l f) (hb : gone l (ati f) s = best) (hx : Win N s t l best x0) (hA : ArcsAt w ao l) (hF : IntsAt w af f) :
    Calls Try.prog 30 #[.agg #[.int .i64 (N : Int), .int .i64 (s : Int), .int .i64 (t : Int), .slice ao l.length cap], .slice af lf capf, .int .u16 (x0 : Int)] w fun e w' => Below w.heap.size w w' ∧
      ∃ x : Nat, e = .returned (.int .u16 (x : Int)) ∧ x < 2 ^ N ∧ Hid (Win N s t l best x ∧ ∀ i, i < l.length → ShutAt l f x i) := by
  subst hlf
  exact onward_any N s t x0 best ao af cap capf l f w hE hf hb hx hA hF

set_option maxHeartbeats 4000000 in
set_option maxRecDepth 100000 in
theorem CLeast_of (hM : MOfC) : CLeastC := by
  intro n s t ao cap l w hG
  have hG0 := hG.alloc (.cells #[.int .i64 n, .int .i64 s, .int .i64 t, .slice ao l.length cap] 43)
  have x0 := blk_new w (.cells #[.int .i64 n, .int .i64 s, .int .i64 t, .slice ao l.length cap] 43)
  have hc := hM n s t ao cap l _ hG0
  obtain ⟨E, hEE⟩ : ∃ E, netErr n s t l = E := ⟨_, rfl⟩
  rw [hEE] at hc
  have HE : Hid (netErr n s t l = E) := hEE
  rw [hEE]
  clear hG hEE
  go_enter Try.func22, Try.ntmps22
  go_wp2_with fail
  refine hc.mono ?_
  clear hc
  rintro e w1 ⟨hb1, a1, c1, F, v, rfl, hI, hT⟩
  simp only [World.size_alloc] at hb1
  have hz1 := hb1.size
  simp only [World.size_alloc] at hz1
  have x1 := blk_below hb1 x0 (by omega)
  have HB1 : Hid (Below w.heap.size w w1) := below_in hb1 (by omega)
  have HG1 : Hid (GraphIn w1 ao cap l) := hG0.below hb1 (by simp)
  have HI : Hid (IntsIn w1 a1 c1 F) := hI
  have HT : Hid (MostTells n s t l F v E) := hT
  clear hb1 x0 hG0 hI hT
  obtain ⟨r0, r1, r2, r3⟩ := blk4 x1
  by_cases hE : E = 0
  · subst hE
    have h00 : ((0 : Int) != 0) = false := rfl
    obtain ⟨hge, ⟨hs0, hs1⟩, ⟨ht0, ht1⟩, _⟩ := net_ok HE.out
    obtain ⟨⟨hn1, hn2⟩, hl60, hall⟩ := err_ok hge
    obtain ⟨N, rfl⟩ := Int.eq_ofNat_of_zero_le (show 0 ≤ n by omega)
    obtain ⟨sN, rfl⟩ := Int.eq_ofNat_of_zero_le hs0
    obtain ⟨tN, rfl⟩ := Int.eq_ofNat_of_zero_le ht0
    obtain ⟨hf, hgo⟩ := HT.out.flow rfl
    have hmx := HT.out.most rfl
    rw [Int.toNat_natCast] at hf hmx
    obtain ⟨S, hS⟩ : ∃ S, 2 ^ sN = S := ⟨_, rfl⟩
    have hw0 : Win N sN tN l v S := Win.start (by omega) hS
    have HBit : Hid (∀ W, Calls Try.prog 31 #[.int .i64 (sN : Int)] W fun e w' => e = .returned (.int .u16 (S : Int)) ∧ w' = W) := bit_any sN S (by omega) hS
    have hFl : F.length = l.length := hf.len
    have HOn : Hid (∀ W : World, Below w1.heap.size w1 W → Calls Try.prog 30 #[.agg #[.int .i64 (N : Int), .int .i64 (sN : Int), .int .i64 (tN : Int), .slice ao l.length cap], .slice a1 F.length c1, .int .u16 (S : Int)] W fun e w' => Below w1.heap.size w1 w' ∧
        ∃ x : Nat, e = .returned (.int .u16 (x : Int)) ∧ x < 2 ^ N ∧ Hid (Win N sN tN l v x ∧ ∀ i, i < l.length → ShutAt l F x i)) := fun W hW => by
      have h := onward_len N sN tN S v ao a1 cap c1 F.length l F W hFl HE.out hf hgo hw0 (HG1.out.arcs.below hW (Nat.le_refl _)) (HI.out.ints.below hW (Nat.le_refl _))
      exact h.mono fun e w' ⟨hb, r⟩ => ⟨hW.trans (hb.mono hW.size), r⟩
    have hwz : w.heap.size < w1.heap.size := by omega
    have HS : Hid (∀ x : World, Below w1.heap.size w1 x → Below w1.heap.size w1 x ∧ x.cell? ⟨w.heap.size, 0, none⟩ = some (.int .i64 (N : Int)) ∧ x.cell? ⟨w.heap.size, 1, none⟩ = some (.int .i64 (sN : Int)) ∧ x.cell? ⟨w.heap.size, 2, none⟩ = some (.int .i64 (tN : Int)) ∧ x.cell? ⟨w.heap.size, 3, none⟩ = some (.slice ao l.length cap)) :=
      fun x h => ⟨h, later h r0 hwz, later h r1 hwz, later h r2 hwz, later h r3 hwz⟩
    have HPart : Hid (∀ x : Nat, Win N sN tN l v x → (∀ i, i < l.length → ShutAt l F x i) → ∃ hi, PartIs N sN tN l v x hi) := fun x h1 h2 => h1.part HE.out hf hgo hmx h2
    have h4 : (2 : Nat) ^ N ≤ 4096 := pow_small (show N < 13 by omega) rfl
    have H4 : Hid ((2 : Nat) ^ N ≤ 4096) := h4
    clear hge hall hs0 hs1 ht0 ht1 hf hgo hmx hS hw0 hFl h4 r0 r1 r2 r3 x1 HT HG1 HI
    have r0 := (HS.out w1 (Below.refl _ _)).2
    obtain ⟨r0, r1, r2, r3⟩ := r0
    go_wp2
    go_region_held3 (fun x => Below w1.heap.size w1 x ∧ x.cell? ⟨w.heap.size, 0, none⟩ = some (.int .i64 (N : Int)) ∧ x.cell? ⟨w.heap.size, 1, none⟩ = some (.int .i64 (sN : Int)) ∧ x.cell? ⟨w.heap.size, 2, none⟩ = some (.int .i64 (tN : Int)) ∧ x.cell? ⟨w.heap.size, 3, none⟩ = some (.slice ao l.length cap))
      (first
        | with_reducible assumption
        | with_reducible exact HS.out _ ((Below.refl _ _).drew))
      (first
        | (go_at_call 31; refine (HBit.out _).mono ?_; rintro e w' ⟨rfl, hw⟩; rw [hw]; clear hw)
        | (go_at_call 30; refine (HOn.out _ (And.left (by with_reducible assumption))).mono ?_; rintro e w3 ⟨hb3, x, rfl, hx, HX⟩; have hs3 := HS.out w3 hb3; clear hb3))
    all_goals
      go_wp2
      go_ret3
      exact ⟨HB1.out.trans (hs3.1.mono (by omega)), x, v, rfl, ⟨fun h => absurd HE.out h, fun _ => HPart.out x HX.out.1 HX.out.2, by have := H4.out; omega⟩⟩
  · have hE' : (E != 0) = true := by simpa using hE
    have HN : Hid (E ≠ 0) := hE
    clear hE x1
    go_wp2
    go_ret3
    exact ⟨HB1.out, 0, 0, rfl, ⟨fun _ => ⟨rfl, rfl⟩, fun h => absurd (HE.out.symm.trans h) HN.out, by omega⟩⟩

theorem turn_back (l : List Arc3) : (l.map turnA).map turnA = l := by
  rw [List.map_map]
  have : turnA ∘ turnA = id := funext fun a => rfl
  rw [this, List.map_id]


theorem CLeast_any : CLeastC := CLeast_of MOf_any

end Go.Proofs.Ytmneajmfoljflaa
