/- Contract of the document's own Joined: of each node the least one with which it is joined. -/
import Derived.Test.YtkcjemhbenkglaaWays
import Derived.Test.YtkcjemhbenkglaaBoth
namespace Go.Proofs.Ytkcjemhbenkglaa
open Go.RowKit
set_option linter.unusedVariables false

set_option maxHeartbeats 400000 in
theorem joinedC (x : Int) (w : World) :
    Calls Try.prog 33 #[.int .i64 x] w fun e w' => e = .returned (.bool (decide (x < noEnd))) ∧ w' = w := by
  by_cases h : x < 1099511627776
  · rw [decide_eq_true (show x < noEnd from h)]
    go_enter Try.func33, Try.ntmps33
    go_wp2
    go_ret
    exact ⟨by simp, rfl⟩
  · rw [decide_eq_false (show ¬ x < noEnd from h)]
    go_enter Try.func33, Try.ntmps33
    go_wp2
    go_ret
    exact ⟨by simp, rfl⟩

set_option maxHeartbeats 400000 in
theorem joinedIx (ao : Option Addr) (cap : Nat) (l : List Int) (p : Nat) (w : World) (hm : l.length ≤ maxLen) (hA : IntsAt w ao l) (hp : p < l.length) (hyes : ati l p < noEnd) (hno : ∀ j, j < p → noEnd ≤ ati l j) :
    Calls Try.prog 32 #[.slice ao l.length cap, .func (.func 33) #[] #[]] w fun e w' => e = .returned (.int .i64 (p : Int)) ∧ w' = w := by
  unfold maxLen at hm
  have HY : Hid (ati l p < noEnd) := hyes
  have HN : Hid (∀ j, j < p → noEnd ≤ ati l j) := hno
  clear hyes hno
  go_enter Try.func32, Try.ntmps32
  go_wp2
  go_loop [8] (fun i => ∃ k : Nat, k ≤ p ∧ i = .int .i64 k) (fun i => l.length - (intOf i).toNat)
  case atStart => exact ⟨0, Nat.zero_le _, rfl⟩
  case round =>
    obtain ⟨k, hk, rfl⟩ := hrel
    have hlt : k < l.length := by omega
    obtain ⟨b, off, rfl, hb, c0⟩ := hA k hlt
    by_cases he : k = p
    · subst he
      have hd : decide (ati l k < noEnd) = true := decide_eq_true HY.out
      generalize ati l k = x at *
      go_wp2_with (go_at_call 33; refine (joinedC _ _).mono ?_; rintro e w1 ⟨rfl, rfl⟩; rw [hd])
      go_ret
      exact ⟨rfl, rfl⟩
    · have hd : decide (ati l k < noEnd) = false := decide_eq_false (by have := HN.out k (by omega); omega)
      generalize ati l k = x at *
      go_wp2_with (go_at_call 33; refine (joinedC _ _).mono ?_; rintro e w1 ⟨rfl, rfl⟩; rw [hd])
      go_round
      case rel => exact ⟨k + 1, by omega, by go_num⟩
      case measure => simp [intOf]; omega

theorem flo_joined {N : Nat} {l : List Arc3} {M : Nat → Nat → Int} (h : IsInit N (both l) M) (hN : N ≤ 12) (hl : ∀ a ∈ both l, (0 ≤ a.1 ∧ a.1 < (N : Int)) ∧ (0 ≤ a.2.1 ∧ a.2.1 < (N : Int))) {i j : Nat} (hi : i < N) (hj : j < N) : flo M N i j < noEnd ↔ Jn l i j := by
  obtain ⟨_, _, h3⟩ := flo_ok h N (Nat.le_refl _)
  constructor
  · intro c; exact ⟨_, h3 i j hi hj c⟩
  · rintro ⟨k, hk⟩
    obtain ⟨F, hF⟩ := far_there N (both l) i
    rw [flo_far h hN hl hi hF hj]
    have := hF.le hj hk
    have := hF.lt hl hj
    rw [if_neg (by omega)]
    unfold noEnd; omega

theorem both_nodes {N : Int} {l : List Arc3} (hl : ∀ a ∈ l, (0 ≤ a.1 ∧ a.1 < N) ∧ (0 ≤ a.2.1 ∧ a.2.1 < N)) : ∀ a ∈ both l, (0 ≤ a.1 ∧ a.1 < N) ∧ (0 ≤ a.2.1 ∧ a.2.1 < N) := by
  intro a ha
  rcases List.mem_append.1 ha with ha | ha
  · exact hl a ha
  · obtain ⟨x, hx, rfl⟩ := List.mem_map.1 ha
    exact ⟨(hl x hx).2, (hl x hx).1⟩

theorem least_nat {p : Nat → Prop} {k : Nat} (h : p k) : ∃ d, p d ∧ ∀ j, p j → d ≤ j := by
  induction k using Nat.strongRecOn with
  | _ k ih =>
    by_cases c : ∃ j, j < k ∧ p j
    · obtain ⟨j, hj, hw⟩ := c; exact ih j hj hw
    · exact ⟨k, h, fun j hj => Nat.le_of_not_lt fun hlt => c ⟨j, hlt, hj⟩⟩

theorem parts_there (N : Nat) (l : List Arc3) : ∃ F, PartsIs N l F := by
  have each : ∀ v : Nat, ∃ p : Nat, Jn l p v ∧ ∀ u : Nat, Jn l u v → p ≤ u := fun v => least_nat (p := fun u => Jn l u v) (Jn.refl l v)
  refine ⟨(List.range N).map fun v => ((Classical.choose (each v) : Nat) : Int), by simp, fun v hv => ?_⟩
  have e : ati ((List.range N).map fun v => ((Classical.choose (each v) : Nat) : Int)) v = ((Classical.choose (each v) : Nat) : Int) := by rw [ati_lt _ _ (by simpa using hv)]; simp
  rw [e]
  exact ⟨_, rfl, Classical.choose_spec (each v)⟩

set_option maxHeartbeats 2000000 in
set_option maxRecDepth 100000 in
theorem Joined_any (N : Nat) (ao : Option Addr) (cap : Nat) (l : List Arc3) (w : World) (F : List Int) (hF : PartsIs N l F) (hA : ArcsAt w ao l) (hn : ao = none → l.length = 0 ∧ cap = 0) (hlen : l.length ≤ 60) (h1 : 1 ≤ N) (h12 : N ≤ 12)
    (hl : ∀ a ∈ l, (0 ≤ a.1 ∧ a.1 < (N : Int)) ∧ (0 ≤ a.2.1 ∧ a.2.1 < (N : Int))) :
    Calls Try.prog 22 #[.agg #[.int .i64 (N : Int), .slice ao l.length cap]] w fun e w' => Below w.heap.size w w' ∧
      ∃ ao' cap', e = .returned (.slice ao' N cap') ∧ IntsAt w' ao' F ∧ (∀ b off, ao' = some ⟨b, off, none⟩ → w.heap.size ≤ b) := by
  have hA0 := hA.alloc (.cells #[.int .i64 (N : Int), .slice ao l.length cap] 24)
  obtain ⟨i0, hi, hz0, hz1, hz2⟩ := info_parts infoInt
  have HF : Hid (PartsIs N l F) := hF
  have HL : Hid (∀ a ∈ l, (0 ≤ a.1 ∧ a.1 < (N : Int)) ∧ (0 ≤ a.2.1 ∧ a.2.1 < (N : Int))) := hl
  have HN : Hid (ao = none → l.length = 0 ∧ cap = 0) := hn
  have HBl : Hid ((both l).length = l.length + l.length) := by simp [Hid, both]
  clear hF hl hn
  go_enter Try.func22, Try.ntmps22
  go_wp2_with fail
  refine (Both_any N ao cap l _ hA0 HN.out hlen).mono ?_
  rintro e w1 ⟨hb1, ao1, cap1, rfl, hA1, _, _⟩
  simp only [World.size_alloc] at hb1
  have hz1' := hb1.size
  simp only [World.size_alloc] at hz1'
  go_wp2_with fail
  refine (Ways_any N ao1 cap1 (both l) w1 hA1 (by rw [HBl.out]; unfold maxLen; omega) h1 h12 (both_nodes HL.out)).mono ?_
  rintro e w2 ⟨hb2, D, R, M, rfl, hP, M1, hI, hM⟩
  have hz2' := hb2.size
  have HJ : Hid (∀ i j, i < N → j < N → (M i j < noEnd ↔ Jn l i j)) := fun i j h2 h3 => by rw [hM i j h2 h3]; exact flo_joined hI h12 (both_nodes HL.out) h2 h3
  have HP : Hid (PMat w1.heap.size w2 D R N N N M) := hP
  have HB2 : Hid (Below w.heap.size w w2) := (below_in hb1 (by omega)).trans (hb2.mono (by omega))
  clear hP hM hI hb1 hb2 hA1 hA0
  go_wp2_with fail
  go_loopw [4, 11] (fun v i wr => ∃ k : Nat, k ≤ N ∧ i = .int .i64 k ∧ wr.ownsRow w2.heap.size 3 1 v k (flati (F.take k)) ∧ Below w2.heap.size w2 wr) (fun _ i _ => N - (intOf i).toNat)
  case atStart => exact ⟨0, Nat.zero_le _, rfl, World.ownsRow_nil _ _ _ _, Below.refl _ _⟩
  case round =>
    obtain ⟨k, hk, rfl, hown, hB⟩ := hrel
    have hz := hB.size
    by_cases hlt : k < N
    · have hPr := HP.out.below hB (Nat.le_refl _)
      have d1 := hPr.at hlt
      have hRow := row_ints (hPr.inner k hlt)
      have hDl := hPr.outer.lt
      obtain ⟨p, ep, jp, mp⟩ := HF.out.all k hlt
      have hpk := HF.out.le hlt
      have hpN : p < N := by omega
      have hrl : ((List.range N).map (M k)).length = N := by simp
      have hat : ∀ j, j < N → ati ((List.range N).map (M k)) j = M k j := fun j hj => by rw [ati_lt _ _ (by simpa using hj)]; simp
      have hIx := joinedIx (some ⟨R k, 0, none⟩) N ((List.range N).map (M k)) p wr (by rw [hrl]; unfold maxLen; omega) hRow (by rw [hrl]; exact hpN)
        (by rw [hat p hpN]; exact (HJ.out k p hlt hpN).2 jp.symm)
        (fun j hj => by
          rw [hat j (by omega)]
          by_cases c : M k j < noEnd
          · have := mp j ((HJ.out k j hlt (by omega)).1 c).symm
            omega
          · omega)
      rw [hrl] at hIx
      have hsn := take_snoci F k (by rw [HF.out.len]; exact hlt)
      have HS : Hid (flati (F.take (k + 1)) = flati (F.take k) ++ [.int .i64 (p : Int)]) := by rw [Hid, hsn, ep, flati, List.map_append]; rfl
      have HIx : Hid (Calls Try.prog 32 #[.slice (some ⟨R k, 0, none⟩) N N, .func (.func 33) #[] #[]] wr fun e w' => e = .returned (.int .i64 (p : Int)) ∧ w' = wr) := hIx
      clear hPr hRow hIx hsn hat hrl ep jp mp
      go_wp2_with fail
      refine Calls.mono HIx.out ?_
      rintro e w5 ⟨rfl, hw5⟩
      subst hw5
      go_wp2_with (at_builtin; refine wpList_append_own _ rfl (.tmp 14) (.tmp 20) 28 rfl w2.heap.size 3 i0 _ 1 8 Try.underlying28 hi hz0 hz1 hz2 rfl (by decide) _ _ _ rfl (hown.alloc _) ⟨w5.heap.size, 0, none⟩ 1 1 [.int .i64 (p : Int)] rfl rfl ?c1 ?c2 ?c3 ?c4 ?c5 ?_)
      case c1 => exact cell_one_new _ _ _
      case c2 => intro u hu; simp at hu; subst hu; rfl
      case c3 => unfold maxLen; omega
      case c4 => omega
      case c5 => simp; omega
      · intro v' w6 hown' hgrow _
        rw [← HS.out] at hown'
        have hB' : Below w2.heap.size w2 w6 := (hB.alloc hz _).grown hgrow (by simp; omega) (by
          intro g hg
          rcases hown.2 with ⟨rfl, _⟩ | ⟨g', _, _, rfl, hB0, _⟩
          · cases hg
          · simp only [Value.ownBlock, Option.some.injEq] at hg; omega)
        clear hgrow hown
        go_wp2
        go_roundw
        case rel => exact ⟨k + 1, by omega, by go_num, hown', hB'⟩
        case measure => simp [intOf]; omega
    · have hkN : N = k := by omega
      subst hkN
      have hFl := HF.out.len
      rw [List.take_of_length_le (by omega)] at hown
      have hown2 := hown
      rw [← hFl] at hown2
      obtain ⟨ao', cap', rfl, hI', hfr, _, _⟩ := owns_ints hown2
      have HI : Hid (IntsAt wr ao' F) := hI'
      have HFr : Hid (∀ b off, ao' = some ⟨b, off, none⟩ → w2.heap.size ≤ b) := hfr
      have HFl : Hid (F.length = N) := hFl
      clear hI' hfr hown hown2 hFl
      go_wp2
      go_ret
      rw [HFl.out]
      refine ⟨HB2.out.trans (hB.mono (by omega)), ao', cap', rfl, HI.out, fun b off e => ?_⟩
      have := HFr.out b off e
      omega

end Go.Proofs.Ytkcjemhbenkglaa
