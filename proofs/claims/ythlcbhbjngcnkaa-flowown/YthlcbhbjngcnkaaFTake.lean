/- Package flow: the next arc; what a list of arcs has left, taken. -/
import Derived.Test.YthlcbhbjngcnkaaSplitC
import Derived.Test.YthlcbhbjngcnkaaOwnIs
import Derived.Test.YthlcbhbjngcnkaaFolM
import Derived.Test.YthlcbhbjngcnkaaOnly
namespace Go.Proofs.Ythlcbhbjngcnkaa
open Go.RowKit
set_option linter.unusedVariables false

set_option maxHeartbeats 1000000 in
theorem next_any (v : Int) (ao af : Option Addr) (cap capf : Nat) (l : List Arc3) (F : List Int) (w : World) (hl60 : l.length ≤ 60) (hFl : F.length = l.length) (hA : ArcsAt w ao l) (hF : IntsAt w af F) :
    Calls Try.prog 48 #[.slice ao l.length cap, .slice af l.length capf, .int .i64 v] w fun e w' => Below w.heap.size w w' ∧
      ((∃ k : Nat, k < l.length ∧ (at3 l k).1 = v ∧ 0 < ati F k ∧ e = .returned (.int .i64 (k : Int))) ∨ (Dead l F v ∧ e = .returned (.int .i64 (-1)))) := by
  have HA : Hid (ArcsAt w ao l) := hA
  have HF : Hid (IntsAt w af F) := hF
  have HFl : Hid (F.length = l.length) := hFl
  clear hA hF hFl
  go_enter Try.func48, Try.ntmps48
  go_wp2
  go_loopw [11] (fun i wr => ∃ k : Nat, k ≤ l.length ∧ i = .int .i64 k ∧ Hid (∀ j, j < k → (at3 l j).1 = v → ati F j ≤ 0) ∧ Below w.heap.size w wr) (fun i _ => l.length - (intOf i).toNat)
  case atStart => exact ⟨0, Nat.zero_le _, rfl, fun j hj => absurd hj (Nat.not_lt_zero _), Below.refl _ _⟩
  case round =>
    obtain ⟨k, hk, rfl, hok, hB⟩ := hrel
    have hz := hB.size
    by_cases hlt : k < l.length
    · obtain ⟨b, off, rfl, hbb, c0, c1, c2⟩ := HA.out.below hB (Nat.le_refl _) k hlt
      obtain ⟨b2, o2, rfl, hb2, d0⟩ := HF.out.below hB (Nat.le_refl _) k (by rw [HFl.out]; exact hlt)
      have HK : Hid (((at3 l k).1 = v → ati F k ≤ 0) → ∀ j, j < k + 1 → (at3 l j).1 = v → ati F j ≤ 0) := fun h j hj => by
        by_cases e : j = k
        · subst e; exact h
        · exact hok.out j (by omega)
      have HY : Hid ((at3 l k).1 = v → 0 < ati F k → ∃ j : Nat, j < l.length ∧ (at3 l j).1 = v ∧ 0 < ati F j ∧ Ending.returned (.int .i64 (k : Int)) = Ending.returned (.int .i64 (j : Int))) := fun h1 h2 => ⟨k, hlt, h1, h2, rfl⟩
      generalize (at3 l k).1 = p at *
      generalize (at3 l k).2.1 = q at *
      generalize (at3 l k).2.2 = c at *
      generalize ati F k = y at *
      clear hok
      by_cases e1 : p = v
      · have e1' : (p == v) = true := by simpa using e1
        by_cases e2 : 0 < y
        · have e2' : decide (0 < y) = true := decide_eq_true e2
          have HR := HY.out e1 e2
          have HR' : Hid (∃ j : Nat, j < l.length ∧ (at3 l j).1 = v ∧ 0 < ati F j ∧ Ending.returned (.int .i64 (k : Int)) = Ending.returned (.int .i64 (j : Int))) := HR
          clear e1 HK HY HR
          go_wp2
          go_ret
          exact ⟨hB.alloc (by omega) _, Or.inl HR'.out⟩
        · have e2' : decide (0 < y) = false := decide_eq_false e2
          have HR : Hid (∀ j, j < k + 1 → (at3 l j).1 = v → ati F j ≤ 0) := HK.out fun _ => by omega
          clear e1 HK HY
          go_wp2
          go_roundw
          case rel => exact ⟨k + 1, by omega, by go_num, HR, hB.alloc (by omega) _⟩
          case measure => simp [intOf]; omega
      · have e1' : (p == v) = false := by simpa using e1
        have HR : Hid (∀ j, j < k + 1 → (at3 l j).1 = v → ati F j ≤ 0) := HK.out fun h => absurd h e1
        clear e1 HK HY
        go_wp2
        go_roundw
        case rel => exact ⟨k + 1, by omega, by go_num, HR, hB.alloc (by omega) _⟩
        case measure => simp [intOf]; omega
    · have hkk : l.length = k := by omega
      subst hkk
      go_wp2
      go_ret
      exact ⟨hB, Or.inr ⟨hok.out, rfl⟩⟩

set_option maxHeartbeats 2000000 in
theorem take_any (g : Nat) (al : Option Addr) (capg capl : Nat) (F : List Int) (K : List Nat) (w : World) (hF60 : F.length ≤ 60) (hK60 : K.length ≤ 60) (hO : OwnI w g capg F.length (ati F)) (hL : IntsAt w al (numP K)) (hne : ∀ b off, al = some ⟨b, off, none⟩ → b ≠ g)
    (hK0 : K ≠ []) (hKn : K.Nodup) (hK : ∀ k ∈ K, k < F.length ∧ 0 < ati F k ∧ ati F k ≤ 10000) :
    Calls Try.prog 45 #[.slice (some ⟨g, 0, none⟩) F.length capg, .slice al K.length capl] w fun e w' =>
      ∃ a : Int, e = .returned (.int .i64 a) ∧ 1 ≤ a ∧ Takes F (a, K) ∧ OwnI w' g capg F.length (ati (takeA F a K)) ∧ Only g w w' := by
  have hK1 : 0 < K.length := List.length_pos_iff.2 hK0
  have HO : Hid (OwnI w g capg F.length (ati F)) := hO
  have HL : Hid (IntsAt w al (numP K)) := hL
  have HKn : Hid (K.Nodup) := hKn
  have HK : Hid (∀ k ∈ K, k < F.length ∧ 0 < ati F k ∧ ati F k ≤ 10000) := hK
  have HKi : Hid (∀ i, i < K.length → K.getD i 0 ∈ K) := fun i hi => by
    have e1 : K.getD i 0 = K[i] := by simp [hi]
    rw [e1]; exact List.getElem_mem hi
  have hgl := hO.lt
  have hgc := hO.le
  clear hO hL hKn hK hK0
  obtain ⟨b, off, rfl, hbl, c0⟩ := HL.out 0 (by rw [numP_len]; exact hK1)
  have hbg : b ≠ g := hne b off rfl
  rw [numP_at hK1] at c0
  obtain ⟨hk0, hp0, hq0⟩ := HK.out _ (HKi.out 0 hK1)
  have d0 := HO.out.cell hk0
  have HH0 : Hid (∃ k ∈ K, ati F k = ati F (K.getD 0 0)) := ⟨_, HKi.out 0 hK1, rfl⟩
  rw [Nat.add_zero] at c0
  generalize K.getD 0 0 = k0 at *
  generalize ati F k0 = a0 at *
  go_enter Try.func45, Try.ntmps45
  go_wp2
  go_loopw [5, 18] (fun s i wr => ∃ (j : Nat) (a : Int), j ≤ K.length ∧ i = .int .i64 j ∧ s = .int .i64 a ∧ (1 ≤ a ∧ a ≤ 10000) ∧ Hid (∀ i, i < j → a ≤ ati F (K.getD i 0)) ∧ Hid (∃ k ∈ K, ati F k = a) ∧ wr = w) (fun _ i _ => K.length - (intOf i).toNat)
  case atStart => exact ⟨0, a0, Nat.zero_le _, rfl, rfl, ⟨by omega, by omega⟩, fun i hi => absurd hi (Nat.not_lt_zero _), HH0, rfl⟩
  case round =>
    obtain ⟨j, a, hj, rfl, rfl, ha, hle, hhit, ew⟩ := hrel
    have ew := ew.symm
    subst ew
    by_cases hlt : j < K.length
    · obtain ⟨b', off', e', _, cj⟩ := HL.out j (by rw [numP_len]; exact hlt)
      cases e'
      rw [numP_at hlt] at cj
      obtain ⟨hkj, hpj, hqj⟩ := HK.out _ (HKi.out j hlt)
      have dj := HO.out.cell hkj
      have HH1 : Hid (∃ k ∈ K, ati F k = ati F (K.getD j 0)) := ⟨_, HKi.out j hlt, rfl⟩
      have HNx : Hid (∀ c : Int, c ≤ a → c ≤ ati F (K.getD j 0) → ∀ i, i < j + 1 → c ≤ ati F (K.getD i 0)) := fun c h1 h2 i hi => by
        by_cases e : i = j
        · subst e; exact h2
        · exact Int.le_trans h1 (hle.out i (by omega))
      generalize K.getD j 0 = kj at *
      generalize ati F kj = y at *
      rcases Int.lt_trichotomy a y with q | q | q
      · have q2 : ¬ y < a := by omega
        have HR := HNx.out a (Int.le_refl _) (by omega)
        have HR' : Hid (∀ i, i < j + 1 → a ≤ ati F (K.getD i 0)) := HR
        clear HNx HR hle
        go_wp2
        go_roundw
        case rel => exact ⟨j + 1, a, by omega, by go_num, rfl, ha, HR', hhit, trivial⟩
        case measure => simp [intOf]; omega
      · subst q
        have HR := HNx.out a (Int.le_refl _) (Int.le_refl _)
        have HR' : Hid (∀ i, i < j + 1 → a ≤ ati F (K.getD i 0)) := HR
        clear HNx HR hle
        go_wp2
        go_roundw
        case rel => exact ⟨j + 1, a, by omega, by go_num, rfl, ha, HR', hhit, trivial⟩
        case measure => simp [intOf]; omega
      · have q2 : ¬ a < y := by omega
        have HR := HNx.out y (by omega) (Int.le_refl _)
        have HR' : Hid (∀ i, i < j + 1 → y ≤ ati F (K.getD i 0)) := HR
        clear HNx HR hle
        go_wp2
        go_roundw
        case rel => exact ⟨j + 1, y, by omega, by go_num, rfl, ⟨by omega, by omega⟩, HR', HH1, trivial⟩
        case measure => simp [intOf]; omega
    · have hjj : K.length = j := Nat.le_antisymm (Nat.le_of_not_lt hlt) hj
      have HT : Hid (Takes F (a, K)) := ⟨fun k hk => by
        have hk : k ∈ K := hk
        obtain ⟨i, hi, e⟩ := List.mem_iff_getElem.1 hk
        have := hle.out i (by omega)
        have e1 : K.getD i 0 = K[i] := by simp [hi]
        rwa [e1, e] at this, hhit.out⟩
      clear hle hhit d0 c0 hlt hj
      subst hjj
      go_wp2
      go_loopw [31] (fun i wr => ∃ j : Nat, j ≤ K.length ∧ i = .int .i64 j ∧ Hid (OwnI wr g capg F.length (ati (takeA F a (K.take j)))) ∧ Only g w wr) (fun i _ => K.length - (intOf i).toNat)
      case atStart => exact ⟨0, Nat.zero_le _, rfl, by rw [List.take_zero, takeA_none]; exact HO, Only.refl _ _⟩
      case round =>
        obtain ⟨j, hj, rfl, hO, hB⟩ := hrel
        have hz := hB.size
        by_cases hlt : j < K.length
        · obtain ⟨b', off', e', _, cj⟩ := hB.ints HL.out (fun c off e => by cases e; exact hbg) j (by rw [numP_len]; exact hlt)
          cases e'
          rw [numP_at hlt] at cj
          obtain ⟨hkj, hpj, hqj⟩ := HK.out _ (HKi.out j hlt)
          have dj := hO.out.cell hkj
          have fj := hO.out.frozen (K.getD j 0)
          have hxb : 0 ≤ ati (takeA F a (K.take j)) (K.getD j 0) ∧ ati (takeA F a (K.take j)) (K.getD j 0) ≤ 10000 := by
            rw [takeA_at F a _ hkj]
            have h1 := along_bounds (a := a) (by omega) (K.take j) (K.getD j 0)
            have h2 := HT.out.le _ (HKi.out j hlt)
            dsimp only at h2
            omega
          have HNx : Hid (∀ i, i < F.length → (if i = K.getD j 0 then ati (takeA F a (K.take j)) (K.getD j 0) - a else ati (takeA F a (K.take j)) i) = ati (takeA F a (K.take (j + 1))) i) := fun i hi => by
            rw [takeA_at F a (K.take (j + 1)) hi, takeA_at F a (K.take j) hi, takeA_at F a (K.take j) hkj, along_snoc HKn.out hlt]
            by_cases e : i = K.getD j 0
            · rw [if_pos e, if_pos e, ← e]; omega
            · rw [if_neg e, if_neg e]; omega
          have HSet := hO.out.set (K.getD j 0) (ati (takeA F a (K.take j)) (K.getD j 0) - a)
          have HSet' : Hid (OwnI (wr.setCell ⟨g, K.getD j 0, none⟩ (.int .i64 (ati (takeA F a (K.take j)) (K.getD j 0) - a))) g capg F.length (ati (takeA F a (K.take (j + 1))))) := HSet.congr HNx.out
          generalize ati (takeA F a (K.take j)) (K.getD j 0) = x at *
          generalize K.getD j 0 = kj at *
          have w1 : IntKind.i64.wrap (x - a) = x - a := by rw [IntKind.wrap_i64]; omega
          clear HSet HNx hO
          go_wp2
          go_roundw
          case rel => exact ⟨j + 1, by omega, by go_num, HSet', hB.setCell _⟩
          case measure => simp [intOf]; omega
        · have hjj : K.length = j := by omega
          subst hjj
          rw [List.take_length] at hO
          go_wp2
          go_ret
          exact ⟨a, rfl, ha.1, HT.out, hO.out, hB⟩

end Go.Proofs.Ythlcbhbjngcnkaa
