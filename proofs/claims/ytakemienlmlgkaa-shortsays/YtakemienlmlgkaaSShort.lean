/- Package short's own shorten and settle. -/
import Derived.Test.YtakemienlmlgkaaShR
import Derived.Test.YtakemienlmlgkaaBools
import Derived.Test.YtakemienlmlgkaaMkB
namespace Go.Proofs.Ytakemienlmlgkaa
open Go.RowKit
set_option linter.unusedVariables false

/-- of what lay in w only blocks b and c have turned -/
structure Two (b c : Nat) (w w' : World) : Prop where
  os : w'.os = w.os
  tape : w'.tape = w.tape
  output : w'.output = w.output
  size : w.heap.size ≤ w'.heap.size
  block : ∀ k, k < w.heap.size → k ≠ b → k ≠ c → w'.heap[k]? = w.heap[k]?

theorem Two.below {b c B : Nat} {w w' : World} (h : Two b c w w') (hb : B ≤ b) (hc : B ≤ c) (hB : B ≤ w.heap.size) : Below B w w' :=
  ⟨h.os, h.tape, h.output, h.size, fun k hk => h.block k (by omega) (by omega) (by omega)⟩
theorem Two.blk {b c : Nat} {w w' : World} (h : Two b c w w') {k : Nat} {o : Obj} (hk : w.heap[k]? = some o) (hb : k ≠ b) (hc : k ≠ c) : w'.heap[k]? = some o :=
  (h.block k (Array.getElem?_eq_some_iff.1 hk).1 hb hc).trans hk
theorem Two.arcs {b c : Nat} {w w' : World} (h : Two b c w w') {ao : Option Addr} {l : List Arc3} (hA : ArcsAt w ao l) (hne : ∀ d off, ao = some ⟨d, off, none⟩ → 0 < l.length → d ≠ b ∧ d ≠ c) : ArcsAt w' ao l := by
  intro i hi
  obtain ⟨d, off, rfl, hlt, c0, c1, c2⟩ := hA i hi
  have hb : ∀ o, w'.cell? ⟨d, o, none⟩ = w.cell? ⟨d, o, none⟩ := fun o => World.cell?_of_block (w := w) (a := ⟨d, o, none⟩) (h.block d hlt (hne d off rfl (by omega)).1 (hne d off rfl (by omega)).2)
  exact ⟨d, off, rfl, Nat.lt_of_lt_of_le hlt h.size, (hb _).trans c0, (hb _).trans c1, (hb _).trans c2⟩
theorem Two.refl (b c : Nat) (w : World) : Two b c w w := ⟨rfl, rfl, rfl, Nat.le_refl _, fun _ _ _ _ => rfl⟩
theorem Two.trans {b c : Nat} {w x y : World} (h : Two b c w x) (h2 : Two b c x y) : Two b c w y :=
  ⟨h2.os.trans h.os, h2.tape.trans h.tape, h2.output.trans h.output, Nat.le_trans h.size h2.size, fun k hk hb hc => (h2.block k (Nat.lt_of_lt_of_le hk h.size) hb hc).trans (h.block k hk hb hc)⟩
theorem Two.set1 {b c o : Nat} {w w' : World} (h : Two b c w w') (v : Value) : Two b c w (w'.setCell ⟨b, o, none⟩ v) :=
  ⟨h.os, h.tape, h.output, by simpa using h.size, fun k hk hb hc => (Go.Deep.blk_setCell_other _ _ _ _ hb).trans (h.block k hk hb hc)⟩
theorem Two.set2 {b c o : Nat} {w w' : World} (h : Two b c w w') (v : Value) : Two b c w (w'.setCell ⟨c, o, none⟩ v) :=
  ⟨h.os, h.tape, h.output, by simpa using h.size, fun k hk hb hc => (Go.Deep.blk_setCell_other _ _ _ _ hc).trans (h.block k hk hb hc)⟩
theorem Two.alloc {b c : Nat} {w w' : World} (h : Two b c w w') (o : Obj) : Two b c w (w'.alloc o) :=
  ⟨h.os, h.tape, h.output, by have := h.size; simp; omega, fun k hk hb hc => by
    have hk' : k < w'.heap.size := Nat.lt_of_lt_of_le hk h.size
    rw [Go.Deep.blk_alloc_lt _ _ _ hk']
    exact h.block k hk hb hc⟩
theorem Two.drew {b c : Nat} {w w' : World} (h : Two b c w w') : Two b c w w'.drew := ⟨h.os, h.tape, h.output, h.size, h.block⟩
theorem Two.drewN {b c : Nat} {w w' : World} (h : Two b c w w') (q : Nat) : Two b c w (w'.drewN q) := by
  induction q with
  | zero => exact h
  | succ q ih => exact ih.drew
theorem rowIs_drewN {w : World} {b : Nat} {t : TypeId} {n : Nat} {f : Nat → Value} (h : w.rowIs b t n f) (q : Nat) : (w.drewN q).rowIs b t n f := by
  induction q with
  | zero => exact h
  | succ q ih => exact ih.drew

theorem Rx.mono {N : Nat} {l : List Arc3} {S : Nat → Prop} {r m m' : Nat} {F : Nat → Int} {K : Nat → Bool} (h : Rx N l S r m F K) (hm : m ≤ m') : Rx N l S r m' F K :=
  ⟨h.zero, h.walk, h.few, fun v hv => by have := h.bnd v hv; omega⟩

set_option maxHeartbeats 2000000 in
set_option maxRecDepth 100000 in
theorem shorten_any (N : Nat) (ao : Option Addr) (cap : Nat) (l : List Arc3) (S : Nat → Prop) (r b c : Nat) (F : Nat → Int) (K : Nat → Bool) (w : World) (hA : ArcsAt w ao l) (h60 : l.length ≤ 60) (h12 : N ≤ 12) (hr : r < 12)
    (hl : ∀ a ∈ l, (0 ≤ a.1 ∧ a.1 < (N : Int)) ∧ (0 ≤ a.2.1 ∧ a.2.1 < (N : Int)) ∧ -10000 ≤ a.2.2 ∧ a.2.2 ≤ 10000) (hbc : b ≠ c)
    (hne : ∀ d off, ao = some ⟨d, off, none⟩ → 0 < l.length → d ≠ b ∧ d ≠ c)
    (hF : w.rowIs b 3 N (fun j => .int .i64 (F j))) (hK : w.rowIs c 4 N (fun j => .bool (K j))) (hR : Rx N l S r (60 * r) F K) :
    Calls Try.prog 33 #[.slice ao l.length cap, .slice (some ⟨b, 0, none⟩) N N, .slice (some ⟨c, 0, none⟩) N N] w fun e w' => Two b c w w' ∧
      ∃ (ch : Bool) (F' : Nat → Int) (K' : Nat → Bool), e = .returned (.bool ch) ∧ w'.rowIs b 3 N (fun j => .int .i64 (F' j)) ∧ w'.rowIs c 4 N (fun j => .bool (K' j)) ∧
        Rx N l S (r + 1) (60 * (r + 1)) F' K' ∧ (ch = false → ∀ a ∈ l, Slack F' K' a) ∧ (ch = true → Wit N l S r) := by
  have HL : Hid (∀ a ∈ l, (0 ≤ a.1 ∧ a.1 < (N : Int)) ∧ (0 ≤ a.2.1 ∧ a.2.1 < (N : Int)) ∧ -10000 ≤ a.2.2 ∧ a.2.2 ≤ 10000) := hl
  have HF : Hid (w.rowIs b 3 N (fun j => .int .i64 (F j))) := hF
  have HK : Hid (w.rowIs c 4 N (fun j => .bool (K j))) := hK
  have HR : Hid (Rx N l S r (60 * r) F K) := hR
  have HA : Hid (ArcsAt w ao l) := hA
  have HNE : Hid (∀ d off, ao = some ⟨d, off, none⟩ → 0 < l.length → d ≠ b ∧ d ≠ c) := hne
  clear hl hF hK hR hA hne
  go_enter Try.func33, Try.ntmps33
  go_wp2
  go_loopw [7, 13] (fun x i wr => ∃ (k : Nat) (ch : Bool) (F : Nat → Int) (K : Nat → Bool), k ≤ l.length ∧ i = .int .i64 k ∧ x = .bool ch ∧ wr.rowIs b 3 N (fun j => .int .i64 (F j)) ∧ wr.rowIs c 4 N (fun j => .bool (K j)) ∧ RxK N l S r k (60 * r + k) ch F K ∧ Two b c w wr) (fun _ i _ => l.length - (intOf i).toNat)
  case atStart => exact ⟨0, false, F, K, Nat.zero_le _, rfl, rfl, HF.out, HK.out, rx_begin HR.out, Two.refl _ _ _⟩
  case round =>
    obtain ⟨k, ch, F, K, hk, rfl, rfl, hF, hK, hR, hT⟩ := hrel
    clear HF HK HR
    by_cases hkl : k < l.length
    · obtain ⟨ba, off, rfl, hba, c0, c1, c2⟩ := hT.arcs HA.out HNE.out k hkl
      obtain ⟨hba1, hba2⟩ := HNE.out ba off rfl (by omega)
      have hmem := HL.out _ (at3_mem l k hkl)
      obtain ⟨a, ha⟩ : ∃ a, at3 l k = a := ⟨_, rfl⟩
      rw [ha] at c0 c1 c2 hmem
      obtain ⟨f, t, x⟩ := a
      simp only at c0 c1 c2 hmem
      obtain ⟨⟨p1, p2⟩, ⟨p3, p4⟩, p5, p6⟩ := hmem
      obtain ⟨f, rfl⟩ := Int.eq_ofNat_of_zero_le p1
      obtain ⟨t, rfl⟩ := Int.eq_ofNat_of_zero_le p3
      have hf : f < N := by omega
      have ht : t < N := by omega
      have q0 := hF.cell (i := f) hf
      have q1 := hF.cell (i := t) ht
      have q2 := hF.frozen t
      have q3 := hK.cell (i := f) hf
      have q4 := hK.cell (i := t) ht
      have q5 := hK.frozen t
      have hbl := hF.lt
      have hcl := hK.lt
      have hbf := hR.rx.bnd f hf
      have hbt := hR.rx.bnd t ht
      have hbf1 : -7300000 ≤ F f := by omega
      have hbf2 : F f ≤ 7300000 := by omega
      have hbt1 : -7300000 ≤ F t := by omega
      have hbt2 : F t ≤ 7300000 := by omega
      have HF : Hid (wr.rowIs b 3 N (fun j => .int .i64 (F j))) := hF
      have HK : Hid (wr.rowIs c 4 N (fun j => .bool (K j))) := hK
      have HT : Hid (Two b c w wr) := hT
      clear hbf hbt hF hK hT
      cases g1 : K f
      · have HR : Hid (RxK N l S r (k + 1) (60 * r + (k + 1)) ch F K) := rx_miss hR hkl ha hf ht (Or.inl g1)
        rw [g1] at q3
        clear hR ha g1
        generalize F f = y at *
        generalize F t = z at *
        generalize K t = kt at *
        go_wp2
        go_roundw
        case rel => exact ⟨k + 1, ch, F, K, by omega, by go_num, rfl, HF.out.alloc _, HK.out.alloc _, HR.out, HT.out.alloc _⟩
        case measure => simp [intOf]; omega
      · rw [g1] at q3
        have hit : (K t = false ∨ F f + x < F t) → Hid (RxK N l S r (k + 1) (60 * r + (k + 1)) true (fun v => if v = t then F f + x else F v) (fun v => if v = t then true else K v)) :=
          fun h => rx_hit hR hkl ha hf ht ⟨p5, p6⟩ g1 h
        have miss : (K t = true ∧ F t ≤ F f + x) → Hid (RxK N l S r (k + 1) (60 * r + (k + 1)) ch F K) :=
          fun h => rx_miss hR hkl ha hf ht (Or.inr h)
        clear hR ha g1
        cases g2 : K t
        · have HR := hit (Or.inl g2)
          rw [g2] at q4
          clear hit miss g2
          generalize F f = y at *
          generalize F t = z at *
          go_wp2
          go_quiet (fail)
          go_wp2
          go_roundw
          case rel =>
            refine ⟨k + 1, true, _, _, by omega, by go_num, rfl, ?_, ?_, HR.out, ?_⟩
            · refine ((((rowIs_drewN (HF.out.alloc _) _).set t _).setOther (by simp; omega) _)).congr fun j hj => ?_
              by_cases e : j = t <;> simp [e]
            · refine ((((rowIs_drewN (HK.out.alloc _) _).setOther (by simp; omega) _).set t _)).congr fun j hj => ?_
              by_cases e : j = t <;> simp [e]
            · exact (((HT.out.alloc _).drewN _).set1 _).set2 _
          case measure => simp [intOf]; omega
        · rw [g2] at q4
          by_cases g3 : F f + x < F t
          · have HR := hit (Or.inr g3)
            clear hit miss g2
            generalize F f = y at *
            generalize F t = z at *
            have e1 : decide (y + x < z) = true := by simpa using g3
            go_wp2
            go_quiet (fail)
            go_wp2
            go_roundw
            case rel =>
              refine ⟨k + 1, true, _, _, by omega, by go_num, rfl, ?_, ?_, HR.out, ?_⟩
              · refine ((((rowIs_drewN (HF.out.alloc _) _).set t _).setOther (by simp; omega) _)).congr fun j hj => ?_
                by_cases e : j = t <;> simp [e]
              · refine ((((rowIs_drewN (HK.out.alloc _) _).setOther (by simp; omega) _).set t _)).congr fun j hj => ?_
                by_cases e : j = t <;> simp [e]
              · exact (((HT.out.alloc _).drewN _).set1 _).set2 _
            case measure => simp [intOf]; omega
          · have HR := miss ⟨g2, by omega⟩
            clear hit miss g2
            generalize F f = y at *
            generalize F t = z at *
            have e1 : decide (y + x < z) = false := by simpa using g3
            go_wp2
            go_quiet (fail)
            go_wp2
            go_roundw
            case rel => exact ⟨k + 1, ch, F, K, by omega, by go_num, rfl, rowIs_drewN (HF.out.alloc _) _, rowIs_drewN (HK.out.alloc _) _, HR.out, (HT.out.alloc _).drewN _⟩
            case measure => simp [intOf]; omega
    · have hkk : k = l.length := by omega
      subst hkk
      have HR : Hid (Rx N l S (r + 1) (60 * (r + 1)) F K) := (rx_next hR).mono (by omega)
      have HS : Hid (ch = false → ∀ a ∈ l, Slack F K a) := fun e => by subst e; exact rx_slack hR
      have HW : Hid (ch = true → Wit N l S r) := hR.wit
      have HF : Hid (wr.rowIs b 3 N (fun j => .int .i64 (F j))) := hF
      have HK : Hid (wr.rowIs c 4 N (fun j => .bool (K j))) := hK
      have HT : Hid (Two b c w wr) := hT
      clear hF hK hT hR
      go_wp2
      go_ret
      exact ⟨HT.out, ch, F, K, rfl, HF.out, HK.out, HR.out, HS.out, HW.out⟩

set_option maxHeartbeats 2000000 in
set_option maxRecDepth 100000 in
theorem settle_any (N : Nat) (ao : Option Addr) (cap : Nat) (l : List Arc3) (S : Nat → Prop) (b c : Nat) (K : Nat → Bool) (w : World) (hA : ArcsAt w ao l) (h60 : l.length ≤ 60) (h1 : 1 ≤ N) (h12 : N ≤ 12)
    (hl : ∀ a ∈ l, (0 ≤ a.1 ∧ a.1 < (N : Int)) ∧ (0 ≤ a.2.1 ∧ a.2.1 < (N : Int)) ∧ -10000 ≤ a.2.2 ∧ a.2.2 ≤ 10000) (hbc : b ≠ c)
    (hne : ∀ d off, ao = some ⟨d, off, none⟩ → 0 < l.length → d ≠ b ∧ d ≠ c)
    (hF : w.rowIs b 3 N (fun _ => .int .i64 0)) (hK : w.rowIs c 4 N (fun j => .bool (K j))) (hS : ∀ v, v < N → (K v = true ↔ S v)) :
    Calls Try.prog 27 #[.agg #[.int .i64 (N : Int), .slice ao l.length cap], .slice (some ⟨b, 0, none⟩) N N, .slice (some ⟨c, 0, none⟩) N N] w fun e w' => Two b c w w' ∧
      ((e = .returned (.bool true) ∧ ∃ (F' : Nat → Int) (K' : Nat → Bool) (r m : Nat), w'.rowIs b 3 N (fun j => .int .i64 (F' j)) ∧ w'.rowIs c 4 N (fun j => .bool (K' j)) ∧ Rx N l S r m F' K' ∧ ∀ a ∈ l, Slack F' K' a) ∨
        (e = .returned (.bool false) ∧ ∃ s : Nat, s < N ∧ S s ∧ LoopFrom l s)) := by
  have HL : Hid (∀ a ∈ l, (0 ≤ a.1 ∧ a.1 < (N : Int)) ∧ (0 ≤ a.2.1 ∧ a.2.1 < (N : Int)) ∧ -10000 ≤ a.2.2 ∧ a.2.2 ≤ 10000) := hl
  have HF : Hid ((w.alloc (.cells #[.int .i64 (N : Int), .slice ao l.length cap] 24)).rowIs b 3 N (fun j => .int .i64 ((fun _ => (0 : Int)) j))) := hF.alloc _
  have HK : Hid ((w.alloc (.cells #[.int .i64 (N : Int), .slice ao l.length cap] 24)).rowIs c 4 N (fun j => .bool (K j))) := hK.alloc _
  have HS : Hid (∀ v, v < N → (K v = true ↔ S v)) := hS
  have HA : Hid (ArcsAt w ao l) := hA
  have HNE : Hid (∀ d off, ao = some ⟨d, off, none⟩ → 0 < l.length → d ≠ b ∧ d ≠ c) := hne
  have hbl := hF.lt
  have hcl := hK.lt
  have x0 := blk_new w (.cells #[.int .i64 (N : Int), .slice ao l.length cap] 24)
  obtain ⟨r0, r1, f0, f1⟩ := blk2 x0
  have HX : Hid ((w.alloc (.cells #[.int .i64 (N : Int), .slice ao l.length cap] 24)).heap[w.heap.size]? = some (.cells #[.int .i64 (N : Int), .slice ao l.length cap] 24 (0, 0))) := x0
  clear hl hF hK hA hne hS x0
  go_enter Try.func27, Try.ntmps27
  go_wp2
  go_loopw [9] (fun i wr => ∃ (r : Nat) (F : Nat → Int) (K : Nat → Bool), r ≤ N ∧ i = .int .i64 r ∧ wr.rowIs b 3 N (fun j => .int .i64 (F j)) ∧ wr.rowIs c 4 N (fun j => .bool (K j)) ∧ Rx N l S r (60 * r) F K ∧ (0 < r → Wit N l S (r - 1)) ∧ Two b c (w.alloc (.cells #[.int .i64 (N : Int), .slice ao l.length cap] 24)) wr) (fun i _ => N - (intOf i).toNat)
  case atStart => exact ⟨0, fun _ => 0, K, Nat.zero_le _, rfl, HF.out, HK.out, rx_start N l S K HS.out, fun h => absurd h (by omega), Two.refl _ _ _⟩
  case round =>
    obtain ⟨r, F, K, hr, rfl, hF, hK, hR, hW, hT⟩ := hrel
    clear HF HK HS r0 r1 f0 f1
    have hz := hT.size
    simp only [World.size_alloc] at hz
    have x1 := hT.blk HX.out (by omega) (by omega)
    obtain ⟨r0, r1, f0, f1⟩ := blk2 x1
    have hTw : Two b c w wr := ((Two.refl b c w).alloc _).trans hT
    by_cases hlt : r < N
    · have HC := shorten_any N ao cap l S r b c F K wr (hTw.arcs HA.out HNE.out) h60 h12 (by omega) HL.out hbc HNE.out hF hK hR
      have HT : Hid (Two b c (w.alloc (.cells #[.int .i64 (N : Int), .slice ao l.length cap] 24)) wr) := hT
      clear hF hK hR hW hT x1 hTw
      go_wp2_with fail
      refine HC.mono ?_
      rintro e w1 ⟨hT1, ch, F', K', rfl, hF1, hK1, hR1, hS1, hW1⟩
      have HT1 : Hid (Two b c (w.alloc (.cells #[.int .i64 (N : Int), .slice ao l.length cap] 24)) w1) := HT.out.trans hT1
      have HF : Hid (w1.rowIs b 3 N (fun j => .int .i64 (F' j))) := hF1
      have HK : Hid (w1.rowIs c 4 N (fun j => .bool (K' j))) := hK1
      have HR : Hid (Rx N l S (r + 1) (60 * (r + 1)) F' K') := hR1
      clear HC hT1 hF1 hK1 hR1 r0 r1 f0 f1 HT
      cases ch
      · have HS1 : Hid (∀ a ∈ l, Slack F' K' a) := hS1 rfl
        clear hS1 hW1
        go_wp2
        go_ret
        exact ⟨((Two.refl b c w).alloc _).trans HT1.out, Or.inl ⟨rfl, F', K', r + 1, 60 * (r + 1), HF.out, HK.out, HR.out, HS1.out⟩⟩
      · have HW1 : Hid (Wit N l S r) := hW1 rfl
        clear hS1 hW1
        go_wp2
        go_roundw
        case rel => exact ⟨r + 1, F', K', by omega, by go_num, HF.out, HK.out, HR.out, fun _ => HW1.out, HT1.out⟩
        case measure => simp [intOf]; omega
    · have hrr : r = N := by omega
      subst hrr
      have HW : Hid (∃ s : Nat, s < r ∧ S s ∧ LoopFrom l s) := wit_loop (fun a ha => ⟨(HL.out a ha).1, (HL.out a ha).2.1⟩) (by omega) (hW (by omega))
      have HT : Hid (Two b c w wr) := hTw
      clear hF hK hR hW hT x1 hTw
      go_wp2
      go_ret
      exact ⟨HT.out, Or.inr ⟨rfl, HW.out⟩⟩

end Go.Proofs.Ytakemienlmlgkaa
