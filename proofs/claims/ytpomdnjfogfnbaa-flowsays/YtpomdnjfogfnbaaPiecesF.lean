/- Contracts: the law's own helper pieces, where the pieces are as they should be. -/
import Derived.Test.YtpomdnjfogfnbaaFlowPiecesC
import Derived.Test.YtpomdnjfogfnbaaShelf
import Derived.Test.YtpomdnjfogfnbaaCompact
import Derived.Test.YtpomdnjfogfnbaaCompM
import Derived.Test.YtpomdnjfogfnbaaIsWay
import Derived.Test.YtpomdnjfogfnbaaOwnIs
import Derived.Deep.RegionHeld3
namespace Go.Proofs.Ytpomdnjfogfnbaa
open Go.RowKit
set_option linter.unusedVariables false

theorem way_chain {l : List Arc3} : ∀ {K : List Nat} {s t : Int}, Way l s K t → Chain l s (numP K) t
  | [], _, _, h => h
  | k :: K, s, t, ⟨h1, h2, h3⟩ => ⟨k, rfl, h1, h2, way_chain h3⟩

theorem numP_nodup {K : List Nat} (h : K.Nodup) : (numP K).Nodup :=
  List.pairwise_map.2 (h.imp fun hne e => hne (Int.ofNat.inj e))

theorem compact_len {zs : List Int} (hs : ∀ i j, i ≤ j → j < zs.length → ati zs i ≤ ati zs j) (hn : zs.Nodup) : (Lib.compact zs).length = zs.length :=
  Nat.le_antisymm (pigI (compact_nodup hs) fun x hx => (mem_compact zs x).1 hx) (pigI hn fun x hx => (mem_compact zs x).2 hx)
theorem compact_num {K : List Nat} (h : K.Nodup) : (Lib.compact (sorted (numP K))).length = K.length := by
  rw [compact_len (fun i j hij hj => sorted_ati hij (by rwa [sorted_length] at hj)) ((sorted_perm _).nodup_iff.2 (numP_nodup h)), sorted_length, numP_len]

theorem nodup_len {K : List Nat} {m : Nat} (hn : K.Nodup) (h : ∀ k ∈ K, k < m) : K.length ≤ m := by
  have := pigI (numP_nodup hn) (m := numP (List.range m)) fun x hx => by
    obtain ⟨k, hk, rfl⟩ := List.mem_map.1 hx
    exact List.mem_map.2 ⟨k, List.mem_range.2 (h k hk), rfl⟩
  rwa [numP_len, numP_len, List.length_range] at this
theorem drewN_size (w : World) (q : Nat) : (w.drewN q).heap.size = w.heap.size := by
  induction q with
  | zero => rfl
  | succ q ih => exact ih

set_option maxHeartbeats 400000 in
theorem notZero_any (x : Int) (w : World) : Calls Try.prog 31 #[.int .i64 x] w fun e w' => e = .returned (.bool (x != 0)) ∧ w' = w := by
  go_enter Try.func31, Try.ntmps31
  go_wp2
  go_ret
  exact ⟨rfl, rfl⟩

set_option maxHeartbeats 400000 in
theorem zeroIx (ao : Option Addr) (cap : Nat) (l : List Int) (w : World) (hm : l.length ≤ maxLen) (hA : IntsAt w ao l) (hz : ∀ j, j < l.length → ati l j = 0) :
    Calls Try.prog 42 #[.slice ao l.length cap, .func (.func 31) #[] #[]] w fun e w' => e = .returned (.int .i64 (-1)) ∧ w' = w := by
  unfold maxLen at hm
  have HZ : Hid (∀ j, j < l.length → ati l j = 0) := hz
  clear hz
  go_enter Try.func42, Try.ntmps42
  go_wp2
  go_loop [8] (fun i => ∃ k : Nat, k ≤ l.length ∧ i = .int .i64 k) (fun i => l.length - (intOf i).toNat)
  case atStart => exact ⟨0, Nat.zero_le _, rfl⟩
  case round =>
    obtain ⟨k, hk, rfl⟩ := hrel
    by_cases hlt : k < l.length
    · obtain ⟨b, off, rfl, hb, c0⟩ := hA k hlt
      rw [HZ.out k hlt] at c0
      have hd : ((0 : Int) != 0) = false := rfl
      go_wp2_with (go_at_call 31; refine (notZero_any _ _).mono ?_; rintro e w1 ⟨rfl, hw⟩; rw [hw]; clear hw)
      go_round
      case rel => exact ⟨k + 1, by omega, by go_num⟩
      case measure => simp [intOf]; omega
    · go_wp2
      go_ret
      exact ⟨rfl, rfl⟩

set_option maxHeartbeats 400000 in
theorem noneLeft (ao : Option Addr) (cap : Nat) (l : List Int) (w : World) (hm : l.length ≤ maxLen) (hA : IntsAt w ao l) (hz : ∀ j, j < l.length → ati l j = 0) :
    Calls Try.prog 30 #[.slice ao l.length cap, .func (.func 31) #[] #[]] w fun e w' => e = .returned (.bool false) ∧ w' = w := by
  go_enter Try.func30, Try.ntmps30
  go_wp2_with fail
  refine (zeroIx ao cap l w hm hA hz).mono ?_
  rintro e w' ⟨rfl, hw⟩
  rw [hw]
  clear hw
  go_wp2
  go_ret
  exact ⟨rfl, rfl⟩

/-- all but what is left is as it was -/
structure KeepBut (ai : Option Addr) (U wr : World) : Prop where
  size : U.heap.size ≤ wr.heap.size
  blk : ∀ b, b < U.heap.size → (∀ g, ai = some ⟨g, 0, none⟩ → b ≠ g) → wr.heap[b]? = U.heap[b]?
theorem KeepBut.refl (ai : Option Addr) (U : World) : KeepBut ai U U := ⟨Nat.le_refl _, fun _ _ _ => rfl⟩
theorem KeepBut.then {ai : Option Addr} {U wr x : World} (h : KeepBut ai U wr) {B : Nat} (hb : Below B wr x) (hB : wr.heap.size ≤ B) : KeepBut ai U x :=
  ⟨Nat.le_trans h.size hb.size, fun b h1 h2 => (hb.block b (by have := h.size; omega)).trans (h.blk b h1 h2)⟩
theorem KeepBut.set {g : Nat} {U wr : World} (h : KeepBut (some ⟨g, 0, none⟩) U wr) (o : Nat) (v : Value) : KeepBut (some ⟨g, 0, none⟩) U (wr.setCell ⟨g, o, none⟩ v) :=
  ⟨by simpa [World.setCell] using h.size, fun b h1 h2 => (Go.Deep.blk_setCell_other _ _ _ _ (h2 g rfl)).trans (h.blk b h1 h2)⟩
theorem KeepBut.drewN {ai : Option Addr} {U wr : World} (h : KeepBut ai U wr) (q : Nat) : KeepBut ai U (wr.drewN q) := h.then (below_drewN (Below.refl wr.heap.size wr) q) (Nat.le_refl _)
theorem KeepBut.cell {ai : Option Addr} {U wr : World} (h : KeepBut ai U wr) {b o : Nat} {v : Value} (hc : U.cell? ⟨b, o, none⟩ = some v) (hb : b < U.heap.size) (hne : ∀ g, ai = some ⟨g, 0, none⟩ → b ≠ g) : wr.cell? ⟨b, o, none⟩ = some v :=
  (World.cell?_of_block (w := U) (a := ⟨b, o, none⟩) (h.blk b hb hne)).trans hc

theorem pieces_cat {w : World} {a3 a4 : Option Addr} {P Q : List PcV} (hP : PiecesAt w a3 P) (hQ : PiecesAt w a4 Q) : ∀ i, i < (P ++ Q).length → (atp (P ++ Q) i).At w := fun i hi => by
  by_cases c : i < P.length
  · obtain ⟨_, _, _, _, _, _, h⟩ := hP i c
    have e : atp (P ++ Q) i = atp P i := by rw [atp_lt _ _ hi, atp_lt _ _ c, List.getElem_append_left c]
    rw [e]; exact h
  · have hi2 : i - P.length < Q.length := by rw [List.length_append] at hi; omega
    obtain ⟨_, _, _, _, _, _, h⟩ := hQ (i - P.length) hi2
    have e : atp (P ++ Q) i = atp Q (i - P.length) := by rw [atp_lt _ _ hi, atp_lt _ _ hi2, List.getElem_append_right (by omega)]
    rw [e]; exact h

/-- what is left behind k pieces, and j arcs of the next -/
def leftV (L : Nat) (f : List Int) (P : List PcV) (k : Nat) : List Int := (List.range L).map fun x => ati f x - amtV P k x
def leftJ (L : Nat) (f : List Int) (P : List PcV) (k : Nat) (a : Int) (K : List Nat) (j : Nat) : List Int := (List.range L).map fun x => ati f x - amtV P k x - along a (K.take j) x
theorem leftV_len (L : Nat) (f : List Int) (P : List PcV) (k : Nat) : (leftV L f P k).length = L := by simp [leftV]
theorem leftJ_len (L : Nat) (f : List Int) (P : List PcV) (k : Nat) (a : Int) (K : List Nat) (j : Nat) : (leftJ L f P k a K j).length = L := by simp [leftJ]
theorem leftV_at {L : Nat} {f : List Int} {P : List PcV} {k x : Nat} (h : x < L) : ati (leftV L f P k) x = ati f x - amtV P k x := by simp [leftV, ati, h]
theorem leftJ_at {L : Nat} {f : List Int} {P : List PcV} {k : Nat} {a : Int} {K : List Nat} {j x : Nat} (h : x < L) : ati (leftJ L f P k a K j) x = ati f x - amtV P k x - along a (K.take j) x := by simp [leftJ, ati, h]
theorem leftJ_zero (L : Nat) (f : List Int) (P : List PcV) (k : Nat) (a : Int) (K : List Nat) : leftJ L f P k a K 0 = leftV L f P k := by simp [leftJ, leftV, along]
theorem leftJ_all {L : Nat} {f : List Int} {P : List PcV} {k : Nat} (hk : k < P.length) : leftJ L f P k (atp P k).a (atp P k).k (atp P k).k.length = leftV L f P (k + 1) := by
  unfold leftJ leftV
  refine List.map_congr_left fun x _ => ?_
  rw [List.take_length, amtV_succ P hk]
  omega
theorem leftV_zero {L : Nat} {f : List Int} {P : List PcV} (hf : f.length = L) : leftV L f P 0 = f := by
  refine List.ext_getElem (by rw [leftV_len, hf]) fun i h1 h2 => ?_
  rw [leftV_len] at h1
  rw [← ati_lt _ _ (by rw [leftV_len]; exact h1), ← ati_lt _ _ h2, leftV_at h1]
  simp [amtV, amtAt]

/-- each piece is a way, from the source to the sink or back to where it began -/
theorem piece_way {s t : Int} {l : List Arc3} {f : List Int} {W R : List PcV} (h : SplitIs s t l f (W.map PcV.pc) (R.map PcV.pc)) {k : Nat} (hk : k < (W ++ R).length) :
    (atp (W ++ R) k).k ≠ [] ∧ ∃ u v, Way l u (atp (W ++ R) k).k v ∧ (k < W.length → u = s ∧ v = t) ∧ (¬ k < W.length → u = v) := by
  by_cases c : k < W.length
  · have e : atp (W ++ R) k = atp W k := by rw [atp_lt _ _ hk, atp_lt _ _ c, List.getElem_append_left c]
    have hp := h.ways _ (atp_mem W c)
    rw [e]
    exact ⟨hp.some, s, t, hp.way, fun _ => ⟨rfl, rfl⟩, fun h => absurd c h⟩
  · have hi2 : k - W.length < R.length := by rw [List.length_append] at hk; omega
    have e : atp (W ++ R) k = atp R (k - W.length) := by rw [atp_lt _ _ hk, atp_lt _ _ hi2, List.getElem_append_right (by omega)]
    obtain ⟨u, hp⟩ := h.rounds _ (atp_mem R hi2)
    rw [e]
    exact ⟨hp.some, u, u, hp.way, fun h => absurd h c, fun _ => rfl⟩
theorem amtV_le_f {s t : Int} {l : List Arc3} {f : List Int} {W R : List PcV} (h : SplitIs s t l f (W.map PcV.pc) (R.map PcV.pc)) (i : Nat) {x : Nat} (hx : x < l.length) : amtV (W ++ R) i x ≤ ati f x := by
  have hs := h.sum x hx
  have hp := h.pos
  have e : ((W ++ R).take i).map PcV.pc ++ ((W ++ R).drop i).map PcV.pc = W.map PcV.pc ++ R.map PcV.pc := by rw [← List.map_append, List.take_append_drop, List.map_append]
  rw [← e] at hs hp
  rw [amt_append] at hs
  have p2 := amt_nonneg (P := ((W ++ R).drop i).map PcV.pc) (fun p hp' => hp p (List.mem_append_right _ hp')) x
  unfold amtV
  omega
theorem Way.head {l : List Arc3} {u v : Int} : ∀ {K : List Nat}, K ≠ [] → Way l u K v → (at3 l (K.getD 0 0)).1 = u
  | [], h, _ => absurd rfl h
  | k :: K, _, ⟨_, h2, _⟩ => h2

set_option maxHeartbeats 8000000 in
set_option maxRecDepth 100000 in
theorem pieces_any (N : Nat) (s t : Int) (ao af a3 a4 : Option Addr) (cap capf c3 c4 : Nat) (l : List Arc3) (f : List Int) (W R : List PcV) (w : World) (hG : GraphIn w ao cap l) (hF : IntsIn w af capf f) (hPW : PiecesAt w a3 W) (hPR : PiecesAt w a4 R)
    (hE : netErr N s t l = 0) (hFl : FlowIs N s t l f) (hSI : SplitIs s t l f (W.map PcV.pc) (R.map PcV.pc)) :
    Calls Try.prog 13 #[.agg #[.int .i64 (N : Int), .int .i64 s, .int .i64 t, .slice ao l.length cap], .slice af l.length capf, .int .i64 (gone l (ati f) s), .slice a3 W.length c3, .slice a4 R.length c4] w fun e w' => e = .returned (.bool true) ∧ Below w.heap.size w w' := by
  obtain ⟨hge, hs, ht, hst⟩ := net_ok hE
  obtain ⟨⟨hn1, hn2⟩, hl60, hall⟩ := err_ok hge
  have hfew := hSI.few
  rw [List.length_map, List.length_map] at hfew
  have hS := sum_ok hE hFl hSI (W ++ R).length
  rw [List.take_length] at hS
  have HS0 : Hid (SumOk l.length W.length (W ++ R)) := hS
  have HSI : Hid (SplitIs s t l f (W.map PcV.pc) (R.map PcV.pc)) := hSI
  have HFl : Hid (FlowIs N s t l f) := hFl
  have Hlf : Hid (f.length = l.length) := hFl.len
  have HAt : Hid (∀ i, i < (W ++ R).length → (atp (W ++ R) i).At w) := pieces_cat hPW hPR
  have HG : Hid (GraphIn w ao cap l) := hG
  have HV : Hid (totV (W ++ R) W.length = gone l (ati f) s) := by
    rw [Hid, totV, List.take_append_of_le_length (Nat.le_refl _), List.take_length]; exact hSI.val
  have HBd : Hid (∀ k, k < l.length → 0 ≤ ati f k ∧ ati f k ≤ 10000) := fun k hk => by
    have := hFl.bnd k hk
    have := (hall _ (at3_mem l k hk)).2.2
    omega
  have HSum : Hid (∀ k, k < l.length → amtV (W ++ R) (W ++ R).length k = ati f k) := fun k hk => by
    rw [amtV, List.take_length, List.map_append]; exact hSI.sum k hk
  obtain ⟨o1, o2⟩ := goneK_bound (l := l) (f := ati f) (v := s) (C := 10000) (by omega) l.length HBd.out
  have hgn : goneK l (ati f) s l.length = gone l (ati f) s := rfl
  rw [hgn] at o1 o2
  have x0 := blk_new w (.cells #[.int .i64 (N : Int), .int .i64 s, .int .i64 t, .slice ao l.length cap] 24)
  have hcl := cloneI_any af capf f (w.alloc (.cells #[.int .i64 (N : Int), .int .i64 s, .int .i64 t, .slice ao l.length cap] 24)) (hF.ints.alloc _) hF.nil (by rw [hFl.len]; exact hl60)
  rw [hFl.len] at hcl
  have hPW0 := hPW.alloc (.cells #[.int .i64 (N : Int), .int .i64 s, .int .i64 t, .slice ao l.length cap] 24)
  have hPR0 := hPR.alloc (.cells #[.int .i64 (N : Int), .int .i64 s, .int .i64 t, .slice ao l.length cap] 24)
  generalize gone l (ati f) s = V0 at *
  clear hge hall hS hFl hSI hE hgn hs ht hst
  go_enter Try.func13, Try.ntmps13
  go_wp2_with fail
  refine hcl.mono ?_
  clear hcl
  rintro e w1 ⟨hb1, ai, ci, rfl, hOI⟩
  simp only [World.size_alloc] at hb1 hOI
  have hz1 := hb1.size
  simp only [World.size_alloc] at hz1
  have x1 := blk_below hb1 x0 (by omega)
  have hPW1 := hPW0.below hb1 (by simp)
  have hPR1 := hPR0.below hb1 (by simp)
  have hbb1 := below_in hb1 (by omega)
  have z1 := blk_new w1 (.cells #[.slice a3 W.length c3, .slice a4 R.length c4] 29)
  obtain ⟨zc0, zc1, _, _⟩ := blk2 z1
  have hcat := concatP_any w1.heap.size a3 a4 c3 c4 W R _ (by simp) zc0 zc1 (hPW1.alloc _) (hPR1.alloc _) (by omega)
  have Hgl : Hid (∀ g, ai = some ⟨g, 0, none⟩ → w.heap.size + 1 ≤ g ∧ g < w1.heap.size) := fun g e => by
    rcases hOI with ⟨h, _⟩ | ⟨g', h, hB, _, hO⟩
    · rw [h] at e; cases e
    · rw [h] at e; cases e; exact ⟨hB, hO.lt⟩
  clear hPW0 hPR0 hb1 x0
  go_wp2_with fail
  refine hcat.mono ?_
  clear hcat z1 zc0 zc1
  rintro e U ⟨hb2, a5, c5, rfl, hP5, hc5, hm5, hfr5⟩
  simp only [World.size_alloc] at hb2 hfr5
  have hz2 := hb2.size
  simp only [World.size_alloc] at hz2
  have HX : Hid (U.heap[w.heap.size]? = some (.cells #[.int .i64 (N : Int), .int .i64 s, .int .i64 t, .slice ao l.length cap] 24 (0, 0))) := blk_below hb2 (blk_old x1 _) (by omega)
  have HOI : Hid (OwnIs U (w.heap.size + 1) ai ci f) := (hOI.alloc _).below hb2 (by simp)
  have HbU : Hid (Below w.heap.size w U) := (hbb1.alloc (by omega) _).trans (hb2.mono (by omega))
  have HP5 : Hid (PiecesAt U a5 (W ++ R)) := hP5
  have Hfr5 : Hid (∀ b off, a5 = some ⟨b, off, none⟩ → w1.heap.size + 1 ≤ b) := hfr5
  have hwU : w.heap.size < U.heap.size := by omega
  obtain ⟨mw, hmw⟩ : ∃ m, W.length = m := ⟨_, rfl⟩
  obtain ⟨mr, hmr⟩ : ∃ m, R.length = m := ⟨_, rfl⟩
  rw [hmw] at HS0 HV hc5 hfew ⊢
  rw [hmr] at hc5 hfew ⊢
  have HPl : Hid ((W ++ R).length = mw + mr) := by rw [Hid, List.length_append, hmw, hmr]
  have Hmw : Hid (W.length = mw) := hmw
  unfold maxLen at hm5
  obtain ⟨P, hP⟩ : ∃ P, W ++ R = P := ⟨_, rfl⟩
  rw [hP] at HS0 HAt HV HSum HP5 HPl
  have HP : Hid (W ++ R = P) := hP
  clear hbb1 hb2 x1 hOI hP5 hfr5 hPW1 hPR1 hmw hmr hP
  go_wp2
  go_loopw [2, 27] (fun v i wr => ∃ k : Nat, k ≤ mw + mr ∧ i = .int .i64 k ∧ v = .int .i64 (V0 - totV P (min k mw)) ∧ OwnIs wr (w.heap.size + 1) ai ci (leftV l.length f P k) ∧ KeepBut ai U wr ∧ Below w.heap.size w wr) (fun _ i _ => mw + mr - (intOf i).toNat)
  case atStart => exact ⟨0, Nat.zero_le _, rfl, by simp [totV, total], by rw [leftV_zero Hlf.out]; exact HOI.out, KeepBut.refl _ _, HbU.out⟩
  case round =>
    obtain ⟨k, hk, rfl, rfl, hO, hKp, hB⟩ := hrel
    have hz := hKp.size
    have xr := (hKp.blk _ hwU (fun g e => by have := (Hgl.out g e).1; omega)).trans HX.out
    obtain ⟨r0, r1, r2, r3⟩ := blk4 xr
    by_cases hlt : k < mw + mr
    · have hlP : k < P.length := by rw [HPl.out]; exact hlt
      have hL0 : 0 < l.length := by omega
      obtain ⟨b5, o5, e5, hb5, c0, c1, _⟩ := HP5.out k hlP
      subst e5
      have hb5g : ∀ g, ai = some ⟨g, 0, none⟩ → b5 ≠ g := fun g e => by have := (Hgl.out g e).2; have := Hfr5.out b5 o5 rfl; omega
      have c0 := hKp.cell c0 hb5 hb5g
      have c1 := hKp.cell c1 hb5 hb5g
      have hb5' : b5 < wr.heap.size := by omega
      have hAt := HAt.out k hlP
      have h1 := HS0.out.once k hlP
      have h2 := HS0.out.lt k hlP
      obtain ⟨h3, h4⟩ := HS0.out.pos k hlP
      obtain ⟨t1, t2⟩ := HS0.out.tot k (by omega)
      obtain ⟨t3, t4⟩ := HS0.out.tot (k + 1) (by omega)
      have hne : (atp P k).k ≠ [] ∧ ∃ u v, Way l u (atp P k).k v ∧ (k < mw → u = s ∧ v = t) ∧ (¬ k < mw → u = v) := by
        have := piece_way HSI.out (k := k) (by rw [HP.out]; exact hlP)
        rwa [HP.out, Hmw.out] at this
      obtain ⟨hK0, u, v, hway, hu1, hu2⟩ := hne
      have HJ : Hid (leftJ l.length f P k (atp P k).a (atp P k).k (atp P k).k.length = leftV l.length f P (k + 1)) := leftJ_all hlP
      have HJ0 : Hid (leftJ l.length f P k (atp P k).a (atp P k).k 0 = leftV l.length f P k) := leftJ_zero _ _ _ _ _ _
      have HT : Hid (totV P (min (k + 1) mw) = if k < mw then totV P (min k mw) + (atp P k).a else totV P (min k mw)) := by
        by_cases c : k < mw
        · rw [Hid, if_pos c, show min (k + 1) mw = k + 1 by omega, show min k mw = k by omega, totV_succ P hlP]
        · rw [Hid, if_neg c, show min (k + 1) mw = mw by omega, show min k mw = mw by omega]
      have HAm : Hid (∀ x, x < l.length → 0 ≤ amtV P k x ∧ amtV P (k + 1) x ≤ ati f x ∧ amtV P (k + 1) x = amtV P k x + along (atp P k).a (atp P k).k x) := fun x hx => by
        have := amtV_le_f HSI.out (k + 1) hx
        rw [HP.out] at this
        exact ⟨(HS0.out.amt k (by omega) x hx).1, this, amtV_succ P hlP x⟩
      have Hone : Hid ((atp P k).k.Nodup) := h1
      have Hlt : Hid (∀ j ∈ (atp P k).k, j < l.length) := h2
      have hpin := hAt.ints
      have hple := hAt.le
      have hpmx := hAt.max
      obtain ⟨a, ha⟩ : ∃ a, (atp P k).a = a := ⟨_, rfl⟩
      obtain ⟨K, hK⟩ : ∃ K, (atp P k).k = K := ⟨_, rfl⟩
      obtain ⟨pa, hpa⟩ : ∃ pa, (atp P k).ao = pa := ⟨_, rfl⟩
      obtain ⟨pc, hpc⟩ : ∃ pc, (atp P k).cap = pc := ⟨_, rfl⟩
      obtain ⟨X, hX⟩ : ∃ X, totV P (min k mw) = X := ⟨_, rfl⟩
      rw [ha, hK] at HJ HJ0 HAm
      rw [hX, ha] at HT
      rw [hX] at t1 t2
      rw [ha] at c0 h3 h4
      rw [hpa, hK, hpc] at c1
      rw [hK, hpc] at hple
      rw [hpc] at hpmx
      rw [hK] at Hone Hlt hK0 hway
      rw [hpa, hK] at hpin
      rw [hX]
      unfold maxLen at hpmx
      have hKl : 0 < K.length := List.length_pos_iff.2 hK0
      have hK60 : K.length ≤ 60 := by
        have := nodup_len Hone.out Hlt.out
        omega
      obtain ⟨pb, po, e, hpb, d0⟩ := hpin 0 (by rw [numP_len]; exact hKl)
      subst e
      rw [numP_at hKl, Nat.add_zero] at d0
      have hhead := hway.head hK0
      have hk0 := Hlt.out (K.getD 0 0) (by simp [hKl])
      generalize K.getD 0 0 = k0 at *
      obtain ⟨ba, oa, e, hba, q0, q1, q2⟩ := HG.out.arcs k0 hk0
      subst e
      generalize (at3 l k0).1 = p0 at *
      have d0 := later hB d0 hpb
      have q0 := later hB q0 hba
      obtain ⟨g, eg, hgB, _, _, _, _⟩ := hO.at (i := 0) (by rw [leftV_len]; exact hL0)
      subst eg
      have HO : Hid (OwnIs wr (w.heap.size + 1) (some ⟨g, 0, none⟩) ci (leftV l.length f P k)) := hO
      have HKp : Hid (KeepBut (some ⟨g, 0, none⟩) U wr) := hKp
      have HB : Hid (Below w.heap.size w wr) := hB
      have Hin : Hid (IntsAt w (some ⟨pb, po, none⟩) (numP K)) := hpin
      have hw1 : w.heap.size < wr.heap.size := by omega
      have hpb' : pb < wr.heap.size := by omega
      have hba' : ba < wr.heap.size := by omega
      have e1 : decide (0 < (K.length : Int)) = true := decide_eq_true (by omega)
      have e2 : decide (0 ≤ (k0 : Int)) = true := decide_eq_true (by omega)
      have e3 : decide ((k0 : Int) < (l.length : Int)) = true := decide_eq_true (by omega)
      have e4 : decide (a < 1) = false := decide_eq_false (by omega)
      have e5 : ((K.length : Int) == 0) = false := by simp; omega
      have e6 : ((K.length : Int) != (K.length : Int)) = false := by simp
      have hk0I : (k0 : Int) < (l.length : Int) := by omega
      obtain ⟨V, hV⟩ : ∃ V, V = wr := ⟨_, rfl⟩
      subst hV
      have Hcl : Hid (∀ q, Calls Try.prog 17 #[.slice (some ⟨pb, po, none⟩) K.length pc] ((V.alloc (.cells #[.int .i64 a, .slice (some ⟨pb, po, none⟩) K.length pc] 48)).drewN q) fun e w' => Below (V.heap.size + 1) (V.alloc (.cells #[.int .i64 a, .slice (some ⟨pb, po, none⟩) K.length pc] 48)) w' ∧ ∃ ax cx, e = .returned (.slice ax K.length cx) ∧ w'.ownsRow (V.heap.size + 1) 3 1 (.slice ax K.length cx) K.length (flati (numP K))) := fun q => by
        have hb0 : Below (V.heap.size + 1) (V.alloc (.cells #[.int .i64 a, .slice (some ⟨pb, po, none⟩) K.length pc] 48)) ((V.alloc (.cells #[.int .i64 a, .slice (some ⟨pb, po, none⟩) K.length pc] 48)).drewN q) := below_drewN (Below.refl _ _) q
        have hs0 := hb0.size
        have := cloneI_own ⟨pb, po, none⟩ pc (numP K) ((V.alloc (.cells #[.int .i64 a, .slice (some ⟨pb, po, none⟩) K.length pc] 48)).drewN q) (((Hin.out.below HB.out (Nat.le_refl _)).alloc _).drewN q) (by rw [numP_len]; exact hK60)
        rw [numP_len] at this
        refine this.mono fun e w' ⟨hb, v, he, hown⟩ => ?_
        have hsz : ((V.alloc (.cells #[.int .i64 a, .slice (some ⟨pb, po, none⟩) K.length pc] 48)).drewN q).heap.size = V.heap.size + 1 := by rw [drewN_size]; simp
        rw [hsz] at hb hown
        obtain ⟨ax, cx, rfl⟩ := owns_form hown
        exact ⟨hb0.trans hb, ax, cx, he, hown⟩
      clear h1 h2 hAt hpin hple hX ha hK hpa hpc hO hKp hB q1 q2 hK0 xr
      by_cases hkw : k < mw
      · have hway' := hway
        rw [(hu1 hkw).1, (hu1 hkw).2] at hway'
        have Hway : Hid (Way l s K t) := hway'
        have HT1 : Hid (totV P (min (k + 1) mw) = X + a) := by rw [Hid, HT.out, if_pos hkw]
        have hkwI : (k : Int) < (mw : Int) := by omega
        clear hway hway' hu1 hu2 hhead HT
        go_wp2
        go_quiet (fail)
        go_wp2
        go_quiet (fail)
        go_wp2
        go_quiet (fail)
        go_wp2_with fail
        refine (Hcl.out _).mono ?_
        clear Hcl
        rintro e w3 ⟨hb3, ax, cx, rfl, hown3⟩
        have hz3 := hb3.size
        simp only [World.size_alloc] at hz3
        have hst := sortInts (V.heap.size + 1) (.slice ax K.length cx) (numP K) w3 (by rw [numP_len]; exact hown3) hz3 (by rw [numP_len]; exact hK60)
        clear hown3
        go_wp2_with fail
        refine hst.mono ?_
        clear hst
        rintro e w4 ⟨rfl, hb4, hown4⟩
        rw [sorted_length, numP_len] at hown4
        have hbV4 := hb3.trans hb4
        have hz4 := hbV4.size
        simp only [World.size_alloc] at hz4
        have y4 := blk_below hbV4 (blk_new V (.cells #[.int .i64 a, .slice (some ⟨pb, po, none⟩) K.length pc] 48)) (by omega)
        have HSx : Hid (∀ x : World, Below (V.heap.size + 1) (V.alloc (.cells #[.int .i64 a, .slice (some ⟨pb, po, none⟩) K.length pc] 48)) x → Below (V.heap.size + 1) (V.alloc (.cells #[.int .i64 a, .slice (some ⟨pb, po, none⟩) K.length pc] 48)) x ∧ x.cell? ⟨V.heap.size, 0, none⟩ = some (.int .i64 a) ∧ x.cell? ⟨V.heap.size, 1, none⟩ = some (.slice (some ⟨pb, po, none⟩) K.length pc) ∧ x.cell? ⟨w.heap.size, 3, none⟩ = some (.slice (some ⟨ba, oa, none⟩) l.length cap)) := fun x h => by
          obtain ⟨u0, u1, _, _⟩ := blk2 (blk_below h (blk_new V (.cells #[.int .i64 a, .slice (some ⟨pb, po, none⟩) K.length pc] 48)) (by omega))
          exact ⟨h, u0, u1, later h ((World.cell?_alloc_past _ _ _ hw1).trans r3) (by omega)⟩
        have HWay : Hid (∀ x : World, Below (V.heap.size + 1) (V.alloc (.cells #[.int .i64 a, .slice (some ⟨pb, po, none⟩) K.length pc] 48)) x → Calls Try.prog 28 #[.slice (some ⟨ba, oa, none⟩) l.length cap, .slice (some ⟨pb, po, none⟩) K.length pc, .int .i64 s, .int .i64 t] x fun e w' => e = .returned (.bool true) ∧ w' = x) := fun x h => by
          have hwx : Below w.heap.size w x := (HB.out.alloc (by omega) _).trans (h.mono (by omega))
          have := IsWay_yes (some ⟨ba, oa, none⟩) (some ⟨pb, po, none⟩) cap pc l (numP K) s t x (by unfold maxLen; omega) (by rw [numP_len]; unfold maxLen; omega) (HG.out.arcs.below hwx (Nat.le_refl _)) (Hin.out.below hwx (Nat.le_refl _)) (way_chain Hway.out)
          rwa [numP_len] at this
        have HCmp : Hid (Calls Try.prog 29 #[.slice ax K.length cx] w4.drew fun e w' => ∃ a' c', e = .returned (.slice a' K.length c') ∧ Below (V.heap.size + 1) w4.drew w') := by
          have := compactInts (V.heap.size + 1) (.slice ax K.length cx) (sorted (numP K)) w4.drew (by rw [sorted_length, numP_len]; exact hown4) hz4 (by rw [sorted_length, numP_len]; exact hKl) (by rw [sorted_length, numP_len]; exact hK60)
          rw [compact_num Hone.out] at this
          exact this
        clear hb3 hb4 hown4 y4 r0 r1 r2 r3 c0 c1 d0 q0
        go_wp2_with fail
        go_region_held3 (fun x => Below (V.heap.size + 1) (V.alloc (.cells #[.int .i64 a, .slice (some ⟨pb, po, none⟩) K.length pc] 48)) x ∧ x.cell? ⟨V.heap.size, 0, none⟩ = some (.int .i64 a) ∧ x.cell? ⟨V.heap.size, 1, none⟩ = some (.slice (some ⟨pb, po, none⟩) K.length pc) ∧ x.cell? ⟨w.heap.size, 3, none⟩ = some (.slice (some ⟨ba, oa, none⟩) l.length cap))
          (first
            | exact HSx.out _ (Below.drew hbV4)
            | assumption)
          (first
            | (go_at_call 28; refine Calls.mono (HWay.out _ (And.left (by assumption))) ?_; rintro e w' ⟨rfl, rfl⟩)
            | (go_at_call 29; refine Calls.mono HCmp.out ?_; rintro e w5 ⟨a', c', rfl, hb5x⟩; have hs5 := HSx.out w5 (Below.trans (Below.drew hbV4) hb5x); clear hb5x))
        all_goals
          have hbV5 := hs5.1
          obtain ⟨_, u0, u1, _⟩ := hs5
          have hz5 := hbV5.size
          simp only [World.size_alloc] at hz5
          have hV5 : V.heap.size < w5.heap.size := by omega
          have HO5 : Hid (OwnIs w5 (w.heap.size + 1) (some ⟨g, 0, none⟩) ci (leftV l.length f P k)) := (HO.out.alloc _).below hbV5 (by simp)
          have HK5 : Hid (KeepBut (some ⟨g, 0, none⟩) U w5) := (HKp.out.then (below_one V _) (Nat.le_refl _)).then hbV5 (by simp)
          have HB5 : Hid (Below w.heap.size w w5) := (HB.out.alloc (by omega) _).trans (hbV5.mono (by omega))
          clear HCmp HWay HSx hbV4 hbV5 HO HKp
          go_wp2
          go_loopw [108] (fun i wq => ∃ j : Nat, j ≤ K.length ∧ i = .int .i64 j ∧ OwnIs wq (w.heap.size + 1) (some ⟨g, 0, none⟩) ci (leftJ l.length f P k a K j) ∧ KeepBut (some ⟨g, 0, none⟩) U wq ∧ wq.cell? ⟨V.heap.size, 0, none⟩ = some (.int .i64 a) ∧ V.heap.size < wq.heap.size ∧ Below w.heap.size w wq) (fun i _ => K.length - (intOf i).toNat)
          case atStart => exact ⟨0, Nat.zero_le _, rfl, by rw [HJ0.out]; exact HO5.out, HK5.out, u0, hV5, HB5.out⟩
          case round =>
            obtain ⟨j, hj, rfl, hO, hKq, hca, hVl, hBq⟩ := hrel
            by_cases hjl : j < K.length
            · obtain ⟨_, _, ep, _, d1⟩ := Hin.out j (by rw [numP_len]; exact hjl)
              cases ep
              rw [numP_at hjl] at d1
              have hlL := Hlt.out (K.getD j 0) (by simp [hjl])
              have hal := fun x => along_snoc (a := a) Hone.out hjl x
              generalize K.getD j 0 = m at *
              have d1 := later hBq d1 hpb
              obtain ⟨g', eg, _, hgl, hgc, o1, o2⟩ := hO.at (i := m) (by rw [leftJ_len]; exact hlL)
              cases eg
              rw [leftJ_len] at hgc
              rw [leftJ_at hlL] at o1
              obtain ⟨am1, am2, am3⟩ := HAm.out m hlL
              obtain ⟨bd1, bd2⟩ := HBd.out m hlL
              have al := along_le (a := a) (by omega) K j m
              have HN : Hid (∀ x, x < (leftJ l.length f P k a K j).length → ati (leftJ l.length f P k a K (j + 1)) x = if x = m then ati f m - amtV P k m - along a (K.take j) m - a else ati (leftJ l.length f P k a K j) x) := fun x hx => by
                rw [leftJ_len] at hx
                rw [leftJ_at hx, leftJ_at hx, hal x]
                by_cases e : x = m
                · subst e; rw [if_pos rfl, if_pos rfl]; omega
                · rw [if_neg e, if_neg e]; omega
              have hy : 0 ≤ ati f m - amtV P k m - along a (K.take j) m ∧ ati f m - amtV P k m - along a (K.take j) m ≤ 10000 := by omega
              generalize ati f m - amtV P k m - along a (K.take j) m = y at *
              have v1 : IntKind.i64.wrap (y - a) = y - a := by rw [IntKind.wrap_i64]; omega
              have hpbq : pb < wr.heap.size := by have := hBq.size; omega
              have HO2 : Hid (OwnIs wr (w.heap.size + 1) (some ⟨g, 0, none⟩) ci (leftJ l.length f P k a K j)) := hO
              have HKq : Hid (KeepBut (some ⟨g, 0, none⟩) U wr) := hKq
              have HBq : Hid (Below w.heap.size w wr) := hBq
              have hmI : (m : Int) < (l.length : Int) := by omega
              clear hO hKq hBq hal al am1 am2 am3 bd1 bd2 u0 u1 HO5 HK5 HB5
              go_wp2
              go_region
              go_wp2
              go_roundw
              case rel =>
                refine ⟨j + 1, by omega, by go_num, (HO2.out.set (by rw [leftJ_len, leftJ_len]) HN.out).drewN 1, (HKq.out.set m _).drewN 1, ?_, ?_, (HBq.out.setCell (by simp; omega) _).drew⟩
                · exact (World.cell?_of_block (w := wr) (a := ⟨V.heap.size, 0, none⟩) (Below.heap_setCell wr _ _ V.heap.size (by simp; omega))).trans hca
                · simpa [World.setCell] using hVl
              case measure => simp [intOf]; omega
            · have hjK : K.length = j := by omega
              subst hjK
              rw [HJ.out] at hO
              have HO3 : Hid (OwnIs wr (w.heap.size + 1) (some ⟨g, 0, none⟩) ci (leftV l.length f P (k + 1))) := hO
              have HK3 : Hid (KeepBut (some ⟨g, 0, none⟩) U wr) := hKq
              have v9 : IntKind.i64.wrap (V0 - X - a) = V0 - X - a := by rw [IntKind.wrap_i64]; omega
              clear hO hKq u0 u1 HO5 HK5 HB5
              go_wp2
              go_roundw
              case rel => exact ⟨k + 1, by omega, by go_num, by rw [HT1.out]; exact congrArg (Value.int .i64) (by omega), HO3.out, HK3.out, hBq⟩
              case measure => simp [intOf]; omega
      · have hway' := hway
        rw [← hu2 hkw, ← hhead] at hway'
        have Hway : Hid (Way l p0 K p0) := hway'
        have HT1 : Hid (totV P (min (k + 1) mw) = X) := by rw [Hid, HT.out, if_neg hkw]
        have hkwI : (mw : Int) ≤ (k : Int) := by omega
        clear hway hway' hu1 hu2 hhead HT
        go_wp2
        go_quiet (fail)
        go_wp2
        go_quiet (fail)
        go_wp2
        go_quiet (fail)
        go_wp2_with fail
        refine (Hcl.out _).mono ?_
        clear Hcl
        rintro e w3 ⟨hb3, ax, cx, rfl, hown3⟩
        have hz3 := hb3.size
        simp only [World.size_alloc] at hz3
        have hst := sortInts (V.heap.size + 1) (.slice ax K.length cx) (numP K) w3 (by rw [numP_len]; exact hown3) hz3 (by rw [numP_len]; exact hK60)
        clear hown3
        go_wp2_with fail
        refine hst.mono ?_
        clear hst
        rintro e w4 ⟨rfl, hb4, hown4⟩
        rw [sorted_length, numP_len] at hown4
        have hbV4 := hb3.trans hb4
        have hz4 := hbV4.size
        simp only [World.size_alloc] at hz4
        have y4 := blk_below hbV4 (blk_new V (.cells #[.int .i64 a, .slice (some ⟨pb, po, none⟩) K.length pc] 48)) (by omega)
        have HSx : Hid (∀ x : World, Below (V.heap.size + 1) (V.alloc (.cells #[.int .i64 a, .slice (some ⟨pb, po, none⟩) K.length pc] 48)) x → Below (V.heap.size + 1) (V.alloc (.cells #[.int .i64 a, .slice (some ⟨pb, po, none⟩) K.length pc] 48)) x ∧ x.cell? ⟨V.heap.size, 0, none⟩ = some (.int .i64 a) ∧ x.cell? ⟨V.heap.size, 1, none⟩ = some (.slice (some ⟨pb, po, none⟩) K.length pc) ∧ x.cell? ⟨w.heap.size, 3, none⟩ = some (.slice (some ⟨ba, oa, none⟩) l.length cap)) := fun x h => by
          obtain ⟨u0, u1, _, _⟩ := blk2 (blk_below h (blk_new V (.cells #[.int .i64 a, .slice (some ⟨pb, po, none⟩) K.length pc] 48)) (by omega))
          exact ⟨h, u0, u1, later h ((World.cell?_alloc_past _ _ _ hw1).trans r3) (by omega)⟩
        have HWay : Hid (∀ x : World, Below (V.heap.size + 1) (V.alloc (.cells #[.int .i64 a, .slice (some ⟨pb, po, none⟩) K.length pc] 48)) x → Calls Try.prog 28 #[.slice (some ⟨ba, oa, none⟩) l.length cap, .slice (some ⟨pb, po, none⟩) K.length pc, .int .i64 p0, .int .i64 p0] x fun e w' => e = .returned (.bool true) ∧ w' = x) := fun x h => by
          have hwx : Below w.heap.size w x := (HB.out.alloc (by omega) _).trans (h.mono (by omega))
          have := IsWay_yes (some ⟨ba, oa, none⟩) (some ⟨pb, po, none⟩) cap pc l (numP K) p0 p0 x (by unfold maxLen; omega) (by rw [numP_len]; unfold maxLen; omega) (HG.out.arcs.below hwx (Nat.le_refl _)) (Hin.out.below hwx (Nat.le_refl _)) (way_chain Hway.out)
          rwa [numP_len] at this
        have HCmp : Hid (Calls Try.prog 29 #[.slice ax K.length cx] w4.drew fun e w' => ∃ a' c', e = .returned (.slice a' K.length c') ∧ Below (V.heap.size + 1) w4.drew w') := by
          have := compactInts (V.heap.size + 1) (.slice ax K.length cx) (sorted (numP K)) w4.drew (by rw [sorted_length, numP_len]; exact hown4) hz4 (by rw [sorted_length, numP_len]; exact hKl) (by rw [sorted_length, numP_len]; exact hK60)
          rw [compact_num Hone.out] at this
          exact this
        clear hb3 hb4 hown4 y4 r0 r1 r2 r3 c0 c1 d0 q0
        go_wp2_with fail
        go_region_held3 (fun x => Below (V.heap.size + 1) (V.alloc (.cells #[.int .i64 a, .slice (some ⟨pb, po, none⟩) K.length pc] 48)) x ∧ x.cell? ⟨V.heap.size, 0, none⟩ = some (.int .i64 a) ∧ x.cell? ⟨V.heap.size, 1, none⟩ = some (.slice (some ⟨pb, po, none⟩) K.length pc) ∧ x.cell? ⟨w.heap.size, 3, none⟩ = some (.slice (some ⟨ba, oa, none⟩) l.length cap))
          (first
            | exact HSx.out _ (Below.drew hbV4)
            | assumption)
          (first
            | (go_at_call 28; refine Calls.mono (HWay.out _ (And.left (by assumption))) ?_; rintro e w' ⟨rfl, rfl⟩)
            | (go_at_call 29; refine Calls.mono HCmp.out ?_; rintro e w5 ⟨a', c', rfl, hb5x⟩; have hs5 := HSx.out w5 (Below.trans (Below.drew hbV4) hb5x); clear hb5x))
        all_goals
          have hbV5 := hs5.1
          obtain ⟨_, u0, u1, _⟩ := hs5
          have hz5 := hbV5.size
          simp only [World.size_alloc] at hz5
          have hV5 : V.heap.size < w5.heap.size := by omega
          have HO5 : Hid (OwnIs w5 (w.heap.size + 1) (some ⟨g, 0, none⟩) ci (leftV l.length f P k)) := (HO.out.alloc _).below hbV5 (by simp)
          have HK5 : Hid (KeepBut (some ⟨g, 0, none⟩) U w5) := (HKp.out.then (below_one V _) (Nat.le_refl _)).then hbV5 (by simp)
          have HB5 : Hid (Below w.heap.size w w5) := (HB.out.alloc (by omega) _).trans (hbV5.mono (by omega))
          clear HCmp HWay HSx hbV4 hbV5 HO HKp
          go_wp2
          go_loopw [108] (fun i wq => ∃ j : Nat, j ≤ K.length ∧ i = .int .i64 j ∧ OwnIs wq (w.heap.size + 1) (some ⟨g, 0, none⟩) ci (leftJ l.length f P k a K j) ∧ KeepBut (some ⟨g, 0, none⟩) U wq ∧ wq.cell? ⟨V.heap.size, 0, none⟩ = some (.int .i64 a) ∧ V.heap.size < wq.heap.size ∧ Below w.heap.size w wq) (fun i _ => K.length - (intOf i).toNat)
          case atStart => exact ⟨0, Nat.zero_le _, rfl, by rw [HJ0.out]; exact HO5.out, HK5.out, u0, hV5, HB5.out⟩
          case round =>
            obtain ⟨j, hj, rfl, hO, hKq, hca, hVl, hBq⟩ := hrel
            by_cases hjl : j < K.length
            · obtain ⟨_, _, ep, _, d1⟩ := Hin.out j (by rw [numP_len]; exact hjl)
              cases ep
              rw [numP_at hjl] at d1
              have hlL := Hlt.out (K.getD j 0) (by simp [hjl])
              have hal := fun x => along_snoc (a := a) Hone.out hjl x
              generalize K.getD j 0 = m at *
              have d1 := later hBq d1 hpb
              obtain ⟨g', eg, _, hgl, hgc, o1, o2⟩ := hO.at (i := m) (by rw [leftJ_len]; exact hlL)
              cases eg
              rw [leftJ_len] at hgc
              rw [leftJ_at hlL] at o1
              obtain ⟨am1, am2, am3⟩ := HAm.out m hlL
              obtain ⟨bd1, bd2⟩ := HBd.out m hlL
              have al := along_le (a := a) (by omega) K j m
              have HN : Hid (∀ x, x < (leftJ l.length f P k a K j).length → ati (leftJ l.length f P k a K (j + 1)) x = if x = m then ati f m - amtV P k m - along a (K.take j) m - a else ati (leftJ l.length f P k a K j) x) := fun x hx => by
                rw [leftJ_len] at hx
                rw [leftJ_at hx, leftJ_at hx, hal x]
                by_cases e : x = m
                · subst e; rw [if_pos rfl, if_pos rfl]; omega
                · rw [if_neg e, if_neg e]; omega
              have hy : 0 ≤ ati f m - amtV P k m - along a (K.take j) m ∧ ati f m - amtV P k m - along a (K.take j) m ≤ 10000 := by omega
              generalize ati f m - amtV P k m - along a (K.take j) m = y at *
              have v1 : IntKind.i64.wrap (y - a) = y - a := by rw [IntKind.wrap_i64]; omega
              have hpbq : pb < wr.heap.size := by have := hBq.size; omega
              have HO2 : Hid (OwnIs wr (w.heap.size + 1) (some ⟨g, 0, none⟩) ci (leftJ l.length f P k a K j)) := hO
              have HKq : Hid (KeepBut (some ⟨g, 0, none⟩) U wr) := hKq
              have HBq : Hid (Below w.heap.size w wr) := hBq
              have hmI : (m : Int) < (l.length : Int) := by omega
              clear hO hKq hBq hal al am1 am2 am3 bd1 bd2 u0 u1 HO5 HK5 HB5
              go_wp2
              go_region
              go_wp2
              go_roundw
              case rel =>
                refine ⟨j + 1, by omega, by go_num, (HO2.out.set (by rw [leftJ_len, leftJ_len]) HN.out).drewN 1, (HKq.out.set m _).drewN 1, ?_, ?_, (HBq.out.setCell (by simp; omega) _).drew⟩
                · exact (World.cell?_of_block (w := wr) (a := ⟨V.heap.size, 0, none⟩) (Below.heap_setCell wr _ _ V.heap.size (by simp; omega))).trans hca
                · simpa [World.setCell] using hVl
              case measure => simp [intOf]; omega
            · have hjK : K.length = j := by omega
              subst hjK
              rw [HJ.out] at hO
              have HO3 : Hid (OwnIs wr (w.heap.size + 1) (some ⟨g, 0, none⟩) ci (leftV l.length f P (k + 1))) := hO
              have HK3 : Hid (KeepBut (some ⟨g, 0, none⟩) U wr) := hKq
              clear hO hKq u0 u1 HO5 HK5 HB5
              go_wp2
              go_roundw
              case rel => exact ⟨k + 1, by omega, by go_num, by rw [HT1.out], HO3.out, HK3.out, hBq⟩
              case measure => simp [intOf]; omega
    · have hkM : mw + mr = k := by omega
      subst hkM
      have e0 : V0 - totV P (min (mw + mr) mw) = 0 := by rw [show min (mw + mr) mw = mw by omega, HV.out]; omega
      rw [e0]
      have hze : ∀ j, j < (leftV l.length f P (mw + mr)).length → ati (leftV l.length f P (mw + mr)) j = 0 := fun j hj => by
        rw [leftV_len] at hj
        rw [leftV_at hj, ← HPl.out, HSum.out j hj]; omega
      have hI := hO.arg
      have hq := noneLeft ai ci (leftV l.length f P (mw + mr)) wr (by rw [leftV_len]; unfold maxLen; omega) hI.ints hze
      rw [leftV_len] at hq
      have g01 : ((0 : Int) == 0) = true := rfl
      have hfl : ((mw + mr : Nat) : Int) ≤ (l.length : Int) := by omega
      have hwr : w.heap.size < wr.heap.size := by omega
      clear hze hI hO e0 hKp xr
      go_wp2_with fail
      refine hq.mono ?_
      clear hq
      rintro e w' ⟨rfl, hw⟩
      rw [hw]
      clear hw
      go_wp2
      go_ret
      exact ⟨rfl, hB⟩

end Go.Proofs.Ytpomdnjfogfnbaa
