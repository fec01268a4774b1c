/- Contract of the document's own SidesOf. -/
import Derived.Test.YtbnagipapgonpaaSMath
import Derived.Test.YtbnagipapgonpaaJoined
import Derived.Deep.RegionLaw
import Derived.Deep.Slices
namespace Go.Proofs.Ytbnagipapgonpaa
open Go.RowKit
set_option linter.unusedVariables false

theorem step_append_own {P : Program} {ops : Array Oper} {o : Oper} {a : Act} {w : World} {K : Act → World → Prop} {Q : Exit → Act → World → Prop} {E : Prop} (hgd : o.guard = none) (s x : Operand) (t : TypeId)
    (ho : o.op = .call { callee := .builtin .append, args := #[s, x], argTypes := #[t, t] })
    (base : Nat) (e : TypeId) (i : TypeInfo) (z : Value) (size bytes : Nat) (ht : P.underlying t = some (.slice e)) (hi : P.info? e = some i) (hz : i.zero = some z)
    (hsize : i.size = size) (hby : i.bytes = bytes) (hzs : z.cells.size = size) (hsz : 0 < size)
    (v : Value) (n : Nat) (xs : List Value) (hs : a.eval s = v) (hown : w.ownsRow base e size v n xs)
    (ad : Addr) (m c : Nat) (news : List Value) (hx : a.eval x = .slice (some ad) m c) (hl : news.length = m * size) (hnews : ∀ j u, news[j]? = some u → w.cell? (ad.add j) = some u) (h1 : ∀ u ∈ news, u.oneCell' = true)
    (h63 : n + m ≤ maxLen) (hbytes : (n + m) * bytes ≤ 140737488355328) (hbase : base ≤ w.heap.size)
    (h : ∀ v' w', w'.ownsRow base e size v' (n + m) (xs ++ news) → w.grownBy w' v.ownBlock → (v' = .slice none 0 0 ↔ v = .slice none 0 0 ∧ m = 0) → K (a.put o.dst v') w') :
    if Region.wanted o (yielded ops a.tmps) = true then Oper.wp P o a w K Q else E := by
  have hw : Region.wanted o (yielded ops a.tmps) = true := by simp [Region.wanted, hgd]
  rw [if_pos hw]
  exact wp_append_own w s x t ho base e i z size bytes ht hi hz hsize hby hzs hsz v n xs hs hown ad m c news hx hl hnews h1 h63 hbytes hbase h

set_option maxHeartbeats 400000 in
theorem sidesC (q : Nat) (ao : Option Addr) (cap N : Nat) (S : List Int) (f t : Nat) (c : Int) (w : World) (hS : S.length = N) (hf : f < N) (ht : t < N) (hN : N ≤ 12) (hq : w.cell? ⟨q, 0, none⟩ = some (.slice ao N cap)) (hql : q < w.heap.size) (hI : IntsAt w ao S) :
    Calls Try.prog 35 #[.agg #[.int .i64 (f : Int), .int .i64 (t : Int), .int .i64 c], .pointer (some ⟨q, 0, none⟩)] w fun e w' => e = .returned (.bool (ati S f == ati S t)) ∧ Below w.heap.size w w' := by
  obtain ⟨b, off, rfl, hb, d1⟩ := hI f (by omega)
  obtain ⟨b', off', e', hb', d2⟩ := hI t (by omega)
  cases e'
  generalize ati S f = x at *
  generalize ati S t = y at *
  clear hS hI
  go_enter Try.func35, Try.ntmps35
  go_wp2
  go_quiet (fail)
  go_wp2
  go_ret
  exact ⟨rfl, below_drewN (below_one _ _) _⟩

def badAt (S : List Int) (a : Arc3) : Bool := ati S a.1.toNat == ati S a.2.1.toNat

set_option maxHeartbeats 400000 in
theorem sidesIx (q : Nat) (ao : Option Addr) (cap N : Nat) (S : List Int) (a1 : Option Addr) (c1 : Nat) (l : List Arc3) (w : World) (hm : l.length ≤ 60) (hA : ArcsAt w a1 l) (hS : S.length = N) (hN : N ≤ 12)
    (hl : ∀ a ∈ l, (0 ≤ a.1 ∧ a.1 < (N : Int)) ∧ (0 ≤ a.2.1 ∧ a.2.1 < (N : Int))) (hq : w.cell? ⟨q, 0, none⟩ = some (.slice ao N cap)) (hql : q < w.heap.size) (hI : IntsAt w ao S) :
    Calls Try.prog 42 #[.slice a1 l.length c1, .func (.func 35) #[] #[.pointer (some ⟨q, 0, none⟩)]] w fun e w' =>
      (∃ k : Int, e = .returned (.int .i64 k) ∧ (0 ≤ k ↔ l.any (badAt S) = true)) ∧ Below w.heap.size w w' := by
  have HL : Hid (∀ a ∈ l, (0 ≤ a.1 ∧ a.1 < (N : Int)) ∧ (0 ≤ a.2.1 ∧ a.2.1 < (N : Int))) := hl
  have HS : Hid (S.length = N) := hS
  clear hl hS
  go_enter Try.func42, Try.ntmps42
  go_wp2
  go_loopw [8] (fun i wr => ∃ k : Nat, k ≤ l.length ∧ i = .int .i64 k ∧ Hid ((l.take k).any (badAt S) = false) ∧ Below w.heap.size w wr) (fun i _ => l.length - (intOf i).toNat)
  case atStart => exact ⟨0, Nat.zero_le _, rfl, rfl, Below.refl _ _⟩
  case round =>
    obtain ⟨k, hk, rfl, hno, hB⟩ := hrel
    have hz := hB.size
    by_cases hlt : k < l.length
    · have hmem := at3_mem l k hlt
      have hnd := HL.out _ hmem
      have hsn := take_snoc3 l k hlt
      obtain ⟨b, off, rfl, hb, c0, c1', c2⟩ := hA k hlt
      have c0 := later hB c0 hb
      have c1' := later hB c1' hb
      have c2 := later hB c2 hb
      generalize at3 l k = a at *
      obtain ⟨f, t, c⟩ := a
      simp only at c0 c1' c2 hnd
      obtain ⟨⟨p1, p2⟩, p3, p4⟩ := hnd
      obtain ⟨f, rfl⟩ := Int.eq_ofNat_of_zero_le p1
      obtain ⟨t, rfl⟩ := Int.eq_ofNat_of_zero_le p3
      have hC := sidesC q ao cap N S f t c wr HS.out (by omega) (by omega) hN (later hB hq hql) (by omega) (hI.below hB (Nat.le_refl _))
      have hbad : badAt S ((f : Int), (t : Int), c) = (ati S f == ati S t) := by simp [badAt]
      rw [← hbad] at hC
      by_cases hb2 : badAt S ((f : Int), (t : Int), c) = true
      · rw [hb2] at hC
        have HC : Hid (Calls Try.prog 35 #[.agg #[.int .i64 (f : Int), .int .i64 (t : Int), .int .i64 c], .pointer (some ⟨q, 0, none⟩)] wr fun e w' => e = .returned (.bool true) ∧ Below wr.heap.size wr w') := hC
        have HY : Hid (l.any (badAt S) = true) := List.any_eq_true.2 ⟨_, hmem, hb2⟩
        clear hC hbad hb2 hmem hsn hno
        go_wp2_with (go_at_call 35; refine Calls.mono HC.out ?_; rintro e w1 ⟨rfl, hb1⟩)
        go_ret
        exact ⟨⟨k, rfl, fun _ => HY.out, fun _ => by omega⟩, hB.trans (hb1.mono hz)⟩
      · have hb3 : badAt S ((f : Int), (t : Int), c) = false := by simpa using hb2
        rw [hb3] at hC
        have HC : Hid (Calls Try.prog 35 #[.agg #[.int .i64 (f : Int), .int .i64 (t : Int), .int .i64 c], .pointer (some ⟨q, 0, none⟩)] wr fun e w' => e = .returned (.bool false) ∧ Below wr.heap.size wr w') := hC
        have HY : Hid ((l.take (k + 1)).any (badAt S) = false) := by rw [Hid, hsn, List.any_append, hno.out]; simp [hb3]
        clear hC hbad hb2 hb3 hmem hsn hno
        go_wp2_with (go_at_call 35; refine Calls.mono HC.out ?_; rintro e w1 ⟨rfl, hb1⟩)
        go_roundw
        case rel => exact ⟨k + 1, by omega, by go_num, HY, hB.trans (hb1.mono hz)⟩
        case measure => simp [intOf]; omega
    · rw [List.take_of_length_le (by omega)] at hno
      go_wp2
      go_ret
      refine ⟨⟨-1, rfl, fun h => absurd h (by omega), fun h => ?_⟩, hB⟩
      rw [hno.out] at h
      cases h

set_option maxHeartbeats 400000 in
theorem sidesCf (q : Nat) (ao : Option Addr) (cap N : Nat) (S : List Int) (a1 : Option Addr) (c1 : Nat) (l : List Arc3) (w : World) (hm : l.length ≤ 60) (hA : ArcsAt w a1 l) (hS : S.length = N) (hN : N ≤ 12)
    (hl : ∀ a ∈ l, (0 ≤ a.1 ∧ a.1 < (N : Int)) ∧ (0 ≤ a.2.1 ∧ a.2.1 < (N : Int))) (hq : w.cell? ⟨q, 0, none⟩ = some (.slice ao N cap)) (hql : q < w.heap.size) (hI : IntsAt w ao S) :
    Calls Try.prog 34 #[.slice a1 l.length c1, .func (.func 35) #[] #[.pointer (some ⟨q, 0, none⟩)]] w fun e w' =>
      e = .returned (.bool (l.any (badAt S))) ∧ Below w.heap.size w w' := by
  have HC : Hid _ := sidesIx q ao cap N S a1 c1 l w hm hA hS hN hl hq hql hI
  clear hA hS hl hq hI
  go_enter Try.func34, Try.ntmps34
  go_wp2_with fail
  refine Calls.mono HC.out ?_
  rintro e w1 ⟨⟨k, rfl, hk⟩, hb1⟩
  have HK : Hid (0 ≤ k ↔ l.any (badAt S) = true) := hk
  clear hk
  go_wp2
  go_ret
  refine ⟨ret_bool ?_, hb1⟩
  have := HK.out
  by_cases c : 0 ≤ k
  · rw [this.1 c]; simpa using c
  · have h2 : l.any (badAt S) = false := by
      cases e : l.any (badAt S)
      · rfl
      · exact absurd (this.2 e) c
    rw [h2]; simpa using c

theorem owns_shape {w : World} {B : Nat} {t : TypeId} {s : Nat} {v : Value} {n : Nat} {xs : List Value} (h : w.ownsRow B t s v n xs) : ∃ ao cap, v = .slice ao n cap := by
  rcases h.2 with ⟨rfl, hn⟩ | ⟨g, cap, cur, rfl, _⟩
  · exact ⟨none, 0, by rw [hn]⟩
  · exact ⟨_, _, rfl⟩

theorem grown_one {w w' : World} {q B n : Nat} {v : Value} {o o' : Obj} {xs : List Value} (hq : w.heap[q]? = some o') (ho : ∀ c f, o' ≠ .cells c 3 f) (hown : w.ownsRow B 3 1 v n xs) (hg : (w.alloc o).drew.grownBy w' v.ownBlock) : w'.heap[q]? = some o' := by
  have hlt := (Array.getElem?_eq_some_iff.1 hq).1
  rw [hg.block q (by show q < (w.alloc o).heap.size; simp; omega) ?_]
  · exact blk_old hq o
  · intro e
    rcases hown.2 with ⟨rfl, _⟩ | ⟨g, cap, cur, rfl, _, hh, _⟩
    · cases e
    · simp only [Value.ownBlock, Option.some.injEq] at e
      subst e
      rw [hq] at hh
      exact ho _ _ (Option.some.inj hh)

theorem grown_below {w0 w w' : World} {B C n : Nat} {v : Value} {o : Obj} {xs : List Value} (hb : Below C w0 w) (hown : w.ownsRow B 3 1 v n xs) (hBC : C ≤ B) (hC : C ≤ w.heap.size) (hg : (w.alloc o).drew.grownBy w' v.ownBlock) : Below C w0 w' :=
  ((hb.alloc hC o).drew).grown hg (by show C ≤ (w.alloc o).heap.size; simp; omega) (by
    intro g e
    rcases hown.2 with ⟨rfl, _⟩ | ⟨g', _, _, rfl, hB0, _⟩
    · cases e
    · simp only [Value.ownBlock, Option.some.injEq] at e; omega)

theorem byfar_there (N : Nat) (l : List Arc3) (hl : ∀ a ∈ l, (0 ≤ a.1 ∧ a.1 < (N : Int)) ∧ (0 ≤ a.2.1 ∧ a.2.1 < (N : Int))) : ∃ S, ByFar N l S := by
  have each : ∀ v : Nat, v < N → ∃ x : Int, ∃ p d : Nat, p < N ∧ (∀ u : Nat, Jn l u v → p ≤ u) ∧ Wk (both l) p d v ∧ (∀ j, Wk (both l) p j v → d ≤ j) ∧ x = (d : Int) % 2 := by
    intro v hv
    obtain ⟨p, ⟨k, hp⟩, hm⟩ := least_nat (p := fun u => Jn l u v) (Jn.refl l v)
    have hpv := hm v (Jn.refl l v)
    obtain ⟨d, hd, hmin⟩ := least_walk hp
    exact ⟨_, p, d, by omega, hm, hd, hmin, rfl⟩
  obtain ⟨g, hg⟩ := Go.Deep.choose_lt each
  refine ⟨(List.range N).map g, by simp, fun v hv => ?_⟩
  have e : ati ((List.range N).map g) v = g v := by rw [ati_lt _ _ (by simpa using hv)]; simp
  rw [e]
  exact hg v hv

set_option maxHeartbeats 2000000 in
set_option maxRecDepth 100000 in
theorem SidesOf_any (N : Nat) (ao : Option Addr) (cap : Nat) (l : List Arc3) (w : World) (S : List Int) (hSF : ByFar N l S) (hA : ArcsAt w ao l) (hn : ao = none → l.length = 0 ∧ cap = 0) (hlen : l.length ≤ 60) (h1 : 1 ≤ N) (h12 : N ≤ 12)
    (hl : ∀ a ∈ l, (0 ≤ a.1 ∧ a.1 < (N : Int)) ∧ (0 ≤ a.2.1 ∧ a.2.1 < (N : Int))) :
    Calls Try.prog 18 #[.agg #[.int .i64 (N : Int), .slice ao l.length cap]] w fun e w' => Below w.heap.size w w' ∧
      ∃ ao' cap', e = .returned (.tuple #[.slice ao' N cap', .bool (!(l.any (badAt S)))]) ∧ IntsAt w' ao' S := by
  have hA0 := hA.alloc (.cells #[.int .i64 (N : Int), .slice ao l.length cap] 24)
  have x0 := blk_new w (.cells #[.int .i64 (N : Int), .slice ao l.length cap] 24)
  obtain ⟨i0, hi, hz0, hz1, hz2⟩ := info_parts infoInt
  obtain ⟨F, hF⟩ := parts_there N l
  have HF : Hid (PartsIs N l F) := hF
  have HSF : Hid (ByFar N l S) := hSF
  have HL : Hid (∀ a ∈ l, (0 ≤ a.1 ∧ a.1 < (N : Int)) ∧ (0 ≤ a.2.1 ∧ a.2.1 < (N : Int))) := hl
  have HN : Hid (ao = none → l.length = 0 ∧ cap = 0) := hn
  have HBl : Hid ((both l).length = l.length + l.length) := by simp [Hid, both]
  clear hF hl hn hSF
  go_enter Try.func18, Try.ntmps18
  go_wp2_with fail
  refine (Both_any N ao cap l _ hA0 HN.out hlen).mono ?_
  rintro e w1 ⟨hb1, ao1, cap1, rfl, hA1, _, _⟩
  simp only [World.size_alloc] at hb1
  have hz1' := hb1.size
  simp only [World.size_alloc] at hz1'
  have x1 := blk_below hb1 x0 (by omega)
  have hAa := hA0.below hb1 (by simp)
  go_wp2_with fail
  refine (Ways_any N ao1 cap1 (both l) w1 hA1 (by rw [HBl.out]; unfold maxLen; omega) h1 h12 (both_nodes HL.out)).mono ?_
  rintro e w2 ⟨hb2, D, R, M, rfl, hP, M1, hI, hM⟩
  have hz2' := hb2.size
  have x2 := blk_below hb2 x1 (by omega)
  have hAb := hAa.below hb2 (by omega)
  have HB2 : Hid (Below w.heap.size w w2) := (below_in hb1 (by omega)).trans (hb2.mono (by omega))
  have HM : Hid (∀ p v, p < N → v < N → ∀ d : Nat, Wk (both l) p d v → (∀ j, Wk (both l) p j v → d ≤ j) → M p v = d) := by
    intro p v hp hv d hw hmin
    obtain ⟨G, hG⟩ := far_there N (both l) p
    rw [hM p v hp hv, flo_far hI h12 (both_nodes HL.out) hp hG hv]
    rcases hG.all v hv with ⟨_, n⟩ | ⟨d', e, w', m'⟩
    · exact absurd hw (n _)
    · have := hmin _ w'; have := m' _ hw; rw [e, if_neg (by omega)]; omega
  clear hM hI hb1 hb2 hA1 hA0 hAa x0 x1
  obtain ⟨r0, r1, f0, f1⟩ := blk2 x2
  go_wp2_with fail
  refine (Joined_any N ao cap l w2 F HF.out hAb HN.out hlen h1 h12 HL.out).mono ?_
  rintro e w3 ⟨hb3, ao3, cap3, rfl, hJ3, _⟩
  have hz3 := hb3.size
  have HB3 : Hid (Below w.heap.size w w3) := HB2.out.trans (hb3.mono (by omega))
  have HX : Hid (w3.heap[w.heap.size]? = some (.cells #[.int .i64 (N : Int), .slice ao l.length cap] 24 (0, 0))) := blk_below hb3 x2 (by omega)
  have HA : Hid (ArcsAt w3 ao l) := hAb.below hb3 (by omega)
  have HJ : Hid (IntsAt w3 ao3 F) := hJ3
  have HP : Hid (PMat w1.heap.size w3 D R N N N M) := hP.below hb3 (by omega)
  have HQ : Hid ((w3.alloc (.cells #[.slice none 0 0] 25)).heap[w3.heap.size]? = some (.cells #[.slice none 0 0] 25 (0, 0))) := blk_new _ _
  clear hb3 x2 hAb hJ3 hP HB2 r0 r1 f0 f1
  go_wp2_with fail
  go_loopw [15] (fun i wr => ∃ k : Nat, k ≤ N ∧ i = .int .i64 k ∧ (∃ v, wr.heap[w3.heap.size]? = some (.cells #[v] 25 (0, 0)) ∧ wr.ownsRow (w3.heap.size + 1) 3 1 v k (flati (S.take k))) ∧ Below w3.heap.size w3 wr ∧ w3.heap.size + 1 ≤ wr.heap.size) (fun i _ => N - (intOf i).toNat)
  case atStart => exact ⟨0, Nat.zero_le _, rfl, ⟨_, HQ.out, World.ownsRow_nil _ _ _ _⟩, below_one _ _, by simp⟩
  case round =>
    obtain ⟨k, hk, rfl, ⟨v, hq, hown⟩, hB, hzr⟩ := hrel
    have hql : w3.heap.size < wr.heap.size := by omega
    have hSl := HSF.out.len
    have htl : (S.take k).length = k := by simp; omega
    have hown2 : wr.ownsRow (w3.heap.size + 1) 3 1 v (S.take k).length (flati (S.take k)) := by rw [htl]; exact hown
    obtain ⟨ao5, cap5, rfl, hI5, hfr5, _, _⟩ := owns_ints hown2
    rw [htl] at hq hown
    have qc := cell_of_one hq
    have qf := free_of_one hq
    by_cases hlt : k < N
    · obtain ⟨p, d, hp, hm, hw, hmin, eS⟩ := HSF.out.all k hlt
      obtain ⟨p', ep, jp, mp⟩ := HF.out.all k hlt
      have hpp : p' = p := by
        have := mp p ⟨d, hw⟩
        have := hm p' jp
        omega
      subst hpp
      have hPr := HP.out.below hB (Nat.le_refl _)
      have d1 := hPr.at hp
      have d2 := hPr.num hp hlt
      rw [HM.out p' k hp hlt d hw hmin] at d2
      obtain ⟨bj, oj, rfl, hbj, j1⟩ := HJ.out.below hB (Nat.le_refl _) k (by rw [HF.out.len]; exact hlt)
      rw [ep] at j1
      have hd12 : d < 12 := by
        obtain ⟨G, hG⟩ := far_there N (both l) p'
        have := hG.le hlt hw
        have := hG.lt (both_nodes HL.out) hlt
        rcases hG.all k hlt with ⟨_, n⟩ | ⟨d', e, w', m'⟩
        · exact absurd hw (n _)
        · have := hmin _ w'; omega
      have hsn := take_snoci S k (by omega)
      have HS : Hid (flati (S.take (k + 1)) = flati (S.take k) ++ [.int .i64 ((d : Int) % 2)]) := by rw [Hid, hsn, eS, flati, List.map_append]; rfl
      have HO : Hid ((wr.alloc (.cells #[.int .i64 ((d : Int) % 2)] 3)).drew.ownsRow (w3.heap.size + 1) 3 1 (.slice ao5 k cap5) k (flati (S.take k))) := (hown.alloc _).drew
      have HK : Hid (k + 1 ≤ maxLen) := by unfold Hid maxLen; omega
      have HC1 : Hid (∀ j u, [Value.int .i64 ((d : Int) % 2)][j]? = some u → (wr.alloc (.cells #[.int .i64 ((d : Int) % 2)] 3)).drew.cell? ((⟨wr.heap.size, 0, none⟩ : Addr).add j) = some u) := cell_one_new _ _ _
      have HC2 : Hid (∀ u ∈ [Value.int .i64 ((d : Int) % 2)], u.oneCell' = true) := by intro u hu; simp at hu; subst hu; rfl
      clear hPr hw hmin eS ep jp mp hm hsn hown2 hI5 hfr5 htl
      go_wp2
      go_region_law (refine step_append_own rfl (.tmp 18) (.tmp 30) 25 rfl (w3.heap.size + 1) 3 i0 _ 1 8 Try.underlying25 hi hz0 hz1 hz2 rfl (by decide) (.slice ao5 k cap5) k _ (by simp [Act.eval]) HO.out ⟨wr.heap.size, 0, none⟩ 1 1 [.int .i64 ((d : Int) % 2)] (by simp [Act.eval]) rfl HC1.out HC2.out HK.out (by omega) (by simp; omega) ?_; intro v' w6 hown' hgrow _; rw [← HS.out] at hown'; have hq6 := grown_one hq (fun c f e => by cases e) hown hgrow; have hB6 := grown_below hB hown (by omega) (by omega) hgrow; have hz6 : wr.heap.size ≤ w6.heap.size := (by have := hgrow.size; simp at this; omega); obtain ⟨ao6, cap6, rfl⟩ := owns_shape hown'; have qc6 := cell_of_one hq6; have qf6 := free_of_one hq6; have HO6 : Hid (w6.ownsRow (w3.heap.size + 1) 3 1 (.slice ao6 (k + 1) cap6) (k + 1) (flati (S.take (k + 1)))) := hown'; have HQ6 : Hid (w6.heap[w3.heap.size]? = some (.cells #[.slice ao5 k cap5] 25 (0, 0))) := hq6; clear hown' hgrow hq6)
      all_goals
        have HQn := one_setCell (u := .slice ao6 (k + 1) cap6) HQ6.out
        have HOn : Hid ((w6.setCell ⟨w3.heap.size, 0, none⟩ (.slice ao6 (k + 1) cap6)).ownsRow (w3.heap.size + 1) 3 1 (.slice ao6 (k + 1) cap6) (k + 1) (flati (S.take (k + 1)))) := owns_set HO6.out (fun _ _ g c e => owns_ne HO6.out HQ6.out (by decide) g c e) _
        have HQn' : Hid ((w6.setCell ⟨w3.heap.size, 0, none⟩ (.slice ao6 (k + 1) cap6)).heap[w3.heap.size]? = some (.cells #[.slice ao6 (k + 1) cap6] 25 (0, 0))) := HQn
        clear HQn
        go_wp2
        go_roundw
        case rel => exact ⟨k + 1, by omega, by go_num, ⟨_, HQn'.out, HOn.out⟩, hB6.setCell (Nat.le_refl _) _, by simp [World.setCell]; omega⟩
        case measure => simp [intOf]; omega
    · have hkN : N = k := by omega
      subst hkN
      have hIS : IntsAt wr ao5 S := by
        have := hI5
        rwa [List.take_of_length_le (by omega)] at this
      have x5 := blk_below hB HX.out (by omega)
      have hA5 := HA.out.below hB (Nat.le_refl _)
      obtain ⟨r0, r1, f0, f1⟩ := blk2 x5
      have HSl : Hid (S.length = N) := hSl
      have HIS : Hid (IntsAt wr ao5 S) := hIS
      have HA5 : Hid (ArcsAt wr ao l) := hA5
      have HB5 : Hid (Below w3.heap.size w3 wr) := hB
      clear hown hown2 hI5 hq htl hSl hIS hA5 hB
      go_wp2
      go_region_with (go_at_call 34; refine (sidesCf w3.heap.size ao5 cap5 N S ao cap l _ hlen (by exact HA5.out.drew) HSl.out h12 HL.out (by exact qc) (by exact hql) (by exact HIS.out.drew)).mono ?_; rintro e w7 ⟨rfl, hb7⟩; have t7 : w7.cell? ⟨w3.heap.size, 0, none⟩ = some (.slice ao5 N cap5) := later hb7 qc hql)
      all_goals
        go_wp2_with fail
        go_ret2
        refine ⟨(HB3.out.trans (HB5.out.mono (by omega))).trans ((Below.refl _ _).drew.trans (hb7.mono (by show w.heap.size ≤ wr.heap.size; omega))), ao5, cap5, rfl, ?_⟩
        exact HIS.out.below ((Below.refl _ _).drew.trans hb7) (Nat.le_refl _)

end Go.Proofs.Ytbnagipapgonpaa
