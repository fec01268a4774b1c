/- Package most: so much more let go along the way that was found. -/
import Derived.Test.YtmneajmfoljflaaMSteps
import Derived.Test.YtmneajmfoljflaaOwnIs
import Derived.BigRegion
namespace Go.Proofs.Ytmneajmfoljflaa
open Go.RowKit
set_option linter.unusedVariables false

theorem mul_one_or {sg x : Int} (h : sg = 1 ∨ sg = -1) (hx : 0 ≤ x ∧ x ≤ 10000) : -10000 ≤ sg * x ∧ sg * x ≤ 10000 := by
  rcases h with rfl | rfl <;> omega

theorem ati_set {F : List Int} {a : Nat} (ha : a < F.length) (y : Int) (k : Nat) : ati (F.set a y) k = if k = a then y else ati F k := by
  by_cases e : k = a
  · subst e
    rw [if_pos rfl, ati_lt _ _ (by rw [List.length_set]; exact ha), List.getElem_set_self]
  · rw [if_neg e]
    by_cases h : k < F.length
    · rw [ati_lt _ _ (by rw [List.length_set]; exact h), ati_lt _ _ h, List.getElem_set_ne (fun c => e c.symm)]
    · have h1 : F[k]? = none := List.getElem?_eq_none (by omega)
      have h2 : (F.set a y)[k]? = none := List.getElem?_eq_none (by rw [List.length_set]; omega)
      simp [ati, h1, h2]

set_option maxHeartbeats 4000000 in
set_option maxRecDepth 100000 in
theorem push_any (N s t g : Nat) (ao : Option Addr) (cap capf : Nat) (l : List Arc3) (f : List Int) (c : Array Value) (G : Nat → Int) (w : World) (hE : netErr N s t l = 0) (hf : FlowIs N s t l f) (hV : StepsV c G) (hF : Found N s l (ati f) G) (hT : 0 < rmv G t)
    (hO : OwnI w g capf f.length (ati f)) :
    Calls Try.prog 37 #[.agg #[.int .i64 (N : Int), .int .i64 (s : Int), .int .i64 (t : Int), .slice ao l.length cap], .slice (some ⟨g, 0, none⟩) f.length capf, .agg c] w fun e w' => Only g w w' ∧ 
      ∃ F : List Int, e = .returned (.int .i64 (rmv G t)) ∧ F.length = f.length ∧ FlowIs N s t l F ∧ gone l (ati F) s = gone l (ati f) s + rmv G t ∧ OwnI w' g capf f.length (ati F) := by
  obtain ⟨hge, hs, ht, hst⟩ := net_ok hE
  obtain ⟨⟨hn1, hn2⟩, hl60, hall⟩ := err_ok hge
  have hN12 : N ≤ 12 := by omega
  have htN : t < N := by omega
  have hsN : s < N := by omega
  have hti : (t : Int) < 12 := by omega
  have hgl := hO.lt
  have hgc := hO.le
  have hlen := hf.len
  obtain ⟨⟨rk, hTree⟩, _⟩ := hF
  obtain ⟨x, hx⟩ : ∃ x, rmv G t = x := ⟨_, rfl⟩
  have hP0 : Pushed N s t l (ati f) (ati f) G rk (rmv G t) t := Pushed.start htN hf.bnd
  have hxb := hTree.bnd t htN
  rw [hx] at hT hP0 hxb ⊢
  have HX : Hid (rmv G t = x) := hx
  have HTree : Hid (TreeIs N s l (ati f) G rk) := hTree
  have HP0 : Hid (Pushed N s t l (ati f) (ati f) G rk x t) := hP0
  have Hf : Hid (FlowIs N s t l f) := hf
  have HO : Hid (OwnI w g capf f.length (ati f)) := hO
  have Hst : Hid (s ≠ t) := fun e => hst (by rw [e])
  have Hcap : Hid (∀ k, k < l.length → (at3 l k).2.2 ≤ 10000) := fun k hk => (hall _ (at3_mem l k hk)).2.2.2
  have x0 := blk_new w (.cells #[.int .i64 (N : Int), .int .i64 (s : Int), .int .i64 (t : Int), .slice ao l.length cap] 43)
  clear hge hs ht hst hall hf hO hTree hP0 hx hE
  obtain ⟨W, hW⟩ : ∃ W, (w.alloc (.cells #[.int .i64 (N : Int), .int .i64 (s : Int), .int .i64 (t : Int), .slice ao l.length cap] 43)).alloc (.cells c 73) = W := ⟨_, rfl⟩
  have hs1 : StepsAt W (w.heap.size + 1) G := by
    rw [← hW]
    refine hV.at_ ?_
    have := blk_new (w.alloc (.cells #[.int .i64 (N : Int), .int .i64 (s : Int), .int .i64 (t : Int), .slice ao l.length cap] 43)) (.cells c 73)
    rwa [World.size_alloc] at this
  have hn1' : W.heap[w.heap.size]? = some (.cells #[.int .i64 (N : Int), .int .i64 (s : Int), .int .i64 (t : Int), .slice ao l.length cap] 43 (0, 0)) := by rw [← hW]; exact blk_old x0 _
  have HOW : Hid (OwnI W g capf f.length (ati f)) := by rw [← hW]; exact (HO.out.alloc _).alloc _
  have HonW : Hid (Only g w W) := by rw [← hW]; exact ((Only.refl g w).alloc _).alloc _
  have HSt : Hid (StepsAt W (w.heap.size + 1) G) := hs1
  have HNet : Hid (W.heap[w.heap.size]? = some (.cells #[.int .i64 (N : Int), .int .i64 (s : Int), .int .i64 (t : Int), .slice ao l.length cap] 43 (0, 0))) := hn1'
  have hgW : g < W.heap.size := HOW.out.lt
  have c3 := World.rowIs.cell hs1 (i := t * 4 + 3) (by omega)
  rw [show G (t * 4 + 3) = x from HX.out] at c3
  obtain ⟨r0, r1, r2, r3⟩ := blk4 hn1'
  clear HO hs1 hn1' x0
  go_enter Try.func37, Try.ntmps37
  go_wp2
  go_loopw [8] (fun i wr => ∃ (v : Nat) (F : List Int), i = .int .i64 v ∧ F.length = f.length ∧ Hid (Pushed N s t l (ati f) (ati F) G rk x v) ∧ Hid (OwnI wr g capf f.length (ati F)) ∧ Hid (Only g W wr)) (fun i _ => rk (intOf i).toNat)
  case atStart => exact ⟨t, f, rfl, rfl, HP0, HOW, Only.refl _ _⟩
  case round =>
    obtain ⟨v, F, rfl, hFl, hP, hO, hB⟩ := hrel
    have hvN := hP.out.node
    have hs1 : StepsAt wr (w.heap.size + 1) G := HSt.out.only (by omega) hB.out
    have hn1' := hB.out.blk HNet.out (by omega)
    clear c3 r0 r1 r2 r3
    obtain ⟨r0, r1, r2, r3⟩ := blk4 hn1'
    have hvi : (v : Int) < 12 := by omega
    clear hn1'
    by_cases e : v = s
    · subst e
      have e1 : ((v : Int) != (v : Int)) = false := by simp
      obtain ⟨hfl, hgo⟩ := hP.out.flow Hst.out Hf.out (by rw [hFl, hlen])
      have HA : Hid (FlowIs N v t l F ∧ gone l (ati F) v = gone l (ati f) v + x) := ⟨hfl, hgo⟩
      have HFl : Hid (F.length = f.length) := hFl
      clear hfl hgo hs1 hlen hFl
      go_wp2
      go_ret
      exact ⟨HonW.out.trans hB.out, F, rfl, HFl.out, HA.out.1, HA.out.2, hO.out⟩
    · have e1 : ((v : Int) != (s : Int)) = true := by simp; omega
      obtain ⟨p, a, sg, hp, ha, g0, g1, g2, hsg, hrk, hPn⟩ := hP.out.next HTree.out hT e
      have haF : a < f.length := by omega
      have d0 := hO.out.cell haF
      have f0 := hO.out.frozen a
      have k0 := World.rowIs.cell hs1 (i := v * 4) (by omega)
      have k1 := World.rowIs.cell hs1 (i := v * 4 + 1) (by omega)
      have k2 := World.rowIs.cell hs1 (i := v * 4 + 2) (by omega)
      rw [g0] at k0
      rw [g1] at k1
      rw [g2] at k2
      have hb1 := hP.out.bnd a ha
      have hb2 := hPn.bnd a ha
      have hb3 := Hcap.out a ha
      rw [if_pos rfl] at hb2
      have hm := mul_one_or hsg ⟨by omega, hxb.2⟩
      have w1 : IntKind.i64.wrap (sg * x) = sg * x := by rw [IntKind.wrap_i64]; omega
      have w2 : IntKind.i64.wrap (ati F a + sg * x) = ati F a + sg * x := by rw [IntKind.wrap_i64]; omega
      have hfun : (fun k => if k = a then ati F a + sg * x else ati F k) = ati (F.set a (ati F a + sg * x)) := by
        funext k
        rw [ati_set (by omega)]
      rw [hfun] at hPn
      have HPn : Hid (Pushed N s t l (ati f) (ati (F.set a (ati F a + sg * x))) G rk x p) := hPn
      have HOn : Hid (OwnI (wr.drew.setCell ⟨g, a, none⟩ (.int .i64 (ati F a + sg * x))) g capf f.length (ati (F.set a (ati F a + sg * x)))) := by
        have := OwnI.set (w := wr.drew) (by exact (hO.out.drewN 1 : OwnI wr.drew g capf f.length (ati F))) a (ati F a + sg * x)
        rw [hfun] at this
        exact this
      have HBn : Hid (Only g W (wr.drew.setCell ⟨g, a, none⟩ (.int .i64 (ati F a + sg * x)))) := hB.out.drew.setCell _
      have HFl : Hid (F.length = f.length) := hFl
      have hne1 : w.heap.size + 1 ≠ g := by omega
      have HL : Hid ((F.set a (ati F a + sg * x)).length = f.length) := by rw [List.length_set]; exact hFl
      generalize F.set a (ati F a + sg * x) = F2 at *
      generalize ati F a = y at *
      clear hPn hfun hs1 hP hO hB g0 g1 g2 e hsg hm hb1 hb2 hb3 hFl hlen
      go_wp2
      go_region
      go_wp2
      go_roundw
      case rel => exact ⟨p, F2, rfl, HL.out, HPn, HOn, HBn⟩
      case measure => simp [intOf]; omega

end Go.Proofs.Ytmneajmfoljflaa
