/- Package most: search, node by node. -/
import Derived.Deep.LoopGhost
import Derived.Deep.RegionHeld3
import Derived.Test.YtmneajmfoljflaaMSteps
import Derived.Test.YtmneajmfoljflaaMQueue
import Derived.Test.YtmneajmfoljflaaAppJoin
namespace Go.Proofs.Ytmneajmfoljflaa
open Go.RowKit
set_option linter.unusedVariables false

/-- what stays while search goes on -/
structure SFr (w wr : World) (n s t : Int) (ao : Option Addr) (len cap : Nat) : Prop where
  below : Below w.heap.size w wr
  net : wr.heap[w.heap.size]? = some (.cells #[.int .i64 n, .int .i64 s, .int .i64 t, .slice ao len cap] 43 (0, 0))
  ret : StepsAt wr (w.heap.size + 1) (fun _ => 0)
  size : w.heap.size + 3 < wr.heap.size
theorem SFr.alloc {w wr : World} {n s t : Int} {ao : Option Addr} {len cap : Nat} (h : SFr w wr n s t ao len cap) (o : Obj) : SFr w (wr.alloc o) n s t ao len cap :=
  ⟨h.below.alloc h.below.size o, blk_old h.net o, h.ret.alloc o, by have := h.size; simp; omega⟩
theorem SFr.drew {w wr : World} {n s t : Int} {ao : Option Addr} {len cap : Nat} (h : SFr w wr n s t ao len cap) : SFr w wr.drew n s t ao len cap :=
  ⟨h.below.drew, h.net, World.rowIs.drew h.ret, h.size⟩
theorem SFr.drewN {w wr : World} {n s t : Int} {ao : Option Addr} {len cap : Nat} (h : SFr w wr n s t ao len cap) (m : Nat) : SFr w (wr.drewN m) n s t ao len cap := by
  induction m with
  | zero => exact h
  | succ m ih => exact ih.drew
theorem SFr.only {w wr w' : World} {n s t : Int} {ao : Option Addr} {len cap : Nat} (h : SFr w wr n s t ao len cap) (ho : Only (w.heap.size + 2) wr w') : SFr w w' n s t ao len cap :=
  ⟨h.below.trans (ho.below (by omega) h.below.size), ho.blk h.net (by omega), h.ret.only (by omega) ho, by have := ho.size; have := h.size; omega⟩
theorem SFr.on {w wr w' : World} {n s t : Int} {ao : Option Addr} {len cap : Nat} (h : SFr w wr n s t ao len cap) (hb : Below wr.heap.size wr w') : SFr w w' n s t ao len cap :=
  ⟨h.below.trans (hb.mono h.below.size), blk_below hb h.net (by have := h.size; omega), World.rowIs.of_block h.ret (hb.block _ (by have := h.size; omega)), by have := hb.size; have := h.size; omega⟩
theorem SFr.grown {w wr w' : World} {n s t : Int} {ao : Option Addr} {len cap : Nat} {row : Option Nat} (h : SFr w wr n s t ao len cap) (hg : wr.grownBy w' row) (hr : ∀ j, row = some j → w.heap.size + 3 ≤ j) : SFr w w' n s t ao len cap :=
  ⟨h.below.grown hg h.below.size (fun j hj => by have := hr j hj; omega), (hg.block _ (by have := h.size; omega) (fun e => by have := hr _ e.symm; omega)).trans h.net,
    h.ret.grown hg (fun e => by have := hr _ e.symm; omega), by have := hg.size; have := h.size; omega⟩

theorem arc_nodes {N : Nat} {s t : Int} {l : List Arc3} (hE : netErr N s t l = 0) {k : Nat} (hk : k < l.length) : ∃ p q : Nat, (at3 l k).1 = (p : Int) ∧ (at3 l k).2.1 = (q : Int) ∧ p < N ∧ q < N ∧ 0 ≤ (at3 l k).2.2 ∧ (at3 l k).2.2 ≤ 10000 := by
  obtain ⟨⟨p1, p2⟩, ⟨p3, p4⟩⟩ := net_nodes hE _ (at3_mem l k hk)
  obtain ⟨p, hp⟩ := Int.eq_ofNat_of_zero_le p1
  obtain ⟨q, hq⟩ := Int.eq_ofNat_of_zero_le p3
  exact ⟨p, q, hp, hq, by omega, by omega, (err_ok (net_ok hE).1).2.2 _ (at3_mem l k hk) |>.2.2⟩

set_option maxHeartbeats 8000000 in
set_option maxRecDepth 100000 in
theorem search_any (N s : Nat) (t : Int) (ao af : Option Addr) (cap capf : Nat) (l : List Arc3) (f : List Int) (w : World) (hE : netErr N s t l = 0) (hf : FlowIs N s t l f) (hA : ArcsAt w ao l) (hF : IntsAt w af f) :
    Calls Try.prog 36 #[.agg #[.int .i64 (N : Int), .int .i64 (s : Int), .int .i64 t, .slice ao l.length cap], .slice af l.length capf] w fun e w' => Below w.heap.size w w' ∧
      ∃ c G, e = .returned (.agg c) ∧ StepsV c G ∧ Found N s l (ati f) G := by
  obtain ⟨hge, hs, _, _⟩ := net_ok hE
  obtain ⟨⟨hn1, hn2⟩, hl60, hall⟩ := err_ok hge
  have hN12 : N ≤ 12 := by omega
  have hsN : s < N := by omega
  have hsi : (s : Int) < 12 := by omega
  have HA : Hid (ArcsAt w ao l) := hA
  have HF : Hid (IntsAt w af f) := hF
  have HE : Hid (netErr N s t l = 0) := hE
  have Hf : Hid (FlowIs N s t l f) := hf
  have x0 := blk_new w (.cells #[.int .i64 (N : Int), .int .i64 (s : Int), .int .i64 t, .slice ao l.length cap] 43)
  clear hA hF hE hf hge hs hall
  go_enter Try.func36, Try.ntmps36
  go_wp2_with (refine wpList_alloc_steps rfl rfl ?_; first
    | (have _ := hz1; intro w2 hb2 hz2 hs2; rw [hz1] at hz2 hs2 hb2; have c0 := World.rowIs.cell hs2 (i := s * 4 + 3) (by omega); have f0 := World.rowIs.frozen hs2 (s * 4 + 3); have x2 := blk_below hb2 x1 (by omega); obtain ⟨r0, r1, r2, r3⟩ := blk4 x2)
    | (intro w1 hb1 hz1 hs1; simp only [World.size_alloc] at hb1 hz1 hs1; have x1 := blk_below hb1 x0 (by omega)))
  go_loopg [6] N (fun g q wr => ∃ (D Q : List Nat) (pa : Option Addr) (pc : Nat) (G : Nat → Int), D.length + g = N ∧ q = .slice pa Q.length pc ∧ Hid (QOut N s l (ati f) G D Q) ∧ Hid (QRow wr (w.heap.size + 3) pa pc Q) ∧ Hid (StepsAt wr (w.heap.size + 2) G) ∧ Hid (SFr w wr N s t ao l.length cap))
  case atStart =>
    have hz3 : (w2.setCell ⟨w.heap.size + 2, s * 4 + 3, none⟩ (.int .i64 10000)).heap.size = w.heap.size + 3 := by simp [World.setCell]; omega
    have hr1 : StepsAt w2 (w.heap.size + 1) (fun _ => 0) := World.rowIs.of_block hs1 (hb2.block _ (by omega))
    have hB : Below w.heap.size w w2 := (below_in hb1 (by omega)).trans (hb2.mono (by omega))
    refine ⟨[], [s], some ⟨w.heap.size + 3, 0, none⟩, 1, fun j => if j = s * 4 + 3 then 10000 else 0, by simp, by first | rfl | (rw [hz2]; rfl), ⟨QInv.start hsN, fun u hu => absurd hu (List.not_mem_nil)⟩, ?_, ?_, ?_⟩
    · have := qrow_new (w2.setCell ⟨w.heap.size + 2, s * 4 + 3, none⟩ (.int .i64 10000)) (w.heap.size + 3) s (by omega)
      rw [hz3] at this
      exact this
    · exact (StepsAt.set hs2 (s * 4 + 3) 10000).alloc _
    · exact ⟨(hB.setCell (by show w.heap.size ≤ w.heap.size + 2; omega) _).alloc (by have h : (w2.setCell ⟨w.heap.size + 1 + 1, s * 4 + 3, none⟩ (.int .i64 10000)).heap.size = w.heap.size + 3 := hz3; omega) _, blk_old ((Below.heap_setCell _ _ _ _ (by show w.heap.size ≠ w.heap.size + 2; omega)).trans x2) _, (World.rowIs.setOther hr1 (by show w.heap.size + 1 ≠ w.heap.size + 2; omega) _).alloc _, (by have h : (w2.setCell ⟨w.heap.size + 1 + 1, s * 4 + 3, none⟩ (.int .i64 10000)).heap.size = w.heap.size + 3 := hz3; simp only [World.size_alloc, h]; omega)⟩
  case round =>
    obtain ⟨D, Q, pa, pc, G, hg, rfl, HQ, HR, HS, HFr⟩ := hrel
    clear c0 f0 x2 r0 r1 r2 r3 hb2 hz2 hs2 x1 hb1 hz1 hs1 x0
    obtain ⟨r0, r1, r2, r3⟩ := blk4 HFr.out.net
    have hfew := HQ.out.q.few
    rcases Q with _ | ⟨v, Q⟩
    · obtain ⟨c, hb, hV⟩ := HS.out.value
      obtain ⟨c', hb', hV'⟩ := HFr.out.ret.value
      simp only [List.length_nil]
      go_wp2_with (first
        | (refine wpList_load_row rfl 73 _ rfl (w.heap.size + 2) rfl 73 c (0, 0) _ hb Try.underlying73 rfl hV.info ?_)
        | (refine wpList_store_row rfl 73 _ _ rfl (w.heap.size + 1) c rfl rfl 73 c' hb' hV.info (by rw [hV'.1, hV.1]) hV.one ?_))
      (try simp only [Exit.inBlock, Exit.then])
      have hpost : Below w.heap.size w (wr.setRow (w.heap.size + 1) c) := HFr.out.below.trans ⟨rfl, rfl, rfl, by simp, fun k hk => setRow_other _ _ _ _ (by omega)⟩
      have hld := run_loadVar_row (P := Try.prog) (wr.setRow (w.heap.size + 1) c) (w.heap.size + 1) 73 73 c (0, 0) _ (setRow_heap _ _ c' _ _ _ hb') Try.underlying73 rfl hV.info
      have HP : Hid (Below w.heap.size w (wr.setRow (w.heap.size + 1) c)) := hpost
      clear hpost r0 r1 r2 r3 hb hb'
      refine bodyPost_ret (v := .agg c) ?_ rfl ⟨HP.out, c, G, rfl, hV, HQ.out.found⟩
      simp only [Act.put, List.setIfInBounds_toArray, List.set_cons_succ, List.set_cons_zero]
      simp [results, asAddr, hld]
    · obtain ⟨g, off, rfl, hBg, hgl, hp1, hpm, hc0, HR2⟩ := HR.out.head
      obtain ⟨hvN, hpos, hIn⟩ := HQ.out.take
      have HIn : Hid (QIn N s l (ati f) G D v 0 Q) := hIn
      have HR3 : Hid (QRow wr (w.heap.size + 3) (some ⟨g, if pc = 1 then off else off + 1, none⟩) (pc - 1) Q) := HR2
      have hvi : (v : Int) < 12 := by omega
      rw [List.length_cons] at hfew
      clear HR2 HR HQ hIn hpos
      simp only [List.length_cons]
      unfold maxLen at hpm
      have hp1i : (1 : Int) ≤ (pc : Int) := by omega
      have hq1 : (1 : Int) ≤ ((Q.length + 1 : Nat) : Int) := by omega
      go_upto_region 6 with fail
      go_cut [6] (fun q wx => wx = wr ∧ ∃ pa pc, q = .slice pa Q.length pc ∧ Hid (QRow wr (w.heap.size + 3) pa pc Q))
      case first =>
        by_cases h : pc = 1
        · subst h
          have HR4 : Hid (QRow wr (w.heap.size + 3) (some ⟨g, off, none⟩) 0 Q) := HR3
          clear HR3
          go_wp2
          go_meet
          case rel => exact ⟨rfl, _, _, rfl, HR4⟩
        · have HR4 : Hid (QRow wr (w.heap.size + 3) (some ⟨g, off + 1, none⟩) (pc - 1) Q) := by rw [if_neg h] at HR3; exact HR3
          clear HR3
          go_wp2
          go_meet
          case rel => exact ⟨rfl, _, _, rfl, HR4⟩
      case rest =>
        obtain ⟨e, pa, pc', rfl, HR4⟩ := hcut
        subst e
        clear hc0 HR3 hp1i hq1 hp1 hpm hgl hBg
        go_wp2
        go_loopw [6, 28] (fun q i wx => ∃ (k : Nat) (Q : List Nat) (pa : Option Addr) (pc : Nat) (G : Nat → Int), k ≤ l.length ∧ i = .int .i64 k ∧ q = .slice pa Q.length pc ∧ Hid (QIn N s l (ati f) G D v k Q) ∧ Hid (QRow wx (w.heap.size + 3) pa pc Q) ∧ Hid (StepsAt wx (w.heap.size + 2) G) ∧ Hid (SFr w wx N s t ao l.length cap)) (fun _ i _ => l.length - (intOf i).toNat)
        case atStart => exact ⟨0, Q, pa, pc', G, Nat.zero_le _, rfl, rfl, HIn, HR4, HS, HFr⟩
        case round =>
          obtain ⟨k, Q, pa, pc, G, hk, rfl, rfl, HIn, HR, HS, HFr⟩ := hrel
          by_cases hlt : k < l.length
          · obtain ⟨p, q, hp, hq, hpN, hqN, hc0, hc1⟩ := arc_nodes HE.out hlt
            obtain ⟨bA, offA, rfl, hbA, a0, a1, a2⟩ := HA.out.below HFr.out.below (Nat.le_refl _) k hlt
            have hlen := Hf.out.len
            obtain ⟨bF, offF, e, hbF, d0⟩ := HF.out k (by rw [hlen]; exact hlt)
            subst e
            have hfb := Hf.out.bnd k hlt
            rw [hp] at a0
            rw [hq] at a1
            obtain ⟨c, hc⟩ : ∃ c, (at3 l k).2.2 = c := ⟨_, rfl⟩
            obtain ⟨y, hy⟩ : ∃ y, ati f k = y := ⟨_, rfl⟩
            rw [hc] at a2 hc0 hc1 hfb
            rw [hy] at d0 hfb
            have HP : Hid ((at3 l k).1 = (p : Int)) := hp
            have HQn : Hid ((at3 l k).2.1 = (q : Int)) := hq
            have HC : Hid ((at3 l k).2.2 = c) := hc
            have HY : Hid (ati f k = y) := hy
            have HD : Hid (∀ x : World, Below w.heap.size w x → x.cell? ⟨bF, offF + k, none⟩ = some (.int .i64 y)) := fun x hx => later hx d0 hbF
            clear hlen hp hq hc hy d0
            go_upto_region 9 with fail
            go_cut [8, 9, 28] (fun k8 p9 i wx => k8 = .int .i64 k ∧ p9 = .pointer (some ⟨wr.heap.size, 0, none⟩) ∧ i = .int .i64 k ∧ wx.heap[wr.heap.size]? = some (.cells #[.int .i64 (p : Int), .int .i64 (q : Int), .int .i64 c] 47 (0, 0)) ∧ w.heap.size + 3 < wr.heap.size ∧ Hid (QRow wx (w.heap.size + 3) pa pc Q) ∧ Hid (StepsAt wx (w.heap.size + 2) G) ∧ Hid (SFr w wx N s t (some ⟨bA, offA, none⟩) l.length cap))
            case first =>
              go_wp2
              go_meet
              case rel => exact ⟨rfl, rfl, rfl, blk_new _ _, HFr.out.size, HR.out.alloc _, HS.out.alloc _, HFr.out.alloc _⟩
            case rest =>
              obtain ⟨rfl, rfl, rfl, hA9, hpA, HR, HS, HFr⟩ := hcut
              clear a0 a1 a2 hbA
              obtain ⟨a0, a1, a2⟩ := blk3 hA9
              have d0 := HD.out wc HFr.out.below
              have HA9 : Hid (wc.heap[wr.heap.size]? = some (.cells #[.int .i64 (p : Int), .int .i64 (q : Int), .int .i64 c] 47 (0, 0))) := hA9
              have v1 : IntKind.i64.wrap (c - y) = c - y := by rw [IntKind.wrap_i64]; omega
              clear hA9
              go_wp2
              go_cut [28, 51] (fun i tt wx => i = .int .i64 k ∧ ∃ (b : Bool) (G : Nat → Int), tt = .bool b ∧ wx.heap[wr.heap.size]? = some (.cells #[.int .i64 (p : Int), .int .i64 (q : Int), .int .i64 c] 47 (0, 0)) ∧ Hid (QRow wx (w.heap.size + 3) pa pc Q) ∧ Hid (StepsAt wx (w.heap.size + 2) G) ∧ Hid (SFr w wx N s t (some ⟨bA, offA, none⟩) l.length cap) ∧ Hid (QIn N s l (ati f) G D v k (if b then Q ++ [q] else Q)) ∧ Hid ((at3 l k).1 = v → 0 < rmv G q ∨ ati f k = (at3 l k).2.2))
              case first =>
                by_cases e1 : (p : Int) = (v : Int)
                · have e1' : ((p : Int) == (v : Int)) = true := by simpa using e1
                  have hbF3 : bF ≠ w.heap.size + 2 := by omega
                  have hpA3 : wr.heap.size ≠ w.heap.size + 2 := by omega
                  have HSx : Hid (∀ x : World, Only (w.heap.size + 2) wc x → Only (w.heap.size + 2) wc x ∧ x.cell? ⟨wr.heap.size, 0, none⟩ = some (.int .i64 (p : Int)) ∧ x.cell? ⟨wr.heap.size, 1, none⟩ = some (.int .i64 (q : Int)) ∧ x.cell? ⟨wr.heap.size, 2, none⟩ = some (.int .i64 c) ∧ x.cell? ⟨bF, offF + k, none⟩ = some (.int .i64 y)) :=
                    fun x h => ⟨h, h.cell a0 hpA3, h.cell a1 hpA3, h.cell a2 hpA3, h.cell d0 hbF3⟩
                  have hu12 : q < 12 := by omega
                  have hv12 : v < 12 := by omega
                  by_cases hno : 0 < G (q * 4 + 3) ∨ c - y = 0
                  · have hcall := come_no (w.heap.size + 2) q v k 1 (c - y) G wc.drew hu12 (World.rowIs.drew HS.out) hno
                    have HCall : Hid (Calls Try.prog 40 #[.pointer (some ⟨w.heap.size + 2, 0, none⟩), .int .i64 (q : Int), .agg #[.int .i64 (v : Int), .int .i64 (k : Int), .int .i64 1, .int .i64 (c - y)]] wc.drew fun e w' => e = .returned (.bool false) ∧ Below wc.drew.heap.size wc.drew w') := hcall
                    have HX : Hid ((at3 l k).1 = v → 0 < rmv G q ∨ ati f k = (at3 l k).2.2) := fun _ => hno.imp id (fun h => by rw [HY.out, HC.out]; omega)
                    clear e1 hno hcall a0 a1 a2 d0
                    go_region_held3 (fun x => Only (w.heap.size + 2) wc x ∧ x.cell? ⟨wr.heap.size, 0, none⟩ = some (.int .i64 (p : Int)) ∧ x.cell? ⟨wr.heap.size, 1, none⟩ = some (.int .i64 (q : Int)) ∧ x.cell? ⟨wr.heap.size, 2, none⟩ = some (.int .i64 c) ∧ x.cell? ⟨bF, offF + k, none⟩ = some (.int .i64 y))
                      (first
                        | with_reducible assumption
                        | with_reducible exact HSx.out _ (Only.drew (Only.refl _ _)))
                      (first
                        | (go_at_call 40; refine HCall.out.mono ?_; rintro e w3 ⟨rfl, hb3⟩; have hs3 := HSx.out w3 (Only.trans (Only.drew (Only.refl _ _)) (Only.of_below hb3))))
                    all_goals
                      go_wp2
                      go_meet
                      case rel => exact ⟨rfl, false, G, rfl, hs3.1.blk HA9.out hpA3, HR.out.only (by omega) hs3.1, World.rowIs.of_block HS.out (hb3.block _ (World.rowIs.lt HS.out)), HFr.out.only hs3.1, HIn, HX⟩
                  · obtain ⟨hI2, hI3, hI4⟩ := HIn.out.add (u := q) (sg := 1) (room := c - y) (by omega) (by omega) (fun h => hno (Or.inl h)) (by have : ¬ (c - y) = 0 := fun h => hno (Or.inr h); omega) (Or.inl ⟨rfl, by rw [HP.out]; exact e1, HQn.out, by rw [HY.out, HC.out]; omega⟩)
                    have HIn2 : Hid (QIn N s l (ati f) (putS G q v k 1 (min (c - y) (rmv G v))) D v k (Q ++ [q])) := hI2
                    have HPos : Hid (0 < rmv (putS G q v k 1 (min (c - y) (rmv G v))) q) := hI3
                    have HGr : Hid (∀ x, 0 < rmv G x → 0 < rmv (putS G q v k 1 (min (c - y) (rmv G v))) x) := hI4
                    have hcall := come_yes (w.heap.size + 2) q v k 1 (c - y) G wc.drew hu12 hv12 (World.rowIs.drew HS.out) (fun h => hno (Or.inl h)) (fun h => hno (Or.inr h))
                    have HCall : Hid (Calls Try.prog 40 #[.pointer (some ⟨w.heap.size + 2, 0, none⟩), .int .i64 (q : Int), .agg #[.int .i64 (v : Int), .int .i64 (k : Int), .int .i64 1, .int .i64 (c - y)]] wc.drew fun e w' => e = .returned (.bool true) ∧ Only (w.heap.size + 2) wc.drew w' ∧ StepsAt w' (w.heap.size + 2) (putS G q v k 1 (min (c - y) (rmv G v)))) := hcall
                    clear e1 hno hcall a0 a1 a2 d0 hI2 hI3 hI4
                    go_region_held3 (fun x => Only (w.heap.size + 2) wc x ∧ x.cell? ⟨wr.heap.size, 0, none⟩ = some (.int .i64 (p : Int)) ∧ x.cell? ⟨wr.heap.size, 1, none⟩ = some (.int .i64 (q : Int)) ∧ x.cell? ⟨wr.heap.size, 2, none⟩ = some (.int .i64 c) ∧ x.cell? ⟨bF, offF + k, none⟩ = some (.int .i64 y))
                      (first
                        | with_reducible assumption
                        | with_reducible exact HSx.out _ (Only.drew (Only.refl _ _)))
                      (first
                        | (go_at_call 40; refine HCall.out.mono ?_; rintro e w3 ⟨rfl, ho3, hst3⟩; have hs3 := HSx.out w3 (Only.trans (Only.drew (Only.refl _ _)) ho3)))
                    all_goals
                      go_wp2
                      go_meet
                      case rel => exact ⟨rfl, true, _, rfl, hs3.1.blk HA9.out hpA3, HR.out.only (by omega) hs3.1, hst3, HFr.out.only hs3.1, HIn2, fun _ => Or.inl HPos.out⟩
                · have e1' : ((p : Int) == (v : Int)) = false := by simpa using e1
                  have HX : Hid ((at3 l k).1 = v → 0 < rmv G q ∨ ati f k = (at3 l k).2.2) := fun h => absurd (HP.out.symm.trans h) e1
                  clear e1
                  go_quiet (fail)
                  go_wp2
                  go_meet
                  case rel => exact ⟨rfl, false, G, rfl, by rw [heap_drewN]; exact HA9.out, HR.out.drewN _, HS.out.drewN _, HFr.out.drewN _, HIn, HX⟩
              case rest =>
                obtain ⟨rfl, b, G, rfl, hA9, HR, HS, HFr, HIn, HX1⟩ := hcut
                clear HA9
                have HA9 : Hid (wc.heap[wr.heap.size]? = some (.cells #[.int .i64 (p : Int), .int .i64 (q : Int), .int .i64 c] 47 (0, 0))) := hA9
                clear a0 a1 a2 d0
                obtain ⟨a0, a1, a2⟩ := blk3 hA9
                clear hA9
                have hqf : Q.length ≤ 12 := by
                  have := HIn.out.q.few
                  cases b <;> simp at this <;> omega
                go_upto_if 51 with fail
                go_cut [6, 28] (fun qv i wx => i = .int .i64 k ∧ ∃ (Q : List Nat) (pa : Option Addr) (pc : Nat), qv = .slice pa Q.length pc ∧ wx.heap[wr.heap.size]? = some (.cells #[.int .i64 (p : Int), .int .i64 (q : Int), .int .i64 c] 47 (0, 0)) ∧ Hid (QRow wx (w.heap.size + 3) pa pc Q) ∧ Hid (StepsAt wx (w.heap.size + 2) G) ∧ Hid (SFr w wx N s t (some ⟨bA, offA, none⟩) l.length cap) ∧ Hid (QIn N s l (ati f) G D v k Q) ∧ Hid ((at3 l k).1 = v → 0 < rmv G q ∨ ati f k = (at3 l k).2.2))
                case first =>
                  cases b with
                  | true =>
                    have hfsz := HFr.out.size
                    go_wp2_with (at_builtin; refine wpList_append_q rfl (.tmp 52) (.tmp 55) rfl (w.heap.size + 3) pa pc Q rfl (HR.out.alloc _) (by omega) (by simp; omega) ⟨wc.heap.size, 0, none⟩ 1 q rfl (newest _ _ _) ?_; intro pa' pc' w' hq' hg')
                    go_meet
                    case rel => exact ⟨rfl, Q ++ [q], pa', pc', by simp, (hg'.block _ (by have := HFr.out.size; have := (Array.getElem?_eq_some_iff.1 HA9.out).1; simp; omega) (HR.out.ne HA9.out (by decide))).trans (blk_old HA9.out _), hq', (HS.out.alloc _).grown hg' (fun e => by have := HR.out.qb _ e.symm; omega), (HFr.out.alloc _).grown hg' HR.out.qb, HIn, HX1⟩
                  | false =>
                    go_wp2
                    go_meet
                    case rel => exact ⟨rfl, Q, pa, pc, rfl, HA9.out, HR, HS, HFr, HIn, HX1⟩
                case rest =>
                  obtain ⟨rfl, Q, pa, pc, rfl, hA9, HR, HS, HFr, HIn, HX1⟩ := hcut
                  clear HA9
                  have HA9 : Hid (wc.heap[wr.heap.size]? = some (.cells #[.int .i64 (p : Int), .int .i64 (q : Int), .int .i64 c] 47 (0, 0))) := hA9
                  clear a0 a1 a2 hqf
                  obtain ⟨a0, a1, a2⟩ := blk3 hA9
                  have d0 := HD.out wc HFr.out.below
                  clear hA9
                  go_wp2
                  go_cut [28, 72] (fun i tt wx => i = .int .i64 k ∧ ∃ (b : Bool) (G : Nat → Int), tt = .bool b ∧ wx.heap[wr.heap.size]? = some (.cells #[.int .i64 (p : Int), .int .i64 (q : Int), .int .i64 c] 47 (0, 0)) ∧ Hid (QRow wx (w.heap.size + 3) pa pc Q) ∧ Hid (StepsAt wx (w.heap.size + 2) G) ∧ Hid (SFr w wx N s t (some ⟨bA, offA, none⟩) l.length cap) ∧ Hid (QIn N s l (ati f) G D v k (if b then Q ++ [p] else Q)) ∧ Hid ((at3 l k).1 = v → 0 < rmv G q ∨ ati f k = (at3 l k).2.2) ∧ Hid ((at3 l k).2.1 = v → 0 < rmv G p ∨ ati f k = 0))
                  case first =>
                    by_cases e1 : (q : Int) = (v : Int)
                    · have e1' : ((q : Int) == (v : Int)) = true := by simpa using e1
                      have hbF3 : bF ≠ w.heap.size + 2 := by omega
                      have hpA3 : wr.heap.size ≠ w.heap.size + 2 := by omega
                      have HSx : Hid (∀ x : World, Only (w.heap.size + 2) wc x → Only (w.heap.size + 2) wc x ∧ x.cell? ⟨wr.heap.size, 0, none⟩ = some (.int .i64 (p : Int)) ∧ x.cell? ⟨wr.heap.size, 1, none⟩ = some (.int .i64 (q : Int)) ∧ x.cell? ⟨wr.heap.size, 2, none⟩ = some (.int .i64 c) ∧ x.cell? ⟨bF, offF + k, none⟩ = some (.int .i64 y)) :=
                        fun x h => ⟨h, h.cell a0 hpA3, h.cell a1 hpA3, h.cell a2 hpA3, h.cell d0 hbF3⟩
                      have hu12 : p < 12 := by omega
                      have hv12 : v < 12 := by omega
                      by_cases hno : 0 < G (p * 4 + 3) ∨ y = 0
                      · have hcall := come_no (w.heap.size + 2) p v k (-1) (y) G wc.drew hu12 (World.rowIs.drew HS.out) hno
                        have HCall : Hid (Calls Try.prog 40 #[.pointer (some ⟨w.heap.size + 2, 0, none⟩), .int .i64 (p : Int), .agg #[.int .i64 (v : Int), .int .i64 (k : Int), .int .i64 (-1), .int .i64 (y)]] wc.drew fun e w' => e = .returned (.bool false) ∧ Below wc.drew.heap.size wc.drew w') := hcall
                        have HX : Hid ((at3 l k).2.1 = v → 0 < rmv G p ∨ ati f k = 0) := fun _ => hno.imp id (fun h => by rw [HY.out]; exact h)
                        clear e1 hno hcall a0 a1 a2 d0
                        go_region_held3 (fun x => Only (w.heap.size + 2) wc x ∧ x.cell? ⟨wr.heap.size, 0, none⟩ = some (.int .i64 (p : Int)) ∧ x.cell? ⟨wr.heap.size, 1, none⟩ = some (.int .i64 (q : Int)) ∧ x.cell? ⟨wr.heap.size, 2, none⟩ = some (.int .i64 c) ∧ x.cell? ⟨bF, offF + k, none⟩ = some (.int .i64 y))
                          (first
                            | with_reducible assumption
                            | with_reducible exact HSx.out _ (Only.drew (Only.refl _ _)))
                          (first
                            | (go_at_call 40; refine HCall.out.mono ?_; rintro e w3 ⟨rfl, hb3⟩; have hs3 := HSx.out w3 (Only.trans (Only.drew (Only.refl _ _)) (Only.of_below hb3))))
                        all_goals
                          go_wp2
                          go_meet
                          case rel => exact ⟨rfl, false, G, rfl, hs3.1.blk HA9.out hpA3, HR.out.only (by omega) hs3.1, World.rowIs.of_block HS.out (hb3.block _ (World.rowIs.lt HS.out)), HFr.out.only hs3.1, HIn, HX1, HX⟩
                      · obtain ⟨hI2, hI3, hI4⟩ := HIn.out.add (u := p) (sg := (-1)) (room := y) (by omega) (by omega) (fun h => hno (Or.inl h)) (by have : ¬ (y) = 0 := fun h => hno (Or.inr h); omega) (Or.inr ⟨rfl, HP.out, by rw [HQn.out]; exact e1, by rw [HY.out]; omega⟩)
                        have HIn2 : Hid (QIn N s l (ati f) (putS G p v k (-1) (min (y) (rmv G v))) D v k (Q ++ [p])) := hI2
                        have HPos : Hid (0 < rmv (putS G p v k (-1) (min (y) (rmv G v))) p) := hI3
                        have HGr : Hid (∀ x, 0 < rmv G x → 0 < rmv (putS G p v k (-1) (min (y) (rmv G v))) x) := hI4
                        have hcall := come_yes (w.heap.size + 2) p v k (-1) (y) G wc.drew hu12 hv12 (World.rowIs.drew HS.out) (fun h => hno (Or.inl h)) (fun h => hno (Or.inr h))
                        have HCall : Hid (Calls Try.prog 40 #[.pointer (some ⟨w.heap.size + 2, 0, none⟩), .int .i64 (p : Int), .agg #[.int .i64 (v : Int), .int .i64 (k : Int), .int .i64 (-1), .int .i64 (y)]] wc.drew fun e w' => e = .returned (.bool true) ∧ Only (w.heap.size + 2) wc.drew w' ∧ StepsAt w' (w.heap.size + 2) (putS G p v k (-1) (min (y) (rmv G v)))) := hcall
                        clear e1 hno hcall a0 a1 a2 d0 hI2 hI3 hI4
                        go_region_held3 (fun x => Only (w.heap.size + 2) wc x ∧ x.cell? ⟨wr.heap.size, 0, none⟩ = some (.int .i64 (p : Int)) ∧ x.cell? ⟨wr.heap.size, 1, none⟩ = some (.int .i64 (q : Int)) ∧ x.cell? ⟨wr.heap.size, 2, none⟩ = some (.int .i64 c) ∧ x.cell? ⟨bF, offF + k, none⟩ = some (.int .i64 y))
                          (first
                            | with_reducible assumption
                            | with_reducible exact HSx.out _ (Only.drew (Only.refl _ _)))
                          (first
                            | (go_at_call 40; refine HCall.out.mono ?_; rintro e w3 ⟨rfl, ho3, hst3⟩; have hs3 := HSx.out w3 (Only.trans (Only.drew (Only.refl _ _)) ho3)))
                        all_goals
                          go_wp2
                          go_meet
                          case rel => exact ⟨rfl, true, _, rfl, hs3.1.blk HA9.out hpA3, HR.out.only (by omega) hs3.1, hst3, HFr.out.only hs3.1, HIn2, fun e => (HX1.out e).imp (HGr.out _) id, fun _ => Or.inl HPos.out⟩
                    · have e1' : ((q : Int) == (v : Int)) = false := by simpa using e1
                      have HX : Hid ((at3 l k).2.1 = v → 0 < rmv G p ∨ ati f k = 0) := fun h => absurd (HQn.out.symm.trans h) e1
                      clear e1
                      go_quiet (fail)
                      go_wp2
                      go_meet
                      case rel => exact ⟨rfl, false, G, rfl, by rw [heap_drewN]; exact HA9.out, HR.out.drewN _, HS.out.drewN _, HFr.out.drewN _, HIn, HX1, HX⟩
                  case rest =>
                    obtain ⟨rfl, b, G, rfl, hA9, HR, HS, HFr, HIn, HX1, HX2⟩ := hcut
                    clear HA9
                    have HA9 : Hid (wc.heap[wr.heap.size]? = some (.cells #[.int .i64 (p : Int), .int .i64 (q : Int), .int .i64 c] 47 (0, 0))) := hA9
                    clear a0 a1 a2 d0
                    obtain ⟨a0, a1, a2⟩ := blk3 hA9
                    clear hA9
                    have hqf : Q.length ≤ 12 := by
                      have := HIn.out.q.few
                      cases b <;> simp at this <;> omega
                    go_upto_if 72 with fail
                    have HNx : Hid (QIn N s l (ati f) G D v (k + 1) (if b then Q ++ [p] else Q)) := HIn.out.next (fun e => by rw [HQn.out, Int.toNat_natCast]; exact HX1.out e) (fun e => by rw [HP.out, Int.toNat_natCast]; exact HX2.out e)
                    clear HIn HX1 HX2
                    cases b with
                    | true =>
                      have hfsz := HFr.out.size
                      go_wp2_with (at_builtin; refine wpList_append_q rfl (.tmp 73) (.tmp 76) rfl (w.heap.size + 3) pa pc Q rfl (HR.out.alloc _) (by omega) (by simp; omega) ⟨wc.heap.size, 0, none⟩ 1 p rfl (newest _ _ _) ?_; intro pa' pc' w' hq' hg')
                      go_roundw
                      case rel => exact ⟨k + 1, Q ++ [p], pa', pc', G, by omega, by go_num, by simp, HNx, hq', (HS.out.alloc _).grown hg' (fun e => by have := HR.out.qb _ e.symm; omega), (HFr.out.alloc _).grown hg' HR.out.qb⟩
                      case measure => simp [intOf]; omega
                    | false =>
                      go_wp2
                      go_roundw
                      case rel => exact ⟨k + 1, Q, pa, pc, G, by omega, by go_num, rfl, HNx, HR, HS, HFr⟩
                      case measure => simp [intOf]; omega
          · have hkk : l.length = k := by omega
            subst hkk
            have hg2 : 0 < gk := by omega
            go_wp2
            go_roundg (gk - 1)
            case measure => omega
            case rel => exact ⟨D ++ [v], Q, pa, pc, G, by rw [List.length_append, List.length_singleton]; omega, rfl, HIn.out.out, HR, HS, HFr⟩

end Go.Proofs.Ytmneajmfoljflaa
