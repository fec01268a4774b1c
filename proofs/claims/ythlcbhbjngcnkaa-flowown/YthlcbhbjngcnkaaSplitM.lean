/- Plain facts on pieces of flows. -/
import Derived.Test.YthlcbhbjngcnkaaFlM
namespace Go.Proofs.Ythlcbhbjngcnkaa
set_option linter.unusedVariables false

/-- a piece: an amount, and the numbers of its arcs -/
abbrev Pc := Int × List Nat

/-- arcs, each of which begins where the one ahead of it ends -/
def Way (l : List Arc3) : Int → List Nat → Int → Prop
  | s, [], t => s = t
  | s, k :: K, t => k < l.length ∧ (at3 l k).1 = s ∧ Way l (at3 l k).2.1 K t
theorem Way.lt {l : List Arc3} : ∀ {K : List Nat} {s t : Int}, Way l s K t → ∀ k ∈ K, k < l.length
  | [], _, _, _, k, hk => absurd hk (List.not_mem_nil)
  | j :: K, s, t, ⟨h1, _, h3⟩, k, hk => by
    rcases List.mem_cons.1 hk with rfl | hk
    · exact h1
    · exact Way.lt h3 k hk
theorem Way.append {l : List Arc3} : ∀ {K : List Nat} {s u : Int}, Way l s K u → ∀ {L : List Nat} {t : Int}, Way l u L t → Way l s (K ++ L) t
  | [], s, u, h, L, t, h2 => by
    have : s = u := h
    subst this
    exact h2
  | k :: K, s, u, ⟨h1, h2, h3⟩, L, t, h4 => ⟨h1, h2, Way.append h3 h4⟩
theorem Way.snoc {l : List Arc3} {K : List Nat} {s : Int} {k : Nat} (h : Way l s K (at3 l k).1) (hk : k < l.length) : Way l s (K ++ [k]) (at3 l k).2.1 :=
  h.append (L := [k]) ⟨hk, rfl, rfl⟩

/-- so much along arcs, each once -/
structure PieceIs (l : List Arc3) (s : Int) (p : Pc) (t : Int) : Prop where
  pos : 1 ≤ p.1
  some : p.2 ≠ []
  once : p.2.Nodup
  way : Way l s p.2 t

def along (a : Int) (K : List Nat) (k : Nat) : Int := if k ∈ K then a else 0

theorem gone_one (l : List Arc3) {k : Nat} (hk : k < l.length) (a v : Int) : gone l (fun j => if j = k then a else 0) v = (if (at3 l k).1 = v then a else 0) - (if (at3 l k).2.1 = v then a else 0) := by
  unfold gone goneK
  rw [sumN_single (k := k) hk]
  · simp
  · intro j _ hne
    simp [hne]

/-- along a way only its ends have more or less -/
theorem gone_way {l : List Arc3} (a v : Int) : ∀ {K : List Nat} {s t : Int}, Way l s K t → K.Nodup → gone l (along a K) v = (if s = v then a else 0) - (if t = v then a else 0)
  | [], s, t, h, _ => by
    have e : s = t := h
    subst e
    have : along a [] = fun _ => 0 := funext fun k => by simp [along]
    rw [this, gone_zero]
    omega
  | k :: K, s, t, ⟨h1, h2, h3⟩, hn => by
    rw [List.nodup_cons] at hn
    have e : along a (k :: K) = fun j => (if j = k then a else 0) + along a K j := funext fun j => by
      unfold along
      by_cases c : j = k
      · subst c; simp [hn.1]
      · simp [c]
    rw [e, gone_add, gone_one l h1, gone_way a v h3 hn.2, h2]
    omega

/-- what pieces have along an arc, together -/
def amtAt : List Pc → Nat → Int
  | [], _ => 0
  | p :: P, k => along p.1 p.2 k + amtAt P k
def total : List Pc → Int
  | [] => 0
  | p :: P => p.1 + total P
theorem amt_append (P Q : List Pc) (k : Nat) : amtAt (P ++ Q) k = amtAt P k + amtAt Q k := by
  induction P with
  | nil => simp [amtAt]
  | cons p P ih => simp only [List.cons_append, amtAt, ih]; omega
theorem total_append (P Q : List Pc) : total (P ++ Q) = total P + total Q := by
  induction P with
  | nil => simp [total]
  | cons p P ih => simp only [List.cons_append, total, ih]; omega
theorem amt_nonneg {P : List Pc} (h : ∀ p ∈ P, 1 ≤ p.1) (k : Nat) : 0 ≤ amtAt P k := by
  induction P with
  | nil => exact Int.le_refl _
  | cons p P ih =>
    have h1 := h p (List.mem_cons_self ..)
    have h2 := ih fun q hq => h q (List.mem_cons_of_mem _ hq)
    unfold amtAt along
    split <;> omega
theorem total_nonneg {P : List Pc} (h : ∀ p ∈ P, 1 ≤ p.1) : 0 ≤ total P := by
  induction P with
  | nil => exact Int.le_refl _
  | cons p P ih =>
    have h1 := h p (List.mem_cons_self ..)
    have h2 := ih fun q hq => h q (List.mem_cons_of_mem _ hq)
    unfold total
    omega
theorem gone_ways {l : List Arc3} {s t : Int} (v : Int) : ∀ {P : List Pc}, (∀ p ∈ P, PieceIs l s p t) → gone l (amtAt P) v = (if s = v then total P else 0) - (if t = v then total P else 0)
  | [], _ => by
    have : amtAt [] = fun _ => 0 := funext fun k => rfl
    rw [this, gone_zero]
    simp [total]
  | p :: P, h => by
    have hp := h p (List.mem_cons_self ..)
    have e : amtAt (p :: P) = fun k => along p.1 p.2 k + amtAt P k := rfl
    rw [e, gone_add, gone_way p.1 v hp.way hp.once, gone_ways v fun q hq => h q (List.mem_cons_of_mem _ hq), show total (p :: P) = p.1 + total P from rfl]
    split <;> split <;> omega
theorem gone_rounds {l : List Arc3} (v : Int) : ∀ {P : List Pc}, (∀ p ∈ P, ∃ u, PieceIs l u p u) → gone l (amtAt P) v = 0
  | [], _ => by
    have : amtAt [] = fun _ => 0 := funext fun k => rfl
    rw [this, gone_zero]
  | p :: P, h => by
    obtain ⟨u, hp⟩ := h p (List.mem_cons_self ..)
    have e : amtAt (p :: P) = fun k => along p.1 p.2 k + amtAt P k := rfl
    rw [e, gone_add, gone_way p.1 v hp.way hp.once, gone_rounds v fun q hq => h q (List.mem_cons_of_mem _ hq)]
    omega

/-- P24 -/
structure SplitIs (s t : Int) (l : List Arc3) (f : List Int) (W R : List Pc) : Prop where
  ways : ∀ p ∈ W, PieceIs l s p t
  rounds : ∀ p ∈ R, ∃ u, PieceIs l u p u
  sum : ∀ k, k < l.length → amtAt (W ++ R) k = ati f k
  val : total W = gone l (ati f) s
  few : W.length + R.length ≤ l.length

theorem SplitIs.pos {s t : Int} {l : List Arc3} {f : List Int} {W R : List Pc} (h : SplitIs s t l f W R) : ∀ p ∈ W ++ R, 1 ≤ p.1 := fun p hp => by
  rcases List.mem_append.1 hp with hp | hp
  · exact (h.ways p hp).pos
  · obtain ⟨u, hu⟩ := h.rounds p hp; exact hu.pos
theorem SplitIs.lt {s t : Int} {l : List Arc3} {f : List Int} {W R : List Pc} (h : SplitIs s t l f W R) : ∀ p ∈ W ++ R, ∀ k ∈ p.2, k < l.length := fun p hp => by
  rcases List.mem_append.1 hp with hp | hp
  · exact (h.ways p hp).way.lt
  · obtain ⟨u, hu⟩ := h.rounds p hp; exact hu.way.lt

/-- the first m pieces: what they have along the arcs -/
def firstF (l : List Arc3) (W R : List Pc) (m : Nat) : List Int := (List.range l.length).map (amtAt ((W ++ R).take m))
theorem firstF_len (l : List Arc3) (W R : List Pc) (m : Nat) : (firstF l W R m).length = l.length := by simp [firstF]
theorem firstF_at (l : List Arc3) (W R : List Pc) (m : Nat) {k : Nat} (hk : k < l.length) : ati (firstF l W R m) k = amtAt ((W ++ R).take m) k := by
  rw [ati_lt _ _ (by rw [firstF_len]; exact hk)]; simp [firstF]
theorem first_gone {s t : Int} {l : List Arc3} {f : List Int} {W R : List Pc} (h : SplitIs s t l f W R) (m : Nat) (v : Int) : gone l (ati (firstF l W R m)) v = (if s = v then total (W.take m) else 0) - (if t = v then total (W.take m) else 0) := by
  rw [gone_congr fun i hi => firstF_at l W R m hi, List.take_append]
  have e : amtAt (W.take m ++ R.take (m - W.length)) = fun k => amtAt (W.take m) k + amtAt (R.take (m - W.length)) k := funext fun k => amt_append _ _ k
  rw [e, gone_add, gone_ways v fun p hp => h.ways p (List.mem_of_mem_take hp), gone_rounds v fun p hp => h.rounds p (List.mem_of_mem_take hp)]
  omega
/-- they are a flow -/
theorem first_flow {N : Nat} {s t : Int} {l : List Arc3} {f : List Int} {W R : List Pc} (hf : FlowIs N s t l f) (h : SplitIs s t l f W R) (m : Nat) : FlowIs N s t l (firstF l W R m) := by
  refine ⟨firstF_len l W R m, fun k hk => ?_, fun v hv h1 h2 => ?_⟩
  · rw [firstF_at l W R m hk]
    have hs := h.sum k hk
    rw [← List.take_append_drop m (W ++ R), amt_append] at hs
    have p1 := amt_nonneg (P := (W ++ R).take m) (fun p hp => h.pos p (List.mem_of_mem_take hp)) k
    have p2 := amt_nonneg (P := (W ++ R).drop m) (fun p hp => h.pos p (List.mem_of_mem_drop hp)) k
    have := hf.bnd k hk
    omega
  · rw [first_gone h, if_neg (fun e => h1 e.symm), if_neg (fun e => h2 e.symm)]; rfl
theorem first_val {s t : Int} {l : List Arc3} {f : List Int} {W R : List Pc} (hst : s ≠ t) (h : SplitIs s t l f W R) (m : Nat) : gone l (ati (firstF l W R m)) s = total (W.take m) := by
  rw [first_gone h, if_pos rfl, if_neg (fun e => hst e.symm)]; omega
theorem first_all {s t : Int} {l : List Arc3} {f : List Int} {W R : List Pc} (hf : f.length = l.length) (h : SplitIs s t l f W R) {m : Nat} (hm : W.length + R.length ≤ m) : firstF l W R m = f := by
  refine List.ext_getElem (by rw [firstF_len, hf]) fun i h1 h2 => ?_
  rw [firstF_len] at h1
  rw [← ati_lt _ _ (by rw [firstF_len]; exact h1), ← ati_lt _ _ h2, firstF_at l W R m h1, List.take_of_length_le (by simpa using hm), h.sum i h1]

end Go.Proofs.Ythlcbhbjngcnkaa
