/- copy of integers into a row just made. -/
import Derived.Test.YtmneajmfoljflaaCopy
import Derived.Test.YtmneajmfoljflaaOwnIs
namespace Go.Proofs.Ytmneajmfoljflaa
open Go.RowKit
set_option linter.unusedVariables false

theorem size_int : (Try.prog.info? 3).map (·.size) = some 1 := by kernel_rfl
theorem wpList_copy_ints {ops : Array Oper} {rest : List Oper} {o : Oper} {a : Act} {w : World} {Q : Exit → Act → World → Prop} (hgd : o.guard = none) (d s : Operand)
    (ho : o.op = .call { callee := .builtin .copy, args := #[d, s], argTypes := #[23, 23] }) (g n : Nat) (sp : Option Addr) (cap : Nat) (f : List Int) (hf : f.length = n)
    (hd : a.eval d = .slice (some ⟨g, 0, none⟩) n n) (hs : a.eval s = .slice sp n cap) (hg : w.heap[g]? = some (.cells (zeri n) 3 (0, 0))) (hI : IntsAt w sp f)
    (h : ∀ w', Below g w w' → OwnI w' g n n (ati f) → wpList Try.prog ops Q rest (a.put o.dst (goInt n)) w') : wpList Try.prog ops Q (o :: rest) a w := by
  have hz : (zeri n) = (zeri n).toList.toArray := by simp
  have hzl : (zeri n).toList.length = n := by
    have := size_zeroCells #[Value.int .i64 0] n
    simp [zeri, madeCells] at this ⊢
  have hmin : Nat.min n n = n := Nat.min_self n
  have hfl : (flati f).length = n := by simp [flati, hf]
  refine wpList_copyK hgd d s 23 23 ho 3 1 (by decide) Try.underlying23 size_int (some ⟨g, 0, none⟩) sp n n n cap hd hs g 0 (zeri n).toList 3 (by rw [← hz]; exact hg) (flati f) (by rw [hfl, hmin, Nat.mul_one]) (fun h0 => ?_) (by rw [hfl, hzl]; omega) (oneFlati f) g w (Below.refl _ _) (Nat.le_refl _) ?_
  · rw [hfl] at h0
    obtain ⟨b, off, rfl, _, _⟩ := hI 0 (by omega)
    refine ⟨rfl, _, rfl, fun j v hj => ?_⟩
    have hjl : j < f.length := by
      have := (List.getElem?_eq_some_iff.1 hj).1
      simpa [flati] using this
    obtain ⟨b', off', e, _, c⟩ := hI j hjl
    cases e
    rw [Go.WideShapes.add_plain]
    have e1 : (flati f)[j]? = some (.int .i64 (ati f j)) := by simp [flati, hjl, ati_lt]
    rw [hj] at e1
    cases e1
    exact c
  · intro w' hg' hb'
    rw [hmin]
    refine h w' hb' ⟨fun j => (flati f).getD j (.bool false), ⟨_, hg'.out, ?_, fun i hi => ?_⟩, Nat.le_refl _, fun j hj => ?_⟩
    · simp [splice, hfl, hzl]
    · have : i < (flati f).length := by omega
      simp [splice, hfl, List.getElem?_append_left this, List.getElem?_eq_getElem this]
    · have : j < f.length := by omega
      simp [flati, this, ati_lt]

end Go.Proofs.Ytmneajmfoljflaa
