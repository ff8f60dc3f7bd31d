/-
  A REGION THAT DRAWS ITS ORDER AND STORES, AT ITS END, WHAT IT LOADED AT ITS BEGINNING ('x = f(x, ..)', x a struct or an array in memory): L: the load, K: the call, T: the store. T comes up behind K, K behind L; so, while L has not come up, nothing is turned.
-/
import Derived.Test.YtcfmbdcklapmhaaRegionZ
import Derived.Laws.Tables
namespace Bz
open Go Bt
set_option linter.unusedVariables false
def in3 (L K T : Nat) (S : Bool → World → Prop) (m : Array Bool) (w : World) : Prop :=
  (m.getD K true = true → m.getD L true = true) ∧ (m.getD T true = true → m.getD K true = true) ∧ S (m.getD T true) w
section
variable {L K T : Nat} {S : Bool → World → Prop} {m : Array Bool} {w w' : World} {o : Oper} {md : Region.Mode}
theorem in3_start {n : Nat} (hL : L < n) (hK : K < n) (hT : T < n) (h : S false w) : in3 L K T S (upTo n 0) w := by
  unfold in3
  rw [getD_upTo hL, getD_upTo hK, getD_upTo hT]
  simpa using h
theorem in3_end {n k : Nat} (hT : T < n) (hT2 : T < k) (h : in3 L K T S (upTo n k) w) : S true w := by
  have := h.2.2
  rw [getD_upTo hT] at this
  simpa [hT2] using this
theorem in3_first (hm : Turn md L o m) (h : in3 L K T S m w) : S false w := by
  have h1 : m.getD K true = false := by
    cases e : m.getD K true
    · rfl
    · have := h.1 e; rw [hm.1] at this; cases this
  have h2 : m.getD T true = false := by
    cases e : m.getD T true
    · rfl
    · have := h.2.1 e; rw [h1] at this; cases this
  have := h.2.2
  rw [h2] at this
  exact this
theorem in3_mid (hm : Turn md K o m) (h : in3 L K T S m w) : S false w := by
  have h2 : m.getD T true = false := by
    cases e : m.getD T true
    · rfl
    · have := h.2.1 e; rw [hm.1] at this; cases this
  have := h.2.2
  rw [h2] at this
  exact this
theorem in3_last (hm : Turn md T o m) (h : in3 L K T S m w) : S false w := by
  have := h.2.2
  rw [hm.1] at this
  exact this
theorem in3_keep {k : Nat} (hK : k ≠ K) (hT : k ≠ T) (h : in3 L K T S m w) : in3 L K T S (m.setIfInBounds k true) w := by
  unfold in3 at *
  rw [getD_set_ne true hK, getD_set_ne true hT]
  refine ⟨fun e => ?_, h.2.1, h.2.2⟩
  by_cases hL : k = L
  · subst hL; exact getD_set_same m k
  · rw [getD_set_ne true hL]; exact h.1 e
/-- the call comes up: it was told the load's value -/
theorem in3_K (hm : Turn md K o m) (hLK : L ≠ K) (hTK : T ≠ K) (hL : m.getD L false = true) (h : in3 L K T S m w) (hw : S false w') : in3 L K T S (m.setIfInBounds K true) w' := by
  have h2 : m.getD T true = false := by
    cases e : m.getD T true
    · rfl
    · have := h.2.1 e; rw [hm.1] at this; cases this
  unfold in3
  rw [getD_set_ne true (Ne.symm hLK), getD_set_ne true (Ne.symm hTK), h2]
  exact ⟨fun _ => getD_up hL, (fun e => by cases e), hw⟩
/-- the first comes up: nothing is turned yet -/
theorem in3_L (hm : Turn md L o m) (hK : L ≠ K) (hT : L ≠ T) (h : in3 L K T S m w) (hw : S false w') : in3 L K T S (m.setIfInBounds L true) w' := by
  have h1 : m.getD K true = false := by
    cases e : m.getD K true
    · rfl
    · have := h.1 e; rw [hm.1] at this; cases this
  have h2 : m.getD T true = false := by
    cases e : m.getD T true
    · rfl
    · have := h.2.1 e; rw [h1] at this; cases this
  unfold in3
  rw [getD_set_ne true hK, getD_set_ne true hT, h1, h2]
  exact ⟨(fun e => by cases e), (fun e => by cases e), hw⟩
/-- the store comes up: it was told the call's value -/
theorem in3_T (hm : Turn md T o m) (hLT : L ≠ T) (hTK : T ≠ K) (hK : m.getD K false = true) (h : in3 L K T S m w) (hw : S true w') : in3 L K T S (m.setIfInBounds T true) w' := by
  unfold in3
  rw [getD_set_ne true (Ne.symm hLT), getD_set_ne true hTK, getD_set_same]
  exact ⟨h.1, fun _ => getD_up hK, hw⟩
end
section
variable {P : Program} {ops : Array Oper} {Q : Exit → Act → World → Prop} {S : Array Bool → World → Prop}
/-- .. one that yields no value and turns the world (a store) -/
theorem anyR_skip {k : Nat} {o : Oper} {rest : List Oper} {a : Act} (hc : checkT ops k = true) (hw : Region.wanted o (yielded ops a.tmps) = true)
    (hQ : ∀ c a w, Q (.panic c) (a.put o.dst undef) w → Q (.panic c) a w) (hr : ∀ m w, Turn .any k o m → S m w → ∃ w', (execOp a.eval o).run P w = .ok .skip w' ∧ S (m.setIfInBounds k true) w') (h : anyR P ops Q S (k + 1) rest (a.put o.dst undef)) : anyR P ops Q S k (o :: rest) a :=
  anyR_take hc hQ (Or.inl ⟨hw, fun m hm w hs => by obtain ⟨w', h1, h2⟩ := hr m w hm hs; rw [h1]; exact ⟨rfl, h2⟩⟩) h
/-- a store of a whole row -/
theorem ex_store {o : Oper} {a : Act} {w : World} (ty : TypeId) (x y : Operand) (ho : o.op = .store ty x y) (g : Nat) (cells : Array Value) (hx : a.eval x = .pointer (some ⟨g, 0, none⟩)) (hy : a.eval y = .agg cells)
    (t : TypeId) (old : Array Value) (hg : w.heap[g]? = some (.cells old t (0, 0))) (hi : (P.info? ty).map (·.size) = some cells.size) (hold : old.size = cells.size) (h1 : cells.all (·.oneCell') = true) :
    (execOp a.eval o).run P w = .ok .skip (w.setRow g cells) := by
  unfold execOp
  simp only [ho, hx, hy, Instr.storeAt, Instr.sureAddr, Sem.run_bind, Sem.run_pure, Result.andThen_ok, run_storeVar_row w g t ty old cells hg hi hold h1]
end
end Bz
