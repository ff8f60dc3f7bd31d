/-
  REGIONS THAT DRAW THEIR ORDER, LOAD, AND BEHIND THAT TURN THE WORLD ONCE (st1) OR TWICE (st2: 'a.x, b.y = c, d'). Of no program.
-/
import Derived.Test.YtcfmbdcklapmhaaRegionI
namespace Bz
open Go Bt
set_option linter.unusedVariables false
/-- A REGION THAT DRAWS ITS ORDER, LOADS (Ls) AND BEHIND THEM STORES TWICE, A ahead of B -/
def st2 (Ls : List Nat) (A B : Nat) (T : Bool → Bool → World → Prop) (m : Array Bool) (w : World) : Prop :=
  (m.getD A true = true → ∀ L ∈ Ls, m.getD L true = true) ∧ (m.getD B true = true → m.getD A true = true) ∧ T (m.getD A true) (m.getD B true) w
section
variable {Ls : List Nat} {A B : Nat} {T : Bool → Bool → World → Prop} {m : Array Bool} {w w' : World} {o : Oper} {md : Region.Mode}
theorem st2_start {n : Nat} (hA : A < n) (hB : B < n) (h : T false false w) : st2 Ls A B T (upTo n 0) w := by
  unfold st2
  rw [getD_upTo hA, getD_upTo hB]
  simpa using h
theorem st2_end {n k : Nat} (hA : A < n) (hA2 : A < k) (hB : B < n) (hB2 : B < k) (h : st2 Ls A B T (upTo n k) w) : T true true w := by
  have := h.2.2
  rw [getD_upTo hA, getD_upTo hB] at this
  simpa [hA2, hB2] using this
theorem st2_keep {k : Nat} (hA : k ≠ A) (hB : k ≠ B) (h : st2 Ls A B T m w) : st2 Ls A B T (m.setIfInBounds k true) w := by
  unfold st2 at *
  rw [getD_set_ne true hA, getD_set_ne true hB]
  refine ⟨fun e L hL => ?_, h.2.1, h.2.2⟩
  by_cases e2 : k = L
  · subst e2; exact getD_set_same m k
  · rw [getD_set_ne true e2]; exact h.1 e L hL
theorem st2_noA (h : st2 Ls A B T m w) (hA : m.getD A true = false) : T false false w := by
  have h2 : m.getD B true = false := by
    cases e : m.getD B true
    · rfl
    · have := h.2.1 e; rw [hA] at this; cases this
  have := h.2.2
  rw [hA, h2] at this
  exact this
theorem st2_load {L : Nat} (hL : L ∈ Ls) (hm : Turn md L o m) (h : st2 Ls A B T m w) : T false false w := by
  refine st2_noA h ?_
  cases e : m.getD A true
  · rfl
  · have := h.1 e L hL; rw [hm.1] at this; cases this
theorem st2_first (hm : Turn md A o m) (h : st2 Ls A B T m w) : T false false w := st2_noA h hm.1
theorem st2_A (hm : Turn md A o m) (hAB : A ≠ B) (hne : A ∉ Ls) (hL : ∀ L ∈ Ls, m.getD L false = true) (h : st2 Ls A B T m w) (hw : T true false w') : st2 Ls A B T (m.setIfInBounds A true) w' := by
  have h2 : m.getD B true = false := by
    cases e : m.getD B true
    · rfl
    · have := h.2.1 e; rw [hm.1] at this; cases this
  unfold st2
  rw [getD_set_same, getD_set_ne true hAB, h2]
  refine ⟨fun _ L hl => ?_, (fun e => by cases e), hw⟩
  rw [getD_set_ne true (fun e => hne (by rw [e]; exact hl))]
  exact getD_up (hL L hl)
theorem st2_mid (hm : Turn md B o m) (hA : m.getD A false = true) (h : st2 Ls A B T m w) : T true false w := by
  have := h.2.2
  rw [hm.1, getD_up hA] at this
  exact this
theorem st2_B (hm : Turn md B o m) (hAB : A ≠ B) (hne : B ∉ Ls) (hA : m.getD A false = true) (h : st2 Ls A B T m w) (hw : T true true w') : st2 Ls A B T (m.setIfInBounds B true) w' := by
  unfold st2
  rw [getD_set_same, getD_set_ne true (Ne.symm hAB), getD_up hA]
  refine ⟨fun _ L hl => ?_, fun _ => rfl, hw⟩
  rw [getD_set_ne true (fun e => hne (by rw [e]; exact hl))]
  exact h.1 (getD_up hA) L hl
end
end Bz
namespace Bz
open Go Bt
set_option linter.unusedVariables false
/-- A REGION THAT DRAWS ITS ORDER, LOADS (Ls) AND, BEHIND THEM, TURNS THE WORLD ONCE, at A -/
def st1 (Ls : List Nat) (A : Nat) (T : Bool → World → Prop) (m : Array Bool) (w : World) : Prop :=
  (m.getD A true = true → ∀ L ∈ Ls, m.getD L true = true) ∧ T (m.getD A true) w
section
variable {Ls : List Nat} {A : Nat} {T : Bool → World → Prop} {m : Array Bool} {w w' : World} {o : Oper} {md : Region.Mode}
theorem st1_start {n : Nat} (hA : A < n) (h : T false w) : st1 Ls A T (upTo n 0) w := by
  unfold st1
  rw [getD_upTo hA]
  simpa using h
theorem st1_end {n k : Nat} (hA : A < n) (hA2 : A < k) (h : st1 Ls A T (upTo n k) w) : T true w := by
  have := h.2
  rw [getD_upTo hA] at this
  simpa [hA2] using this
theorem st1_keep {k : Nat} (hA : k ≠ A) (h : st1 Ls A T m w) : st1 Ls A T (m.setIfInBounds k true) w := by
  unfold st1 at *
  rw [getD_set_ne true hA]
  refine ⟨fun e L hL => ?_, h.2⟩
  by_cases e2 : k = L
  · subst e2; exact getD_set_same m k
  · rw [getD_set_ne true e2]; exact h.1 e L hL
theorem st1_load {L : Nat} (hL : L ∈ Ls) (hm : Turn md L o m) (h : st1 Ls A T m w) : T false w := by
  have h2 : m.getD A true = false := by
    cases e : m.getD A true
    · rfl
    · have := h.1 e L hL; rw [hm.1] at this; cases this
  have := h.2
  rw [h2] at this
  exact this
theorem st1_first (hm : Turn md A o m) (h : st1 Ls A T m w) : T false w := by
  have := h.2
  rw [hm.1] at this
  exact this
/-- another operation, behind A, turns the world too -/
theorem st1_go {k : Nat} (hk : k ≠ A) (hA : m.getD A false = true) (hL : ∀ L ∈ Ls, m.getD L false = true) (hw : T true w') : st1 Ls A T (m.setIfInBounds k true) w' := by
  unfold st1
  rw [getD_set_ne true hk, getD_up hA]
  refine ⟨fun _ L hl => ?_, hw⟩
  by_cases e : k = L
  · subst e; exact getD_set_same m k
  · rw [getD_set_ne true e]; exact getD_up (hL L hl)
theorem st1_A (hne : A ∉ Ls) (hL : ∀ L ∈ Ls, m.getD L false = true) (hw : T true w') : st1 Ls A T (m.setIfInBounds A true) w' := by
  unfold st1
  rw [getD_set_same]
  refine ⟨fun _ L hl => ?_, hw⟩
  rw [getD_set_ne true (fun e => hne (by rw [e]; exact hl))]
  exact getD_up (hL L hl)
end
/-- .. loads (Ls), a value made of them (K), which the world's turn (A) waits for: a composite literal's box -/
def stk (Ls : List Nat) (K A : Nat) (T : Bool → World → Prop) (m : Array Bool) (w : World) : Prop :=
  (m.getD K true = true → ∀ L ∈ Ls, m.getD L true = true) ∧ (m.getD A true = true → m.getD K true = true) ∧ T (m.getD A true) w
section
variable {Ls : List Nat} {K A : Nat} {T : Bool → World → Prop} {m : Array Bool} {w w' : World} {o : Oper} {md : Region.Mode}
theorem stk_start {n : Nat} (hK : K < n) (hA : A < n) (h : T false w) : stk Ls K A T (upTo n 0) w := by
  unfold stk
  rw [getD_upTo hA, getD_upTo hK]
  simpa using h
theorem stk_end {n k : Nat} (hA : A < n) (hA2 : A < k) (h : stk Ls K A T (upTo n k) w) : T true w := by
  have := h.2.2
  rw [getD_upTo hA] at this
  simpa [hA2] using this
theorem stk_keep {k : Nat} (hK : k ≠ K) (hA : k ≠ A) (h : stk Ls K A T m w) : stk Ls K A T (m.setIfInBounds k true) w := by
  unfold stk at *
  rw [getD_set_ne true hA, getD_set_ne true hK]
  refine ⟨fun e L hL => ?_, h.2⟩
  by_cases e2 : k = L
  · subst e2; exact getD_set_same m k
  · rw [getD_set_ne true e2]; exact h.1 e L hL
theorem stk_K (hm : Turn md K o m) (hKA : K ≠ A) (hne : K ∉ Ls) (hL : ∀ L ∈ Ls, m.getD L false = true) (h : stk Ls K A T m w) : stk Ls K A T (m.setIfInBounds K true) w := by
  unfold stk at *
  rw [getD_set_ne true hKA, getD_set_same]
  refine ⟨fun _ L hl => ?_, fun _ => rfl, h.2.2⟩
  rw [getD_set_ne true (fun e => hne (by rw [e]; exact hl))]
  exact getD_up (hL L hl)
theorem stk_load {L : Nat} (hL : L ∈ Ls) (hm : Turn md L o m) (h : stk Ls K A T m w) : T false w := by
  have h1 : m.getD K true = false := by
    cases e : m.getD K true
    · rfl
    · have := h.1 e L hL; rw [hm.1] at this; cases this
  have h2 : m.getD A true = false := by
    cases e : m.getD A true
    · rfl
    · have := h.2.1 e; rw [h1] at this; cases this
  have := h.2.2
  rw [h2] at this
  exact this
theorem stk_first (hm : Turn md A o m) (h : stk Ls K A T m w) : T false w := by
  have := h.2.2
  rw [hm.1] at this
  exact this
theorem stk_A (hne : A ∉ Ls) (hKA : K ≠ A) (hK : m.getD K false = true) (h : stk Ls K A T m w) (hw : T true w') : stk Ls K A T (m.setIfInBounds A true) w' := by
  unfold stk
  rw [getD_set_same, getD_set_ne true (Ne.symm hKA)]
  refine ⟨fun e L hl => ?_, fun _ => getD_up hK, hw⟩
  rw [getD_set_ne true (fun e => hne (by rw [e]; exact hl))]
  exact h.1 (getD_up hK) L hl
end
end Bz
