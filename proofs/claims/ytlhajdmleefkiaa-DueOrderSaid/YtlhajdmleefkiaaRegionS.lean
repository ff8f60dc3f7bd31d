/-
  A REGION THAT DRAWS ITS ORDER, WALKED ONCE, IN THE ORDER OF THE TEXT, WITH ONE OPERATION IN ITS MIDST THAT TURNS THE WORLD (it makes memory) AND THAT MUST WAIT FOR ALL BEFORE IT: the condition on the worlds hangs on what has come up.
-/
import Derived.Test.YtlhajdmleefkiaaRegion
namespace Bs
open Go Bt
set_option linter.unusedVariables false
section
variable {P : Program} {ops : Array Oper} {Q : Exit → Act → World → Prop} {md : Region.Mode} {S : Array Bool → World → Prop}
def LiesA (P : Program) (ops : Array Oper) (S : Array Bool → World → Prop) (o : Oper) (v : Value) (a : Act) : Prop := ∀ l, Lies P ops (S l) o v a

/-- Whether oi's value is there already makes no difference to oj, which is apart from it. -/
theorem wpOp_liesA {j : Nat} {oi oj : Oper} {v : Value} (hj : ops[j]? = some oj) (hap : oi.apart ops oj = true)
    (hsi : ∀ cs b, oi.op ≠ .select cs b) (hsj : ∀ cs b, oj.op ≠ .select cs b)
    (hQ : ∀ c a w, Q (.panic c) (a.put oi.dst v) w → Q (.panic c) a w) {K : Act → World → Prop} {a : Act} {w : World}
    (hy : LiesA P ops S oi v a) (h : wpOp P ops Q j K (a.put oi.dst v) w) :
    wpOp P ops Q j (fun a' w' => LiesA P ops S oi v a' ∧ K (a'.put oi.dst v) w') a w := by
  obtain ⟨h1, h2, h3⟩ := Oper.apart_spec hap
  have keep : ∀ u, LiesA P ops S oi v (a.put oj.dst u) := fun u l => (hy l).same (execOp_put oi hsi a oj.dst u h3) (wanted_put oi a oj.dst u h3)
  have keepD : ∀ d u, LiesA P ops S oi v (Act.put { a with defers := d :: a.defers } oj.dst u) := fun d u l =>
    ((hy l).same (a' := { a with defers := d :: a.defers }) rfl rfl).same (execOp_put oi hsi _ oj.dst u h3) (wanted_put oi _ oj.dst u h3)
  have swap : ∀ u, (a.put oi.dst v).put oj.dst u = (a.put oj.dst u).put oi.dst v := fun u => Act.put_comm a v u h2
  unfold wpOp at *
  simp only [hj] at *
  rw [wanted_put oj a oi.dst v h1] at h
  by_cases hw : Region.wanted oj (yielded ops a.tmps) = true
  · simp only [hw, if_true] at h ⊢
    rcases h with h | ⟨hasks, hlets⟩
    · refine Or.inl ?_
      unfold Oper.wp at *
      rw [execOp_put oj hsj a oi.dst v h1] at h
      generalize (execOp a.eval oj).run P w = r at *
      cases r with
      | ok n w' =>
        cases n <;> simp only [Oper.upon] at h ⊢
        case value u => rw [swap] at h; exact ⟨keep u, h⟩
        case skip => rw [swap] at h; exact ⟨keep _, h⟩
        case defer d =>
          refine ⟨keepD d _, ?_⟩
          rw [← Act.put_comm _ v undef h2, ← Act.put_defers]
          exact h
        case enter f args =>
          refine Calls.mono h fun e w'' he => ?_
          cases e with
          | returned u => simp only at he ⊢; rw [swap] at he; exact ⟨keep u, he⟩
          | panicked c => exact hQ _ _ _ he
          | outgrown => exact he
        case row row args => exact Rows.mono h fun u w'' he => by rw [swap] at he; exact ⟨keep u, he⟩
      | halt x w' =>
        cases x <;> simp only [Oper.upon] at h ⊢
        case panic u => exact hQ _ _ _ h
    · refine Or.inr ⟨?_, hlets⟩
      unfold Oper.asks at *
      rw [execOp_put oj hsj a oi.dst v h1] at hasks
      exact hasks
  · simp only [hw] at h ⊢
    simp only [Bool.false_eq_true, if_false] at h ⊢
    rw [swap] at h
    exact ⟨keep _, h⟩

def anyS (P : Program) (md : Region.Mode) (ops : Array Oper) (Q : Exit → Act → World → Prop) (S : Array Bool → World → Prop) : Nat → Array Bool → Act → Prop
  | 0, listed, a => Region.ready md ops listed = [] ∧ ∀ w, S listed w → Q .normal a w
  | fuel + 1, listed, a =>
    (Region.ready md ops listed = [] → ∀ w, S listed w → Q .normal a w) ∧
    ∀ i ∈ Region.ready md ops listed, ∀ w, S listed w → wpOp P ops Q i (fun a' w' => S (listed.setIfInBounds i true) w' ∧ anyS P md ops Q S fuel (listed.setIfInBounds i true) a') a w

theorem anyS_sound : ∀ (fuel : Nat) (listed : Array Bool) (a : Act), anyS P md ops Q S fuel listed a → ∀ w, S listed w → wpAny P md ops Q fuel listed a w
  | 0, _, _, h, w, hS => ⟨h.1, h.2 w hS⟩
  | fuel + 1, _, _, h, w, hS => ⟨fun h0 => h.1 h0 w hS, fun i hi => wpOp_mono (fun a' w' h' => anyS_sound fuel _ a' h'.2 w' h'.1) (h.2 i hi w hS)⟩

theorem anyS_first {i : Nat} {oi : Oper} {v : Value} (hi : ops[i]? = some oi) (hsel : ∀ (j : Nat) (o : Oper) cs b, ops[j]? = some o → o.op ≠ .select cs b)
    (hQ : ∀ c a w, Q (.panic c) (a.put oi.dst v) w → Q (.panic c) a w) (hSi : ∀ l, S (l.setIfInBounds i true) = S l) :
    ∀ (fuel : Nat) (listed : Array Bool) (a : Act),
      (∀ j oj, ops[j]? = some oj → j ≠ i → listed.getD j true = false → (∀ e ∈ oj.after, Region.binds md e = true → e.on ≠ i) → oi.apart ops oj = true) →
      i ∈ Region.ready md ops listed → LiesA P ops S oi v a →
      anyS P md ops Q S fuel (listed.setIfInBounds i true) (a.put oi.dst v) → anyS P md ops Q S (fuel + 1) listed a := by
  intro fuel
  induction fuel with
  | zero =>
    intro listed a _ hr hy H
    refine ⟨fun h => (by rw [h] at hr; cases hr), fun j hj w hS => ?_⟩
    by_cases hji : j = i
    · subst hji; exact (hy listed).runs hi hS (fun w' hs => ⟨by rw [hSi]; exact hs, H⟩)
    · have := ready_mono hj hji
      rw [H.1] at this
      cases this
  | succ fuel ih =>
    intro listed a hfree hr hy H
    refine ⟨fun h => (by rw [h] at hr; cases hr), fun j hj w hS => ?_⟩
    by_cases hji : j = i
    · subst hji; exact (hy listed).runs hi hS (fun w' hs => ⟨by rw [hSi]; exact hs, H⟩)
    · have h1 := H.2 j (ready_mono hj hji) w (by rw [hSi]; exact hS)
      obtain ⟨hjun, oj, hoj, hall⟩ := mem_ready.1 hj
      have hnot : ∀ e ∈ oj.after, Region.binds md e = true → e.on ≠ i := fun e he hb heq => by
        have h1 := hall e he hb
        have h0 := (mem_ready.1 hr).1
        rw [heq] at h1
        rcases Nat.lt_or_ge i listed.size with h' | h'
        · simp [h'] at h0 h1; rw [h0] at h1; cases h1
        · simp [Array.getElem?_eq_none h'] at h1
      have h2 := wpOp_liesA hoj (hfree j oj hoj hji hjun hnot) (fun cs b => hsel i oi cs b hi) (fun cs b => hsel j oj cs b hoj) hQ hy h1
      refine wpOp_mono (fun a' w' h3 => ⟨?_, ih (listed.setIfInBounds j true) a' (fun k ok hk hki hun hno => ?_) (ready_mono hr (Ne.symm hji)) h3.1 ?_⟩) h2
      · have h4 := h3.2.1
        rw [← Array.setIfInBounds_comm _ _ hji, hSi] at h4
        exact h4
      · refine hfree k ok hk hki ?_ hno
        by_cases hjk : j = k
        · subst hjk; exact hjun
        · rw [getD_set_ne true hjk] at hun; exact hun
      · rw [Array.setIfInBounds_comm _ _ hji]
        exact h3.2.2

/-- In the order of the text: k operations have come up, these are left. -/
def anyR (P : Program) (ops : Array Oper) (Q : Exit → Act → World → Prop) (S : Array Bool → World → Prop) (k : Nat) (rest : List Oper) (a : Act) : Prop :=
  ops.toList.drop k = rest → anyS P .any ops Q S (ops.size - k) (upTo ops.size k) a
theorem anyR_take {k : Nat} {o : Oper} {rest : List Oper} {v : Value} {a : Act} (hc : checkT ops k = true) (hSi : ∀ l, S (l.setIfInBounds k true) = S l)
    (hQ : ∀ c a w, Q (.panic c) (a.put o.dst v) w → Q (.panic c) a w) (hy : LiesA P ops S o v a) (h : anyR P ops Q S (k + 1) rest (a.put o.dst v)) : anyR P ops Q S k (o :: rest) a := fun e => by
  have hi : ops[k]? = some o := by
    rw [← Array.getElem?_toList, ← List.head?_drop, e]
    rfl
  have hk : k < ops.size := (Array.getElem?_eq_some_iff.1 hi).1
  simp only [checkT, Bool.and_eq_true] at hc
  have e2 : ops.size - k = (ops.size - (k + 1)) + 1 := by omega
  rw [e2]
  refine anyS_first hi (Region.noSelect_spec hc.1.1) hQ hSi _ _ _ (Region.free_spec hi hc.1.2) (by simpa using hc.2) hy ?_
  rw [upTo_set]
  refine h ?_
  rw [← List.drop_drop, e]
  rfl
theorem anyR_value {k : Nat} {o : Oper} {rest : List Oper} {v : Value} {a : Act} (hc : checkT ops k = true) (hSi : ∀ l, S (l.setIfInBounds k true) = S l) (hw : Region.wanted o (yielded ops a.tmps) = true)
    (hQ : ∀ c a w, Q (.panic c) (a.put o.dst v) w → Q (.panic c) a w) (hr : ∀ l w, S l w → (execOp a.eval o).run P w = .ok (.value v) w) (h : anyR P ops Q S (k + 1) rest (a.put o.dst v)) : anyR P ops Q S k (o :: rest) a :=
  anyR_take hc hSi hQ (fun l => lies_value hw (hr l)) h
theorem anyR_call {k : Nat} {o : Oper} {rest : List Oper} {v : Value} {a : Act} {f : FuncId} {args : Array Value} (hc : checkT ops k = true) (hSi : ∀ l, S (l.setIfInBounds k true) = S l) (hw : Region.wanted o (yielded ops a.tmps) = true)
    (hQ : ∀ c a w, Q (.panic c) (a.put o.dst v) w → Q (.panic c) a w) (hr : ∀ l w, S l w → (execOp a.eval o).run P w = .ok (.enter f args) w)
    (hk : ∀ l w, S l w → Calls P f args w fun e w' => e = .returned v ∧ S l w') (h : anyR P ops Q S (k + 1) rest (a.put o.dst v)) : anyR P ops Q S k (o :: rest) a :=
  anyR_take hc hSi hQ (fun l => lies_call hw (hr l) (hk l)) h
theorem anyR_done {k : Nat} {a : Act} (hr : Region.ready .any ops (upTo ops.size k) = []) (h : ∀ w, S (upTo ops.size k) w → Q .normal a w) : anyR P ops Q S k [] a := fun _ => by
  cases ops.size - k with
  | zero => exact ⟨hr, h⟩
  | succ n => exact ⟨fun _ => h, by rw [hr]; simp⟩
/-- the one operation that may come up now: it may turn the world -/
theorem anyR_only {k : Nat} {o : Oper} {rest : List Oper} {a : Act} (hc : Region.ready .any ops (upTo ops.size k) = [k]) (hw : Region.wanted o (yielded ops a.tmps) = true)
    (h : ∀ w, S (upTo ops.size k) w → o.wp P a w (fun a' w' => S (upTo ops.size (k + 1)) w' ∧ anyR P ops Q S (k + 1) rest a') Q) : anyR P ops Q S k (o :: rest) a := fun e => by
  have hi : ops[k]? = some o := by
    rw [← Array.getElem?_toList, ← List.head?_drop, e]
    rfl
  have hk : k < ops.size := (Array.getElem?_eq_some_iff.1 hi).1
  have he : ops.toList.drop (k + 1) = rest := by rw [← List.drop_drop, e]; rfl
  have e2 : ops.size - k = (ops.size - (k + 1)) + 1 := by omega
  rw [e2]
  refine ⟨fun h0 => (by rw [hc] at h0; cases h0), fun i hi2 w hS => ?_⟩
  rw [hc] at hi2
  obtain rfl : i = k := by simpa using hi2
  unfold wpOp
  simp only [hi, hw, if_true]
  refine Or.inl (Oper.wp_mono (fun a' w' h' => ?_) (h w hS))
  rw [upTo_set]
  exact ⟨h'.1, h'.2 he⟩
theorem wp_region {id : Nat} {a : Act} {w : World} {l : List Oper} (hm : P.follows .mixedOrders = true) (hS : S (upTo l.toArray.size 0) w.drew) (h : anyR P l.toArray Q S 0 l a) : (Code.region id l.toArray true).wp P Q a w := by
  refine wp_region_any hm ?_
  have h := h rfl
  rw [Nat.sub_zero] at h
  have h2 := anyS_sound _ _ _ h _ hS
  rw [upTo_zero] at h2
  exact h2
/-- two worlds: ahead of operation K, and behind it -/
def two (K : Nat) (wa wb : World) (l : Array Bool) (w : World) : Prop := w = if l.getD K false = true then wb else wa
theorem two_set {K i : Nat} {wa wb : World} (h : i ≠ K) (l : Array Bool) : two K wa wb (l.setIfInBounds i true) = two K wa wb l := by
  funext w
  unfold two
  have e : (l.setIfInBounds i true).getD K false = l.getD K false := by
    simp only [Array.getD_eq_getD_getElem?]
    rw [Array.getElem?_setIfInBounds_ne h]
  rw [e]
theorem two_or {K : Nat} {wa wb : World} {l : Array Bool} {w : World} (h : two K wa wb l w) : w = wa ∨ w = wb := by
  unfold two at h
  split at h
  · exact Or.inr h
  · exact Or.inl h
theorem getD_upTo {n k K : Nat} (hK : K < n) : (upTo n k).getD K false = decide (K < k) := by
  unfold upTo
  simp [hK]
theorem two_ahead {n k K : Nat} {wa wb w : World} (hK : K < n) (h : k ≤ K) : two K wa wb (upTo n k) w ↔ w = wa := by
  unfold two
  rw [getD_upTo hK]
  simp [Nat.not_lt.2 h]
theorem two_behind {n k K : Nat} {wa wb w : World} (hK : K < n) (h : K < k) : two K wa wb (upTo n k) w ↔ w = wb := by
  unfold two
  rw [getD_upTo hK]
  simp [h]
end
end Bs
