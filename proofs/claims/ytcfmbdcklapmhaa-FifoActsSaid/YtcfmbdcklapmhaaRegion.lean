/-
  A REGION THAT DRAWS ITS ORDER, WALKED ONCE, IN THE ORDER OF THE TEXT, WITH ITS CALLS: where every operation, in every world that meets a condition S, yields one and the same value and leaves a world that meets S, the order makes no difference. Calls are met by their contracts, in whatever world that meets S.
-/
import Derived.OrdersHeld
import Derived.WalkKit
namespace Bt
open Go

section
variable {P : Program} {ops : Array Oper} {Q : Exit → Act → World → Prop} {md : Region.Mode} {S : World → Prop}

/-- The run ends with the value v, in a world that meets S. -/
def Lands (P : Program) (S : World → Prop) (v : Value) : Result Next → Prop
  | .ok (.value u) w' => u = v ∧ S w'
  | .ok .skip w' => v = undef ∧ S w'
  | .ok (.enter f args) w' => Calls P f args w' fun e w'' => e = .returned v ∧ S w''
  | _ => False

theorem lands_value {v : Value} {w : World} (h : S w) : Lands P S v (.ok (.value v) w) := ⟨rfl, h⟩

/-- In state a, in every world that meets S, operation o leaves v in its temporary. -/
def Lies (P : Program) (ops : Array Oper) (S : World → Prop) (o : Oper) (v : Value) (a : Act) : Prop :=
  (Region.wanted o (yielded ops a.tmps) = true ∧ ∀ w, S w → Lands P S v ((execOp a.eval o).run P w)) ∨
  (Region.wanted o (yielded ops a.tmps) = false ∧ v = undef)

theorem Lies.same {o : Oper} {v : Value} {a a' : Act} (hy : Lies P ops S o v a) (he : execOp a'.eval o = execOp a.eval o)
    (hw : Region.wanted o (yielded ops a'.tmps) = Region.wanted o (yielded ops a.tmps)) : Lies P ops S o v a' := by
  unfold Lies at *
  rw [he, hw]
  exact hy

theorem Lies.runs {i : Nat} {o : Oper} {v : Value} {a : Act} (hi : ops[i]? = some o) (hy : Lies P ops S o v a)
    {K : Act → World → Prop} {w : World} (hS : S w) (h : ∀ w', S w' → K (a.put o.dst v) w') : wpOp P ops Q i K a w := by
  unfold wpOp
  simp only [hi]
  rcases hy with ⟨hw, hv⟩ | ⟨hw, rfl⟩
  · have hl := hv w hS
    simp only [hw, if_true, Oper.wp]
    refine Or.inl ?_
    generalize (execOp a.eval o).run P w = r at hl
    cases r with
    | ok n w' =>
      cases n <;> simp only [Lands] at hl <;> simp only [Oper.upon]
      case value u => obtain ⟨rfl, hs⟩ := hl; exact h _ hs
      case skip => obtain ⟨rfl, hs⟩ := hl; exact h _ hs
      case enter f args =>
        refine Calls.mono hl fun e w'' he => ?_
        obtain ⟨rfl, hs⟩ := he
        exact h _ hs
    | halt x w' => exact hl.elim
  · simp only [hw, Bool.false_eq_true, if_false]; exact h w hS

/-- Whether oi's value is there already makes no difference to oj, which is apart from it. -/
theorem wpOp_lies {j : Nat} {oi oj : Oper} {v : Value} (hj : ops[j]? = some oj) (hap : oi.apart ops oj = true)
    (hsi : ∀ cs b, oi.op ≠ .select cs b) (hsj : ∀ cs b, oj.op ≠ .select cs b)
    (hQ : ∀ c a w, Q (.panic c) (a.put oi.dst v) w → Q (.panic c) a w) {K : Act → World → Prop} {a : Act} {w : World}
    (hy : Lies P ops S oi v a) (h : wpOp P ops Q j K (a.put oi.dst v) w) :
    wpOp P ops Q j (fun a' w' => Lies P ops S oi v a' ∧ K (a'.put oi.dst v) w') a w := by
  obtain ⟨h1, h2, h3⟩ := Oper.apart_spec hap
  have keep : ∀ u, Lies P ops S oi v (a.put oj.dst u) := fun u => hy.same (execOp_put oi hsi a oj.dst u h3) (wanted_put oi a oj.dst u h3)
  have keepD : ∀ d u, Lies P ops S oi v (Act.put { a with defers := d :: a.defers } oj.dst u) := fun d u =>
    (hy.same (a' := { a with defers := d :: a.defers }) rfl rfl).same (execOp_put oi hsi _ oj.dst u h3) (wanted_put oi _ oj.dst u h3)
  have swap : ∀ u, (a.put oi.dst v).put oj.dst u = (a.put oj.dst u).put oi.dst v := fun u => Act.put_comm a v u h2
  unfold wpOp at *
  simp only [hj] at *
  rw [wanted_put oj a oi.dst v h1] at h
  by_cases hw : Region.wanted oj (yielded ops a.tmps) = true
  · simp only [hw, if_true] at h ⊢
    rcases h with h | ⟨hasks, hlets⟩
    · refine Or.inl ?_
      unfold Oper.wp at *
      rw [execOp_put oj hsj a oi.dst v h1] at h
      generalize (execOp a.eval oj).run P w = r at *
      cases r with
      | ok n w' =>
        cases n <;> simp only [Oper.upon] at h ⊢
        case value u => rw [swap] at h; exact ⟨keep u, h⟩
        case skip => rw [swap] at h; exact ⟨keep _, h⟩
        case defer d =>
          refine ⟨keepD d _, ?_⟩
          rw [← Act.put_comm _ v undef h2, ← Act.put_defers]
          exact h
        case enter f args =>
          refine Calls.mono h fun e w'' he => ?_
          cases e with
          | returned u => simp only at he ⊢; rw [swap] at he; exact ⟨keep u, he⟩
          | panicked c => exact hQ _ _ _ he
          | outgrown => exact he
        case row row args => exact Rows.mono h fun u w'' he => by rw [swap] at he; exact ⟨keep u, he⟩
      | halt x w' =>
        cases x <;> simp only [Oper.upon] at h ⊢
        case panic u => exact hQ _ _ _ h
    · refine Or.inr ⟨?_, hlets⟩
      unfold Oper.asks at *
      rw [execOp_put oj hsj a oi.dst v h1] at hasks
      exact hasks
  · simp only [hw] at h ⊢
    simp only [Bool.false_eq_true, if_false] at h ⊢
    rw [swap] at h
    exact ⟨keep _, h⟩

/-- Whatever order is picked from here on, in every world that meets S, S is met behind every operation. -/
def anyU (P : Program) (md : Region.Mode) (ops : Array Oper) (Q : Exit → Act → World → Prop) (S : World → Prop) : Nat → Array Bool → Act → Prop
  | 0, listed, a => Region.ready md ops listed = [] ∧ ∀ w, S w → Q .normal a w
  | fuel + 1, listed, a =>
    (Region.ready md ops listed = [] → ∀ w, S w → Q .normal a w) ∧
    ∀ i ∈ Region.ready md ops listed, ∀ w, S w → wpOp P ops Q i (fun a' w' => S w' ∧ anyU P md ops Q S fuel (listed.setIfInBounds i true) a') a w

theorem anyU_sound : ∀ (fuel : Nat) (listed : Array Bool) (a : Act), anyU P md ops Q S fuel listed a → ∀ w, S w → wpAny P md ops Q fuel listed a w
  | 0, _, _, h, w, hS => ⟨h.1, h.2 w hS⟩
  | fuel + 1, _, _, h, w, hS => ⟨fun h0 => h.1 h0 w hS, fun i hi => wpOp_mono (fun a' w' h' => anyU_sound fuel _ a' h'.2 w' h'.1) (h.2 i hi w hS)⟩

theorem anyU_first {i : Nat} {oi : Oper} {v : Value} (hi : ops[i]? = some oi) (hsel : ∀ (j : Nat) (o : Oper) cs b, ops[j]? = some o → o.op ≠ .select cs b)
    (hQ : ∀ c a w, Q (.panic c) (a.put oi.dst v) w → Q (.panic c) a w) :
    ∀ (fuel : Nat) (listed : Array Bool) (a : Act),
      (∀ j oj, ops[j]? = some oj → j ≠ i → listed.getD j true = false → (∀ e ∈ oj.after, Region.binds md e = true → e.on ≠ i) → oi.apart ops oj = true) →
      i ∈ Region.ready md ops listed → Lies P ops S oi v a →
      anyU P md ops Q S fuel (listed.setIfInBounds i true) (a.put oi.dst v) → anyU P md ops Q S (fuel + 1) listed a := by
  intro fuel
  induction fuel with
  | zero =>
    intro listed a _ hr hy H
    refine ⟨fun h => (by rw [h] at hr; cases hr), fun j hj w hS => ?_⟩
    by_cases hji : j = i
    · subst hji; exact hy.runs hi hS (fun w' hs => ⟨hs, H⟩)
    · have := ready_mono hj hji
      rw [H.1] at this
      cases this
  | succ fuel ih =>
    intro listed a hfree hr hy H
    refine ⟨fun h => (by rw [h] at hr; cases hr), fun j hj w hS => ?_⟩
    by_cases hji : j = i
    · subst hji; exact hy.runs hi hS (fun w' hs => ⟨hs, H⟩)
    · have h1 := H.2 j (ready_mono hj hji) w hS
      obtain ⟨hjun, oj, hoj, hall⟩ := mem_ready.1 hj
      have hnot : ∀ e ∈ oj.after, Region.binds md e = true → e.on ≠ i := fun e he hb heq => by
        have h1 := hall e he hb
        have h0 := (mem_ready.1 hr).1
        rw [heq] at h1
        rcases Nat.lt_or_ge i listed.size with h' | h'
        · simp [h'] at h0 h1; rw [h0] at h1; cases h1
        · simp [Array.getElem?_eq_none h'] at h1
      have h2 := wpOp_lies hoj (hfree j oj hoj hji hjun hnot) (fun cs b => hsel i oi cs b hi) (fun cs b => hsel j oj cs b hoj) hQ hy h1
      refine wpOp_mono (fun a' w' h3 => ⟨h3.2.1, ih (listed.setIfInBounds j true) a' (fun k ok hk hki hun hno => ?_) (ready_mono hr (Ne.symm hji)) h3.1 ?_⟩) h2
      · refine hfree k ok hk hki ?_ hno
        by_cases hjk : j = k
        · subst hjk; exact hjun
        · rw [getD_set_ne true hjk] at hun; exact hun
      · rw [Array.setIfInBounds_comm _ _ hji]
        exact h3.2.2

/-- The first k of n have come up. -/
def upTo (n k : Nat) : Array Bool := ((List.range n).map fun i => decide (i < k)).toArray
theorem upTo_zero (n : Nat) : upTo n 0 = Array.replicate n false := by
  apply Array.ext'
  simp only [upTo, Nat.not_lt_zero, decide_false, Array.toList_replicate]
  rw [List.map_const', List.length_range]
theorem upTo_set (n k : Nat) : (upTo n k).setIfInBounds k true = upTo n (k + 1) := by
  apply Array.ext
  · simp [upTo]
  · intro i h1 h2
    simp only [upTo, List.setIfInBounds_toArray, List.getElem_toArray, List.getElem_set, List.getElem_map, List.getElem_range]
    by_cases h : k = i
    · subst h; simp
    · rw [if_neg h]
      apply decide_eq_decide.2
      omega

/-- In the order of the text: the first k operations have come up. -/
def anyT (P : Program) (ops : Array Oper) (Q : Exit → Act → World → Prop) (S : World → Prop) (k : Nat) (a : Act) : Prop :=
  anyU P .any ops Q S (ops.size - k) (upTo ops.size k) a
def checkT (ops : Array Oper) (k : Nat) : Bool :=
  Region.noSelect ops && Region.free .any ops (upTo ops.size k) k && (Region.ready .any ops (upTo ops.size k)).contains k

theorem anyT_take {k : Nat} {o : Oper} {v : Value} {a : Act} (hi : ops[k]? = some o) (hc : checkT ops k = true)
    (hQ : ∀ c a w, Q (.panic c) (a.put o.dst v) w → Q (.panic c) a w) (hy : Lies P ops S o v a) (h : anyT P ops Q S (k + 1) (a.put o.dst v)) : anyT P ops Q S k a := by
  have hk : k < ops.size := (Array.getElem?_eq_some_iff.1 hi).1
  simp only [checkT, Bool.and_eq_true] at hc
  have e : ops.size - k = (ops.size - (k + 1)) + 1 := by omega
  unfold anyT
  rw [e]
  refine anyU_first hi (Region.noSelect_spec hc.1.1) hQ _ _ _ (Region.free_spec hi hc.1.2) (by simpa using hc.2) hy ?_
  rw [upTo_set]
  exact h
theorem anyT_done {k : Nat} {a : Act} (hr : Region.ready .any ops (upTo ops.size k) = []) (h : ∀ w, S w → Q .normal a w) : anyT P ops Q S k a := by
  unfold anyT
  cases ops.size - k with
  | zero => exact ⟨hr, h⟩
  | succ n => exact ⟨fun _ => h, by rw [hr]; simp⟩
theorem lies_value {o : Oper} {v : Value} {a : Act} (hw : Region.wanted o (yielded ops a.tmps) = true) (h : ∀ w, S w → (execOp a.eval o).run P w = .ok (.value v) w) : Lies P ops S o v a :=
  Or.inl ⟨hw, fun w hS => by rw [h w hS]; exact ⟨rfl, hS⟩⟩
theorem lies_call {o : Oper} {v : Value} {a : Act} {f : FuncId} {args : Array Value} (hw : Region.wanted o (yielded ops a.tmps) = true) (h : ∀ w, S w → (execOp a.eval o).run P w = .ok (.enter f args) w)
    (hc : ∀ w, S w → Calls P f args w fun e w' => e = .returned v ∧ S w') : Lies P ops S o v a :=
  Or.inl ⟨hw, fun w hS => by rw [h w hS]; exact hc w hS⟩

/-- In the order of the text: k operations have come up, these are left. -/
def anyR (P : Program) (ops : Array Oper) (Q : Exit → Act → World → Prop) (S : World → Prop) (k : Nat) (rest : List Oper) (a : Act) : Prop :=
  ops.toList.drop k = rest → anyT P ops Q S k a
theorem anyR_take {k : Nat} {o : Oper} {rest : List Oper} {v : Value} {a : Act} (hc : checkT ops k = true)
    (hQ : ∀ c a w, Q (.panic c) (a.put o.dst v) w → Q (.panic c) a w) (hy : Lies P ops S o v a) (h : anyR P ops Q S (k + 1) rest (a.put o.dst v)) : anyR P ops Q S k (o :: rest) a := fun e => by
  have hi : ops[k]? = some o := by
    rw [← Array.getElem?_toList, ← List.head?_drop, e]
    rfl
  refine anyT_take hi hc hQ hy (h ?_)
  rw [← List.drop_drop, e]
  rfl
/-- .. an operation that its guard leaves out -/
theorem anyR_not {k : Nat} {o : Oper} {rest : List Oper} {a : Act} (hc : checkT ops k = true) (hw : Region.wanted o (yielded ops a.tmps) = false)
    (hQ : ∀ c a w, Q (.panic c) (a.put o.dst undef) w → Q (.panic c) a w) (h : anyR P ops Q S (k + 1) rest (a.put o.dst undef)) : anyR P ops Q S k (o :: rest) a :=
  anyR_take hc hQ (Or.inr ⟨hw, rfl⟩) h
/-- .. one that yields a value -/
theorem anyR_value {k : Nat} {o : Oper} {rest : List Oper} {v : Value} {a : Act} (hc : checkT ops k = true) (hw : Region.wanted o (yielded ops a.tmps) = true)
    (hQ : ∀ c a w, Q (.panic c) (a.put o.dst v) w → Q (.panic c) a w) (hr : ∀ w, S w → (execOp a.eval o).run P w = .ok (.value v) w) (h : anyR P ops Q S (k + 1) rest (a.put o.dst v)) : anyR P ops Q S k (o :: rest) a :=
  anyR_take hc hQ (lies_value hw hr) h
/-- .. a call of a function that has a contract -/
theorem anyR_call {k : Nat} {o : Oper} {rest : List Oper} {v : Value} {a : Act} {f : FuncId} {args : Array Value} (hc : checkT ops k = true) (hw : Region.wanted o (yielded ops a.tmps) = true)
    (hQ : ∀ c a w, Q (.panic c) (a.put o.dst v) w → Q (.panic c) a w) (hr : ∀ w, S w → (execOp a.eval o).run P w = .ok (.enter f args) w)
    (hk : ∀ w, S w → Calls P f args w fun e w' => e = .returned v ∧ S w') (h : anyR P ops Q S (k + 1) rest (a.put o.dst v)) : anyR P ops Q S k (o :: rest) a :=
  anyR_take hc hQ (lies_call hw hr hk) h
theorem anyR_done {k : Nat} {a : Act} (hr : Region.ready .any ops (upTo ops.size k) = []) (h : ∀ w, S w → Q .normal a w) : anyR P ops Q S k [] a := fun _ => anyT_done hr h
theorem wp_region_text {id : Nat} {a : Act} {w : World} {l : List Oper} (hm : P.follows .mixedOrders = true) (hS : S w.drew) (h : anyR P l.toArray Q S 0 l a) : (Code.region id l.toArray true).wp P Q a w := by
  refine wp_region_any hm ?_
  have h := h rfl
  unfold anyT at h
  rw [Nat.sub_zero, upTo_zero] at h
  exact anyU_sound _ _ _ h _ hS

/-! ### From one world on: operations that must come next are run in place, and S is chosen anew behind them -/
def anyW (P : Program) (ops : Array Oper) (Q : Exit → Act → World → Prop) (k : Nat) (rest : List Oper) (a : Act) (w : World) : Prop :=
  ops.toList.drop k = rest → wpAny P .any ops Q (ops.size - k) (upTo ops.size k) a w
theorem anyW_text {k : Nat} {rest : List Oper} {a : Act} {w : World} (hS : S w) (h : anyR P ops Q S k rest a) : anyW P ops Q k rest a w := fun e => anyU_sound _ _ _ (h e) w hS
theorem drop_get {k : Nat} {o : Oper} {rest : List Oper} (e : ops.toList.drop k = o :: rest) : ops[k]? = some o ∧ ops.toList.drop (k + 1) = rest := by
  refine ⟨?_, ?_⟩
  · rw [← Array.getElem?_toList, ← List.head?_drop, e]
    rfl
  · rw [← List.drop_drop, e]
    rfl
/-- an operation that yields its value in whatever world -/
theorem anyW_pure {k : Nat} {o : Oper} {rest : List Oper} {v : Value} {a : Act} {w : World} (hc : checkT ops k = true) (hw : Region.wanted o (yielded ops a.tmps) = true)
    (hQ : ∀ c a w, Q (.panic c) (a.put o.dst v) w → Q (.panic c) a w) (hr : ∀ w, (execOp a.eval o).run P w = .ok (.value v) w) (h : anyW P ops Q (k + 1) rest (a.put o.dst v) w) : anyW P ops Q k (o :: rest) a w := fun e => by
  obtain ⟨hi, he⟩ := drop_get e
  have hk : k < ops.size := (Array.getElem?_eq_some_iff.1 hi).1
  simp only [checkT, Bool.and_eq_true] at hc
  have e2 : ops.size - k = (ops.size - (k + 1)) + 1 := by omega
  rw [e2]
  refine wpAny_take hi hc.1.1 hc.1.2 (by simpa using hc.2) hQ (Or.inl ⟨hw, hr⟩) ?_
  rw [upTo_set]
  exact h he
/-- the one operation that may come up now -/
theorem anyW_only {k : Nat} {o : Oper} {rest : List Oper} {a : Act} {w : World} (hc : Region.ready .any ops (upTo ops.size k) = [k]) (hw : Region.wanted o (yielded ops a.tmps) = true)
    (h : o.wp P a w (fun a' w' => anyW P ops Q (k + 1) rest a' w') Q) : anyW P ops Q k (o :: rest) a w := fun e => by
  obtain ⟨hi, he⟩ := drop_get e
  have hk : k < ops.size := (Array.getElem?_eq_some_iff.1 hi).1
  have e2 : ops.size - k = (ops.size - (k + 1)) + 1 := by omega
  rw [e2]
  refine ⟨fun h0 => (by rw [hc] at h0; cases h0), fun i hi2 => ?_⟩
  rw [hc] at hi2
  obtain rfl : i = k := by simpa using hi2
  unfold wpOp
  simp only [hi, hw, if_true]
  refine Or.inl (Oper.wp_mono (fun a' w' h' => ?_) h)
  rw [upTo_set]
  exact h' he
theorem wp_region_world {id : Nat} {a : Act} {w : World} {l : List Oper} (hm : P.follows .mixedOrders = true) (h : anyW P l.toArray Q 0 l a w.drew) : (Code.region id l.toArray true).wp P Q a w := by
  refine wp_region_any hm ?_
  have h := h rfl
  rw [Nat.sub_zero, upTo_zero] at h
  exact h
end
end Bt
