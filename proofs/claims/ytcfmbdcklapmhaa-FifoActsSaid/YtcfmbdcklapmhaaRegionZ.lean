/-
  A REGION THAT DRAWS ITS ORDER, WALKED ONCE, IN THE ORDER OF THE TEXT, WITH OPERATIONS THAT TURN THE WORLD: S m: the worlds in which just the operations of m have come up; each operation, wherever those before it (in the region's own order) have come up and it has not, yields one value and leads from S m to S (m with it).
-/
import Derived.Test.YtcfmbdcklapmhaaRegion
namespace Bz
open Go Bt
set_option linter.unusedVariables false
section
variable {P : Program} {ops : Array Oper} {Q : Exit → Act → World → Prop} {md : Region.Mode} {S : Array Bool → World → Prop}
/-- those before it have come up, it has not -/
def Turn (md : Region.Mode) (i : Nat) (o : Oper) (m : Array Bool) : Prop := m.getD i true = false ∧ ∀ e ∈ o.after, Region.binds md e = true → m.getD e.on false = true
def LiesZ (P : Program) (md : Region.Mode) (ops : Array Oper) (S : Array Bool → World → Prop) (i : Nat) (o : Oper) (v : Value) (a : Act) : Prop :=
  (Region.wanted o (yielded ops a.tmps) = true ∧ ∀ m, Turn md i o m → ∀ w, S m w → Lands P (S (m.setIfInBounds i true)) v ((execOp a.eval o).run P w)) ∨
  (Region.wanted o (yielded ops a.tmps) = false ∧ v = undef ∧ ∀ m, Turn md i o m → ∀ w, S m w → S (m.setIfInBounds i true) w)
theorem LiesZ.same {i : Nat} {o : Oper} {v : Value} {a a' : Act} (hy : LiesZ P md ops S i o v a) (he : execOp a'.eval o = execOp a.eval o)
    (hw : Region.wanted o (yielded ops a'.tmps) = Region.wanted o (yielded ops a.tmps)) : LiesZ P md ops S i o v a' := by
  unfold LiesZ at *
  rw [he, hw]
  exact hy
theorem LiesZ.runs {i : Nat} {o : Oper} {v : Value} {a : Act} {m : Array Bool} (hi : ops[i]? = some o) (hy : LiesZ P md ops S i o v a) (hm : Turn md i o m)
    {K : Act → World → Prop} {w : World} (hS : S m w) (h : ∀ w', S (m.setIfInBounds i true) w' → K (a.put o.dst v) w') : wpOp P ops Q i K a w := by
  unfold wpOp
  simp only [hi]
  rcases hy with ⟨hw, hv⟩ | ⟨hw, rfl, hv⟩
  · have hl := hv m hm w hS
    simp only [hw, if_true, Oper.wp]
    refine Or.inl ?_
    generalize (execOp a.eval o).run P w = r at hl
    cases r with
    | ok n w' =>
      cases n <;> simp only [Lands] at hl <;> simp only [Oper.upon]
      case value u => obtain ⟨rfl, hs⟩ := hl; exact h _ hs
      case skip => obtain ⟨rfl, hs⟩ := hl; exact h _ hs
      case enter f args =>
        refine Calls.mono hl fun e w'' he => ?_
        obtain ⟨rfl, hs⟩ := he
        exact h _ hs
    | halt x w' => exact hl.elim
  · simp only [hw, Bool.false_eq_true, if_false]; exact h w (hv m hm w hS)

/-- Whether oi's value is there already makes no difference to oj, which is apart from it. -/
theorem wpOp_liesZ {i j : Nat} {oi oj : Oper} {v : Value} (hj : ops[j]? = some oj) (hap : oi.apart ops oj = true)
    (hsi : ∀ cs b, oi.op ≠ .select cs b) (hsj : ∀ cs b, oj.op ≠ .select cs b)
    (hQ : ∀ c a w, Q (.panic c) (a.put oi.dst v) w → Q (.panic c) a w) {K : Act → World → Prop} {a : Act} {w : World}
    (hy : LiesZ P md ops S i oi v a) (h : wpOp P ops Q j K (a.put oi.dst v) w) :
    wpOp P ops Q j (fun a' w' => LiesZ P md ops S i oi v a' ∧ K (a'.put oi.dst v) w') a w := by
  obtain ⟨h1, h2, h3⟩ := Oper.apart_spec hap
  have keep : ∀ u, LiesZ P md ops S i oi v (a.put oj.dst u) := fun u => hy.same (execOp_put oi hsi a oj.dst u h3) (wanted_put oi a oj.dst u h3)
  have keepD : ∀ d u, LiesZ P md ops S i oi v (Act.put { a with defers := d :: a.defers } oj.dst u) := fun d u =>
    (hy.same (a' := { a with defers := d :: a.defers }) rfl rfl).same (execOp_put oi hsi _ oj.dst u h3) (wanted_put oi _ oj.dst u h3)
  have swap : ∀ u, (a.put oi.dst v).put oj.dst u = (a.put oj.dst u).put oi.dst v := fun u => Act.put_comm a v u h2
  unfold wpOp at *
  simp only [hj] at *
  rw [wanted_put oj a oi.dst v h1] at h
  by_cases hw : Region.wanted oj (yielded ops a.tmps) = true
  · simp only [hw, if_true] at h ⊢
    rcases h with h | ⟨hasks, hlets⟩
    · refine Or.inl ?_
      unfold Oper.wp at *
      rw [execOp_put oj hsj a oi.dst v h1] at h
      generalize (execOp a.eval oj).run P w = r at *
      cases r with
      | ok n w' =>
        cases n <;> simp only [Oper.upon] at h ⊢
        case value u => rw [swap] at h; exact ⟨keep u, h⟩
        case skip => rw [swap] at h; exact ⟨keep _, h⟩
        case defer d =>
          refine ⟨keepD d _, ?_⟩
          rw [← Act.put_comm _ v undef h2, ← Act.put_defers]
          exact h
        case enter f args =>
          refine Calls.mono h fun e w'' he => ?_
          cases e with
          | returned u => simp only at he ⊢; rw [swap] at he; exact ⟨keep u, he⟩
          | panicked c => exact hQ _ _ _ he
          | outgrown => exact he
        case row row args => exact Rows.mono h fun u w'' he => by rw [swap] at he; exact ⟨keep u, he⟩
      | halt x w' =>
        cases x <;> simp only [Oper.upon] at h ⊢
        case panic u => exact hQ _ _ _ h
    · refine Or.inr ⟨?_, hlets⟩
      unfold Oper.asks at *
      rw [execOp_put oj hsj a oi.dst v h1] at hasks
      exact hasks
  · simp only [hw] at h ⊢
    simp only [Bool.false_eq_true, if_false] at h ⊢
    rw [swap] at h
    exact ⟨keep _, h⟩

/-- m is no more than what is listed -/
def Sub (m listed : Array Bool) : Prop := ∀ k, listed.getD k true = false → m.getD k true = false
def anyZ (P : Program) (md : Region.Mode) (ops : Array Oper) (Q : Exit → Act → World → Prop) (S : Array Bool → World → Prop) : Nat → Array Bool → Act → Prop
  | 0, listed, a => Region.ready md ops listed = [] ∧ ∀ w, S listed w → Q .normal a w
  | fuel + 1, listed, a =>
    (Region.ready md ops listed = [] → ∀ w, S listed w → Q .normal a w) ∧
    ∀ i ∈ Region.ready md ops listed, ∀ o, ops[i]? = some o → ∀ m, Sub m listed → Turn md i o m → ∀ w, S m w → wpOp P ops Q i (fun a' w' => S (m.setIfInBounds i true) w' ∧ anyZ P md ops Q S fuel (listed.setIfInBounds i true) a') a w
theorem turn_ready {i : Nat} {o : Oper} {listed : Array Bool} (hi : ops[i]? = some o) (h : i ∈ Region.ready md ops listed) : Turn md i o listed := by
  obtain ⟨h1, oj, h2, h3⟩ := mem_ready.1 h
  rw [hi] at h2
  injection h2 with h2
  subst h2
  refine ⟨h1, fun e he hb => ?_⟩
  exact h3 e he hb
theorem ready_some {i : Nat} {listed : Array Bool} (h : i ∈ Region.ready md ops listed) : ∃ o, ops[i]? = some o := by
  obtain ⟨h1, oj, h2, h3⟩ := mem_ready.1 h
  exact ⟨oj, h2⟩
theorem anyZ_sound : ∀ (fuel : Nat) (listed : Array Bool) (a : Act), anyZ P md ops Q S fuel listed a → ∀ w, S listed w → wpAny P md ops Q fuel listed a w
  | 0, _, _, h, w, hS => ⟨h.1, h.2 w hS⟩
  | fuel + 1, listed, _, h, w, hS => ⟨fun h0 => h.1 h0 w hS, fun i hi => by
    obtain ⟨o, ho⟩ := ready_some hi
    exact wpOp_mono (fun a' w' h' => anyZ_sound fuel _ a' h'.2 w' h'.1) (h.2 i hi o ho listed (fun _ e => e) (turn_ready ho hi) w hS)⟩
theorem anyZ_first {i : Nat} {oi : Oper} {v : Value} (hi : ops[i]? = some oi) (hsel : ∀ (j : Nat) (o : Oper) cs b, ops[j]? = some o → o.op ≠ .select cs b)
    (hQ : ∀ c a w, Q (.panic c) (a.put oi.dst v) w → Q (.panic c) a w) :
    ∀ (fuel : Nat) (listed : Array Bool) (a : Act),
      (∀ j oj, ops[j]? = some oj → j ≠ i → listed.getD j true = false → (∀ e ∈ oj.after, Region.binds md e = true → e.on ≠ i) → oi.apart ops oj = true) →
      i ∈ Region.ready md ops listed → LiesZ P md ops S i oi v a →
      anyZ P md ops Q S fuel (listed.setIfInBounds i true) (a.put oi.dst v) → anyZ P md ops Q S (fuel + 1) listed a := by
  intro fuel
  induction fuel with
  | zero =>
    intro listed a _ hr hy H
    refine ⟨fun h => (by rw [h] at hr; cases hr), fun j hj o ho m hsub hm w hS => ?_⟩
    by_cases hji : j = i
    · subst hji
      rw [hi] at ho
      injection ho with ho
      subst ho
      exact hy.runs hi hm hS (fun w' hs => ⟨hs, H⟩)
    · have := ready_mono hj hji
      rw [H.1] at this
      cases this
  | succ fuel ih =>
    intro listed a hfree hr hy H
    refine ⟨fun h => (by rw [h] at hr; cases hr), fun j hj o ho m hsub hm w hS => ?_⟩
    by_cases hji : j = i
    · subst hji
      rw [hi] at ho
      injection ho with ho
      subst ho
      exact hy.runs hi hm hS (fun w' hs => ⟨hs, H⟩)
    · have h1 := H.2 j (ready_mono hj hji) o ho m (fun k hk => hsub k (by
        by_cases hik : i = k
        · subst hik
          exact (mem_ready.1 hr).1
        · rw [getD_set_ne true hik] at hk; exact hk)) hm w hS
      obtain ⟨hjun, oj, hoj, hall⟩ := mem_ready.1 hj
      have hnot : ∀ e ∈ oj.after, Region.binds md e = true → e.on ≠ i := fun e he hb heq => by
        have h1 := hall e he hb
        have h0 := (mem_ready.1 hr).1
        rw [heq] at h1
        rcases Nat.lt_or_ge i listed.size with h' | h'
        · simp [h'] at h0 h1; rw [h0] at h1; cases h1
        · simp [Array.getElem?_eq_none h'] at h1
      have h2 := wpOp_liesZ hoj (hfree j oj hoj hji hjun hnot) (fun cs b => hsel i oi cs b hi) (fun cs b => hsel j oj cs b hoj) hQ hy h1
      refine wpOp_mono (fun a' w' h3 => ⟨h3.2.1, ih (listed.setIfInBounds j true) a' (fun k ok hk hki hun hno => ?_) (ready_mono hr (Ne.symm hji)) h3.1 ?_⟩) h2
      · refine hfree k ok hk hki ?_ hno
        by_cases hjk : j = k
        · subst hjk; exact hjun
        · rw [getD_set_ne true hjk] at hun; exact hun
      · rw [Array.setIfInBounds_comm _ _ hji]
        exact h3.2.2

/-- In the order of the text: k operations have come up, these are left. -/
def anyR (P : Program) (ops : Array Oper) (Q : Exit → Act → World → Prop) (S : Array Bool → World → Prop) (k : Nat) (rest : List Oper) (a : Act) : Prop :=
  ops.toList.drop k = rest → anyZ P .any ops Q S (ops.size - k) (upTo ops.size k) a
theorem anyR_take {k : Nat} {o : Oper} {rest : List Oper} {v : Value} {a : Act} (hc : checkT ops k = true)
    (hQ : ∀ c a w, Q (.panic c) (a.put o.dst v) w → Q (.panic c) a w) (hy : LiesZ P .any ops S k o v a) (h : anyR P ops Q S (k + 1) rest (a.put o.dst v)) : anyR P ops Q S k (o :: rest) a := fun e => by
  have hi : ops[k]? = some o := by
    rw [← Array.getElem?_toList, ← List.head?_drop, e]
    rfl
  have hk : k < ops.size := (Array.getElem?_eq_some_iff.1 hi).1
  simp only [checkT, Bool.and_eq_true] at hc
  have e2 : ops.size - k = (ops.size - (k + 1)) + 1 := by omega
  rw [e2]
  refine anyZ_first hi (Region.noSelect_spec hc.1.1) hQ _ _ _ (Region.free_spec hi hc.1.2) (by simpa using hc.2) hy ?_
  rw [upTo_set]
  refine h ?_
  rw [← List.drop_drop, e]
  rfl
/-- .. one that yields a value and leaves the world as it is -/
theorem anyR_value {k : Nat} {o : Oper} {rest : List Oper} {v : Value} {a : Act} (hc : checkT ops k = true) (hS : ∀ m w, Turn .any k o m → S m w → S (m.setIfInBounds k true) w) (hw : Region.wanted o (yielded ops a.tmps) = true)
    (hQ : ∀ c a w, Q (.panic c) (a.put o.dst v) w → Q (.panic c) a w) (hr : ∀ m w, Turn .any k o m → S m w → (execOp a.eval o).run P w = .ok (.value v) w) (h : anyR P ops Q S (k + 1) rest (a.put o.dst v)) : anyR P ops Q S k (o :: rest) a :=
  anyR_take hc hQ (Or.inl ⟨hw, fun m hm w hs => by rw [hr m w hm hs]; exact ⟨rfl, hS m w hm hs⟩⟩) h
/-- .. an operation that its guard leaves out -/
theorem anyR_not {k : Nat} {o : Oper} {rest : List Oper} {a : Act} (hc : checkT ops k = true) (hS : ∀ m w, Turn .any k o m → S m w → S (m.setIfInBounds k true) w) (hw : Region.wanted o (yielded ops a.tmps) = false)
    (hQ : ∀ c a w, Q (.panic c) (a.put o.dst undef) w → Q (.panic c) a w) (h : anyR P ops Q S (k + 1) rest (a.put o.dst undef)) : anyR P ops Q S k (o :: rest) a :=
  anyR_take hc hQ (Or.inr ⟨hw, rfl, fun m hm w hs => hS m w hm hs⟩) h
/-- .. one that yields a value and turns the world -/
theorem anyR_turn {k : Nat} {o : Oper} {rest : List Oper} {v : Value} {a : Act} (hc : checkT ops k = true) (hw : Region.wanted o (yielded ops a.tmps) = true)
    (hQ : ∀ c a w, Q (.panic c) (a.put o.dst v) w → Q (.panic c) a w) (hr : ∀ m w, Turn .any k o m → S m w → ∃ w', (execOp a.eval o).run P w = .ok (.value v) w' ∧ S (m.setIfInBounds k true) w') (h : anyR P ops Q S (k + 1) rest (a.put o.dst v)) : anyR P ops Q S k (o :: rest) a :=
  anyR_take hc hQ (Or.inl ⟨hw, fun m hm w hs => by obtain ⟨w', h1, h2⟩ := hr m w hm hs; rw [h1]; exact ⟨rfl, h2⟩⟩) h
/-- .. a call of a function that has a contract -/
theorem anyR_call {k : Nat} {o : Oper} {rest : List Oper} {v : Value} {a : Act} {f : FuncId} {args : Array Value} (hc : checkT ops k = true) (hw : Region.wanted o (yielded ops a.tmps) = true)
    (hQ : ∀ c a w, Q (.panic c) (a.put o.dst v) w → Q (.panic c) a w) (hr : ∀ m w, Turn .any k o m → S m w → (execOp a.eval o).run P w = .ok (.enter f args) w)
    (hk : ∀ m w, Turn .any k o m → S m w → Calls P f args w fun e w' => e = .returned v ∧ S (m.setIfInBounds k true) w') (h : anyR P ops Q S (k + 1) rest (a.put o.dst v)) : anyR P ops Q S k (o :: rest) a :=
  anyR_take hc hQ (Or.inl ⟨hw, fun m hm w hs => by rw [hr m w hm hs]; exact hk m w hm hs⟩) h
theorem anyR_done {k : Nat} {a : Act} (hr : Region.ready .any ops (upTo ops.size k) = []) (h : ∀ w, S (upTo ops.size k) w → Q .normal a w) : anyR P ops Q S k [] a := fun _ => by
  cases ops.size - k with
  | zero => exact ⟨hr, h⟩
  | succ n => exact ⟨fun _ => h, by rw [hr]; simp⟩
theorem wp_region {id : Nat} {a : Act} {w : World} {l : List Oper} (hm : P.follows .mixedOrders = true) (hS : S (upTo l.toArray.size 0) w.drew) (h : anyR P l.toArray Q S 0 l a) : (Code.region id l.toArray true).wp P Q a w := by
  refine wp_region_any hm ?_
  have h := h rfl
  rw [Nat.sub_zero] at h
  have h2 := anyZ_sound _ _ _ h _ hS
  rw [upTo_zero] at h2
  exact h2
/-- S by two marks: has operation A come up, has operation B? -/
def by2 (A B : Nat) (T : Bool → Bool → World → Prop) (m : Array Bool) (w : World) : Prop := T (m.getD A true) (m.getD B true) w
theorem by2_set {A B k : Nat} {T : Bool → Bool → World → Prop} (hA : k ≠ A) (hB : k ≠ B) (m : Array Bool) (w : World) (h : by2 A B T m w) : by2 A B T (m.setIfInBounds k true) w := by
  unfold by2 at *
  rw [getD_set_ne true hA, getD_set_ne true hB]
  exact h
theorem getD_set_same (m : Array Bool) (k : Nat) : (m.setIfInBounds k true).getD k true = true := by
  rw [Array.getD_eq_getD_getElem?]
  by_cases h : k < m.size
  · simp [h]
  · simp [Nat.le_of_not_lt h]
theorem by2_A {A B : Nat} {T : Bool → Bool → World → Prop} (hB : A ≠ B) (m : Array Bool) (w : World) (h : T true (m.getD B true) w) : by2 A B T (m.setIfInBounds A true) w := by
  unfold by2
  rw [getD_set_same, getD_set_ne true hB]
  exact h
theorem by2_B {A B : Nat} {T : Bool → Bool → World → Prop} (hA : B ≠ A) (m : Array Bool) (w : World) (h : T (m.getD A true) true w) : by2 A B T (m.setIfInBounds B true) w := by
  unfold by2
  rw [getD_set_same, getD_set_ne true hA]
  exact h
theorem getD_up {m : Array Bool} {k : Nat} (h : m.getD k false = true) : m.getD k true = true := by
  rw [Array.getD_eq_getD_getElem?] at *
  cases hx : m[k]? with
  | none => rfl
  | some b => rw [hx] at h; exact h
theorem getD_upTo {n k K : Nat} (hK : K < n) : (upTo n k).getD K true = decide (K < k) := by
  unfold upTo
  simp [hK]
theorem by2_start {A B n : Nat} {T : Bool → Bool → World → Prop} {w : World} (hA : A < n) (hB : B < n) (h : T false false w) : by2 A B T (upTo n 0) w := by
  unfold by2
  rw [getD_upTo hA, getD_upTo hB]
  simpa using h
theorem by2_end {A B n k : Nat} {T : Bool → Bool → World → Prop} {w : World} (hA : A < n) (hB : B < n) (hA2 : A < k) (hB2 : B < k) (h : by2 A B T (upTo n k) w) : T true true w := by
  unfold by2 at h
  rw [getD_upTo hA, getD_upTo hB] at h
  simpa [hA2, hB2] using h
/-- S by one mark -/
def by1 (A : Nat) (T : Bool → World → Prop) (m : Array Bool) (w : World) : Prop := T (m.getD A true) w
theorem by1_set {A k : Nat} {T : Bool → World → Prop} (hA : k ≠ A) (m : Array Bool) (w : World) (h : by1 A T m w) : by1 A T (m.setIfInBounds k true) w := by
  unfold by1 at *
  rw [getD_set_ne true hA]
  exact h
theorem by1_A {A : Nat} {T : Bool → World → Prop} (m : Array Bool) (w : World) (h : T true w) : by1 A T (m.setIfInBounds A true) w := by
  unfold by1
  rw [getD_set_same]
  exact h
theorem by1_start {A n : Nat} {T : Bool → World → Prop} {w : World} (hA : A < n) (h : T false w) : by1 A T (upTo n 0) w := by
  unfold by1
  rw [getD_upTo hA]
  simpa using h
theorem by1_end {A n k : Nat} {T : Bool → World → Prop} {w : World} (hA : A < n) (hA2 : A < k) (h : by1 A T (upTo n k) w) : T true w := by
  unfold by1 at h
  rw [getD_upTo hA] at h
  simpa [hA2] using h
end
end Bz
