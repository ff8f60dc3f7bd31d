/-
  THE PLAIN MATHEMATICS OF LAYER 14 (fifo): items by their IDs, in the order in which they came; links in a ring.
-/
import Derived.Test.YtcfmbdcklapmhaaLib
namespace Go.Proofs.Ytcfmbdcklapmhaa
set_option linter.unusedVariables false
namespace Fq
/-- an item: its ID, its cost -/
abbrev It := Int × Int
def it0 : It := (0, 0)
/-- the thing by a key -/
def fd : List It → Int → Option Int
  | [], _ => none
  | x :: l, k => if x.1 = k then some x.2 else fd l k
/-- its place -/
def ix : List It → Int → Option Nat
  | [], _ => none
  | x :: l, k => if x.1 = k then some 0 else (ix l k).map (· + 1)
def drp (L : List It) (k : Int) : List It := L.filter (fun x => !decide (x.1 = k))
/-- no two by one key -/
def Ks (L : List It) : Prop := (L.map (·.1)).Nodup
theorem fd_none {L : List It} {k : Int} : fd L k = none ↔ k ∉ L.map (·.1) := by
  induction L with
  | nil => simp [fd]
  | cons x l ih =>
    simp only [fd, List.map_cons, List.mem_cons, not_or]
    by_cases e : x.1 = k
    · rw [if_pos e]; simp [e]
    · rw [if_neg e, ih]
      exact ⟨fun h => ⟨fun h2 => e h2.symm, h⟩, fun h => h.2⟩
theorem fd_mem {L : List It} {k : Int} {v : Int} (h : fd L k = some v) : (k, v) ∈ L := by
  induction L with
  | nil => cases h
  | cons x l ih =>
    simp only [fd] at h
    by_cases e : x.1 = k
    · rw [if_pos e] at h
      injection h with h
      rw [← e, ← h]
      exact List.mem_cons_self
    · rw [if_neg e] at h
      exact List.mem_cons_of_mem _ (ih h)
theorem fd_ix (L : List It) (k : Int) : fd L k = (ix L k).map (fun j => (L.getD j it0).2) := by
  induction L with
  | nil => rfl
  | cons x l ih =>
    simp only [fd, ix]
    by_cases e : x.1 = k
    · rw [if_pos e, if_pos e]; rfl
    · rw [if_neg e, if_neg e, ih]
      cases ix l k <;> rfl
theorem ix_key {L : List It} {k : Int} {j : Nat} (h : ix L k = some j) : j < L.length ∧ (L.getD j it0).1 = k := by
  induction L generalizing j with
  | nil => cases h
  | cons x l ih =>
    simp only [ix] at h
    by_cases e : x.1 = k
    · rw [if_pos e] at h
      injection h with h
      subst h
      exact ⟨by simp, e⟩
    · rw [if_neg e] at h
      obtain ⟨i, hi, rfl⟩ := Option.map_eq_some_iff.1 h
      obtain ⟨h1, h2⟩ := ih hi
      exact ⟨by simp only [List.length_cons]; omega, h2⟩
theorem ix_drop {L : List It} {j : Nat} (h : j < L.length) (k : Int) : ix (L.drop j) k = if (L.getD j it0).1 = k then some 0 else (ix (L.drop (j + 1)) k).map (· + 1) := by
  rw [List.drop_eq_getElem_cons h, List.getD_eq_getElem?_getD, List.getElem?_eq_getElem h]
  rfl
theorem drp_none {L : List It} {k : Int} (h : k ∉ L.map (·.1)) : drp L k = L := by
  unfold drp
  rw [List.filter_eq_self]
  intro x hx
  have : x.1 ≠ k := fun e => h (e ▸ List.mem_map.2 ⟨x, hx, rfl⟩)
  simp [this]
theorem drp_cons (x : It) (L : List It) (k : Int) : drp (x :: L) k = if x.1 = k then drp L k else x :: drp L k := by
  unfold drp
  rw [List.filter_cons]
  by_cases e : x.1 = k <;> simp [e]
theorem drp_app (A B : List It) (k : Int) : drp (A ++ B) k = drp A k ++ drp B k := List.filter_append ..
theorem mem_drp {L : List It} {k : Int} {x : It} : x ∈ drp L k ↔ x ∈ L ∧ x.1 ≠ k := by
  unfold drp
  rw [List.mem_filter]
  simp
theorem not_mem_drp (L : List It) (k : Int) : k ∉ (drp L k).map (·.1) := by
  intro h
  obtain ⟨x, hx, e⟩ := List.mem_map.1 h
  exact (mem_drp.1 hx).2 e
theorem Ks.sub {L M : List It} (h : Ks L) (hs : M.Sublist L) : Ks M := List.Nodup.sublist (hs.map _) h
theorem Ks.drp {L : List It} (h : Ks L) (k : Int) : Ks (drp L k) := h.sub List.filter_sublist
theorem drp_erase {L : List It} (h : Ks L) {k : Int} {j : Nat} (hj : ix L k = some j) : L.eraseIdx j = drp L k := by
  induction L generalizing j with
  | nil => cases hj
  | cons x l ih =>
    unfold Ks at h
    rw [List.map_cons, List.nodup_cons] at h
    simp only [ix] at hj
    rw [drp_cons]
    by_cases e : x.1 = k
    · rw [if_pos e] at hj ⊢
      injection hj with hj
      subst hj
      rw [drp_none (by rw [← e]; exact h.1)]
      rfl
    · rw [if_neg e] at hj ⊢
      obtain ⟨i, hi, rfl⟩ := Option.map_eq_some_iff.1 hj
      rw [List.eraseIdx_cons_succ, ih h.2 hi]
theorem drp_len {L : List It} (h : Ks L) {k : Int} (hk : k ∈ L.map (·.1)) : (drp L k).length + 1 = L.length := by
  cases hj : ix L k with
  | none =>
    have h1 := fd_ix L k
    rw [hj] at h1
    exact absurd hk (fd_none.1 h1)
  | some j =>
    have h1 := (ix_key hj).1
    rw [← drp_erase h hj, List.length_eraseIdx_of_lt h1]
    omega
theorem drp_le (L : List It) (k : Int) : (drp L k).length ≤ L.length := List.length_filter_le ..
/-! ### items that may be -/
def Okk (x : It) : Prop := 1 ≤ x.1 ∧ x.1 ≤ 9223372036854775807 ∧ 1 ≤ x.2 ∧ x.2 ≤ 64
/-- what Push tells -/
def pe (L : List It) (x : It) : Int := if x.1 < 1 ∨ x.2 < 1 ∨ 64 < x.2 then 1 else if (fd L x.1).isSome then 8 else 0
/-- .. and leaves -/
def pu (L : List It) (x : It) : List It := if x.1 < 1 ∨ x.2 < 1 ∨ 64 < x.2 then L else if (fd L x.1).isSome then L else L ++ [x]
/-- the sum of the costs -/
def cst : List It → Int
  | [] => 0
  | x :: l => x.2 + cst l
theorem cst_app (A B : List It) : cst (A ++ B) = cst A + cst B := by
  induction A with
  | nil => simp [cst]
  | cons x l ih => simp only [List.cons_append, cst, ih]; omega
theorem cst_bound {L : List It} (h : ∀ x ∈ L, Okk x) : 0 ≤ cst L ∧ cst L ≤ L.length * 64 := by
  induction L with
  | nil => simp [cst]
  | cons x l ih =>
    have h1 := ih (fun y hy => h y (List.mem_cons_of_mem _ hy))
    have h2 := h x List.mem_cons_self
    unfold Okk at h2
    simp only [cst, List.length_cons]
    omega
theorem cst_drp {L : List It} (h : Ks L) {k c : Int} (hf : fd L k = some c) : cst (drp L k) = cst L - c := by
  induction L with
  | nil => cases hf
  | cons x l ih =>
    unfold Ks at h
    rw [List.map_cons, List.nodup_cons] at h
    rw [drp_cons]
    simp only [fd] at hf
    by_cases e : x.1 = k
    · rw [if_pos e] at hf ⊢
      injection hf with hf
      rw [drp_none (by rw [← e]; exact h.1)]
      simp only [cst]
      omega
    · rw [if_neg e] at hf ⊢
      simp only [cst, ih h.2 hf]
      omega
theorem cst_take {L : List It} {j : Nat} (h : j < L.length) : cst (L.take (j + 1)) = cst (L.take j) + (L.getD j it0).2 := by
  rw [List.take_succ_eq_append_getElem h, cst_app, List.getD_eq_getElem?_getD, List.getElem?_eq_getElem h]
  simp [cst]
theorem pu_ks {L : List It} (h : Ks L) (x : It) : Ks (pu L x) := by
  unfold pu
  split
  · exact h
  · split
    · exact h
    · rename_i h2
      unfold Ks
      rw [List.map_append, List.nodup_append]
      refine ⟨h, by simp, fun a ha b hb e => ?_⟩
      simp only [List.map_cons, List.map_nil, List.mem_singleton] at hb
      have h3 : fd L x.1 = none := by
        cases hx : fd L x.1 with
        | none => rfl
        | some v => rw [hx] at h2; simp at h2
      exact fd_none.1 h3 (by rw [← hb, ← e]; exact ha)
theorem pu_len (L : List It) (x : It) : (pu L x).length ≤ L.length + 1 := by
  unfold pu
  split
  · omega
  · split
    · omega
    · simp
theorem fd_in {L : List It} {k c : Int} (h : fd L k = some c) : (k, c) ∈ L := fd_mem h
theorem head_drp {x : It} {l : List It} (h : Ks (x :: l)) : drp (x :: l) x.1 = l := by
  unfold Ks at h
  rw [List.map_cons, List.nodup_cons] at h
  rw [drp_cons, if_pos rfl, drp_none h.1]
theorem fd_zero {L : List It} (h : ∀ x ∈ L, Okk x) {k : Int} (hk : k < 1) : fd L k = none := by
  refine fd_none.2 (fun hm => ?_)
  obtain ⟨x, hx, e⟩ := List.mem_map.1 hm
  have h1 := (h x hx).1
  omega

/-! ### links -/
/-- a thing's block, and what it is -/
abbrev Nd := Nat × It
def its (ns : List Nd) : List It := ns.map (·.2)
def fb : List Nd → Int → Option Nat
  | [], _ => none
  | x :: l, k => if x.2.1 = k then some x.1 else fb l k
theorem its_app (A B : List Nd) : its (A ++ B) = its A ++ its B := List.map_append ..
theorem its_len (ns : List Nd) : (its ns).length = ns.length := List.length_map ..
theorem fb_fd (ns : List Nd) (k : Int) : (fb ns k).isSome = (fd (its ns) k).isSome := by
  induction ns with
  | nil => rfl
  | cons x l ih =>
    simp only [fb, its, List.map_cons, fd]
    by_cases e : x.2.1 = k
    · rw [if_pos e, if_pos e]; rfl
    · rw [if_neg e, if_neg e]; exact ih
theorem fb_split {ns : List Nd} {k : Int} {x : Nat} (h : fb ns k = some x) : ∃ A v B, ns = A ++ (x, (k, v)) :: B ∧ k ∉ (its A).map (·.1) := by
  induction ns with
  | nil => cases h
  | cons y l ih =>
    simp only [fb] at h
    by_cases e : y.2.1 = k
    · rw [if_pos e] at h
      injection h with h
      refine ⟨[], y.2.2, l, ?_, by simp [its]⟩
      rw [← e, ← h]
      rfl
    · rw [if_neg e] at h
      obtain ⟨A, v, B, h1, h2⟩ := ih h
      refine ⟨y :: A, v, B, by rw [h1]; rfl, ?_⟩
      simp only [its, List.map_cons, List.mem_cons, not_or]
      exact ⟨fun e2 => e e2.symm, h2⟩
theorem fb_none {ns : List Nd} {k : Int} : fb ns k = none ↔ k ∉ (its ns).map (·.1) := by
  rw [← fd_none, ← Option.isSome_eq_false_iff.trans Option.isNone_iff_eq_none, fb_fd, Option.isSome_eq_false_iff.trans Option.isNone_iff_eq_none]
theorem fb_app_none {A B : List Nd} {k : Int} (h : fb A k = none) : fb (A ++ B) k = fb B k := by
  induction A with
  | nil => rfl
  | cons y l ih =>
    simp only [fb] at h
    by_cases e : y.2.1 = k
    · rw [if_pos e] at h; cases h
    · rw [if_neg e] at h
      show (if y.2.1 = k then _ else _) = _
      rw [if_neg e]
      exact ih h
theorem fb_app_some {A B : List Nd} {k : Int} {x : Nat} (h : fb A k = some x) : fb (A ++ B) k = some x := by
  induction A with
  | nil => cases h
  | cons y l ih =>
    simp only [fb] at h
    show (if y.2.1 = k then _ else _) = _
    by_cases e : y.2.1 = k
    · rw [if_pos e] at h ⊢; exact h
    · rw [if_neg e] at h ⊢; exact ih h
/-- without one -/
theorem fb_out {A B : List Nd} {x : Nat} {k : Int} {v : Int} (h : Ks (its (A ++ (x, (k, v)) :: B))) (s : Int) : fb (A ++ B) s = if s = k then none else fb (A ++ (x, (k, v)) :: B) s := by
  unfold Ks at h
  rw [its_app, List.map_append, List.nodup_append] at h
  have hA : k ∉ (its A).map (·.1) := fun hm => h.2.2 _ hm k (by simp [its]) rfl
  have hB : k ∉ (its B).map (·.1) := by
    have h2 := h.2.1
    simp only [its, List.map_cons, List.nodup_cons] at h2
    exact h2.1
  by_cases e : s = k
  · subst e
    rw [if_pos rfl, fb_none, its_app, List.map_append, List.mem_append]
    exact fun hm => hm.elim hA hB
  · rw [if_neg e]
    cases hfa : fb A s with
    | some y => rw [fb_app_some hfa, fb_app_some hfa]
    | none =>
      rw [fb_app_none hfa, fb_app_none hfa]
      show _ = if k = s then _ else _
      rw [if_neg (fun h => e h.symm)]
theorem its_out {A B : List Nd} {x : Nat} {k : Int} {v : Int} (h : Ks (its (A ++ (x, (k, v)) :: B))) : drp (its (A ++ (x, (k, v)) :: B)) k = its (A ++ B) ∧ fd (its (A ++ (x, (k, v)) :: B)) k = some v := by
  unfold Ks at h
  rw [its_app, List.map_append, List.nodup_append] at h
  have hA : k ∉ (its A).map (·.1) := fun hm => h.2.2 _ hm k (by simp [its]) rfl
  have hB : k ∉ (its B).map (·.1) := by
    have h2 := h.2.1
    simp only [its, List.map_cons, List.nodup_cons] at h2
    exact h2.1
  have e : its ((x, (k, v)) :: B) = (k, v) :: its B := rfl
  constructor
  · rw [its_app, its_app, drp_app, drp_none hA, e, drp_cons, if_pos rfl, drp_none hB]
  · rw [its_app, e]
    generalize its A = M at hA
    induction M with
    | nil => show (if k = k then _ else _) = _; rw [if_pos rfl]
    | cons y l ih =>
      simp only [List.map_cons, List.mem_cons, not_or] at hA
      show (if y.1 = k then _ else _) = _
      rw [if_neg (fun e => hA.1 e.symm)]
      exact ih hA.2
/-- one stands behind the other -/
def Ln (R : Nat → Nat → Prop) : List Nat → Prop
  | x :: y :: t => R x y ∧ Ln R (y :: t)
  | _ => True
variable {R R' : Nat → Nat → Prop}
theorem Ln.cons2 {x y : Nat} {t : List Nat} : Ln R (x :: y :: t) ↔ R x y ∧ Ln R (y :: t) := Iff.rfl
theorem Ln.split (A : List Nat) (x : Nat) (B : List Nat) : Ln R (A ++ x :: B) ↔ Ln R (A ++ [x]) ∧ Ln R (x :: B) := by
  induction A with
  | nil => simp [Ln]
  | cons a A ih =>
    cases A with
    | nil => simp [Ln]
    | cons b A =>
      simp only [List.cons_append, Ln.cons2] at ih ⊢
      rw [ih]
      exact and_assoc.symm
theorem Ln.imp {l : List Nat} (h : Ln R l) (hi : ∀ x ∈ l.dropLast, ∀ y ∈ l.tail, R x y → R' x y) : Ln R' l := by
  induction l with
  | nil => trivial
  | cons a t ih =>
    cases t with
    | nil => trivial
    | cons b t =>
      refine ⟨hi a (by simp) b (by simp) h.1, ih h.2 (fun x hx y hy => hi x ?_ y ?_)⟩
      · simp only [List.dropLast_cons_cons, List.mem_cons]; exact Or.inr hx
      · simp only [List.tail_cons, List.mem_cons] at hy ⊢; exact Or.inr hy
/-- the ring as a row, from the ends to the ends -/
def cl (e : Nat) (ns : List Nd) : List Nat := e :: (ns.map (·.1) ++ [e])
end Fq
end Go.Proofs.Ytcfmbdcklapmhaa
