/-
  THE PLAIN MATHEMATICS OF LAYER 12 (lru): rows of things by keys, the one that was used last first; links in a ring.
-/
import Derived.Test.YtbkbopaoeehfkaaLib
namespace Go.Proofs.Ytbkbopaoeehfkaa
set_option linter.unusedVariables false
namespace Lr
/-- a thing: a histogram -/
abbrev El := Nat → Int
def el0 : El := fun _ => 0
abbrev KV := ByteArray × El
def kv0 : KV := (ByteArray.empty, el0)
/-- the thing by a key -/
def fd : List KV → ByteArray → Option El
  | [], _ => none
  | x :: l, k => if x.1 = k then some x.2 else fd l k
/-- its place -/
def ix : List KV → ByteArray → Option Nat
  | [], _ => none
  | x :: l, k => if x.1 = k then some 0 else (ix l k).map (· + 1)
def drp (L : List KV) (k : ByteArray) : List KV := L.filter (fun x => !decide (x.1 = k))
/-- no two by one key -/
def Ks (L : List KV) : Prop := (L.map (·.1)).Nodup
/-- behind Put -/
def pt (room : Nat) (L : List KV) (k : ByteArray) (v : El) : List KV := ((k, v) :: drp L k).take room
/-- the key that goes for it -/
def gk (room : Nat) (L : List KV) (k : ByteArray) : ByteArray := if (drp L k).length < room then ByteArray.empty else ((drp L k).getLast?.getD kv0).1
def gb (room : Nat) (L : List KV) (k : ByteArray) : Bool := decide (room ≤ (drp L k).length)
/-- behind Get -/
def gt (L : List KV) (k : ByteArray) : List KV := match fd L k with | none => L | some v => (k, v) :: drp L k
theorem fd_none {L : List KV} {k : ByteArray} : fd L k = none ↔ k ∉ L.map (·.1) := by
  induction L with
  | nil => simp [fd]
  | cons x l ih =>
    simp only [fd, List.map_cons, List.mem_cons, not_or]
    by_cases e : x.1 = k
    · rw [if_pos e]; simp [e]
    · rw [if_neg e, ih]
      exact ⟨fun h => ⟨fun h2 => e h2.symm, h⟩, fun h => h.2⟩
theorem fd_mem {L : List KV} {k : ByteArray} {v : El} (h : fd L k = some v) : (k, v) ∈ L := by
  induction L with
  | nil => cases h
  | cons x l ih =>
    simp only [fd] at h
    by_cases e : x.1 = k
    · rw [if_pos e] at h
      injection h with h
      rw [← e, ← h]
      exact List.mem_cons_self
    · rw [if_neg e] at h
      exact List.mem_cons_of_mem _ (ih h)
theorem fd_ix (L : List KV) (k : ByteArray) : fd L k = (ix L k).map (fun j => (L.getD j kv0).2) := by
  induction L with
  | nil => rfl
  | cons x l ih =>
    simp only [fd, ix]
    by_cases e : x.1 = k
    · rw [if_pos e, if_pos e]; rfl
    · rw [if_neg e, if_neg e, ih]
      cases ix l k <;> rfl
theorem ix_key {L : List KV} {k : ByteArray} {j : Nat} (h : ix L k = some j) : j < L.length ∧ (L.getD j kv0).1 = k := by
  induction L generalizing j with
  | nil => cases h
  | cons x l ih =>
    simp only [ix] at h
    by_cases e : x.1 = k
    · rw [if_pos e] at h
      injection h with h
      subst h
      exact ⟨by simp, e⟩
    · rw [if_neg e] at h
      obtain ⟨i, hi, rfl⟩ := Option.map_eq_some_iff.1 h
      obtain ⟨h1, h2⟩ := ih hi
      exact ⟨by simp only [List.length_cons]; omega, h2⟩
theorem ix_drop {L : List KV} {j : Nat} (h : j < L.length) (k : ByteArray) : ix (L.drop j) k = if (L.getD j kv0).1 = k then some 0 else (ix (L.drop (j + 1)) k).map (· + 1) := by
  rw [List.drop_eq_getElem_cons h, List.getD_eq_getElem?_getD, List.getElem?_eq_getElem h]
  rfl
theorem drp_none {L : List KV} {k : ByteArray} (h : k ∉ L.map (·.1)) : drp L k = L := by
  unfold drp
  rw [List.filter_eq_self]
  intro x hx
  have : x.1 ≠ k := fun e => h (e ▸ List.mem_map.2 ⟨x, hx, rfl⟩)
  simp [this]
theorem drp_cons (x : KV) (L : List KV) (k : ByteArray) : drp (x :: L) k = if x.1 = k then drp L k else x :: drp L k := by
  unfold drp
  rw [List.filter_cons]
  by_cases e : x.1 = k <;> simp [e]
theorem drp_app (A B : List KV) (k : ByteArray) : drp (A ++ B) k = drp A k ++ drp B k := List.filter_append ..
theorem mem_drp {L : List KV} {k : ByteArray} {x : KV} : x ∈ drp L k ↔ x ∈ L ∧ x.1 ≠ k := by
  unfold drp
  rw [List.mem_filter]
  simp
theorem not_mem_drp (L : List KV) (k : ByteArray) : k ∉ (drp L k).map (·.1) := by
  intro h
  obtain ⟨x, hx, e⟩ := List.mem_map.1 h
  exact (mem_drp.1 hx).2 e
theorem Ks.sub {L M : List KV} (h : Ks L) (hs : M.Sublist L) : Ks M := List.Nodup.sublist (hs.map _) h
theorem Ks.drp {L : List KV} (h : Ks L) (k : ByteArray) : Ks (drp L k) := h.sub List.filter_sublist
theorem Ks.cons {L : List KV} (h : Ks L) (k : ByteArray) (v : El) : Ks ((k, v) :: Lr.drp L k) := by
  unfold Ks
  rw [List.map_cons, List.nodup_cons]
  exact ⟨not_mem_drp L k, h.drp k⟩
theorem Ks.pt {L : List KV} (h : Ks L) (room : Nat) (k : ByteArray) (v : El) : Ks (pt room L k v) := (h.cons k v).sub (List.take_sublist _ _)
theorem Ks.gt {L : List KV} (h : Ks L) (k : ByteArray) : Ks (gt L k) := by
  unfold Lr.gt
  cases fd L k with
  | none => exact h
  | some v => exact h.cons k v
theorem drp_erase {L : List KV} (h : Ks L) {k : ByteArray} {j : Nat} (hj : ix L k = some j) : L.eraseIdx j = drp L k := by
  induction L generalizing j with
  | nil => cases hj
  | cons x l ih =>
    unfold Ks at h
    rw [List.map_cons, List.nodup_cons] at h
    simp only [ix] at hj
    rw [drp_cons]
    by_cases e : x.1 = k
    · rw [if_pos e] at hj ⊢
      injection hj with hj
      subst hj
      rw [drp_none (by rw [← e]; exact h.1)]
      rfl
    · rw [if_neg e] at hj ⊢
      obtain ⟨i, hi, rfl⟩ := Option.map_eq_some_iff.1 hj
      rw [List.eraseIdx_cons_succ, ih h.2 hi]
theorem drp_len {L : List KV} (h : Ks L) {k : ByteArray} (hk : k ∈ L.map (·.1)) : (drp L k).length + 1 = L.length := by
  cases hj : ix L k with
  | none =>
    have h1 := fd_ix L k
    rw [hj] at h1
    exact absurd hk (fd_none.1 h1)
  | some j =>
    have h1 := (ix_key hj).1
    rw [← drp_erase h hj, List.length_eraseIdx_of_lt h1]
    omega
theorem drp_le (L : List KV) (k : ByteArray) : (drp L k).length ≤ L.length := List.length_filter_le ..
theorem drp_last {A : List KV} {z : KV} (h : Ks (A ++ [z])) : drp (A ++ [z]) z.1 = A := by
  unfold Ks at h
  rw [List.map_append, List.nodup_append] at h
  rw [drp_app, drp_none, drp_cons, if_pos rfl]
  · simp [drp]
  · intro hm
    exact h.2.2 _ hm _ (by simp) rfl
/-- what goes is the last one -/
theorem pt_last {L : List KV} (h : Ks L) {room : Nat} (hr : 0 < room) {k : ByteArray} {v : El} (hl : L.length ≤ room) (hg : room ≤ (drp L k).length) :
    drp L k ≠ [] ∧ drp ((k, v) :: drp L k) (gk room L k) = pt room L k v := by
  have h0 := drp_le L k
  have hlen : (drp L k).length = room := by omega
  obtain ⟨A, z, e⟩ : ∃ A z, drp L k = A ++ [z] := by
    rcases List.eq_nil_or_concat (drp L k) with h1 | ⟨A, z, h1⟩
    · rw [h1] at hlen; simp at hlen; omega
    · exact ⟨A, z, by rw [h1, List.concat_eq_append]⟩
  have hA : A.length + 1 = room := by rw [e, List.length_append] at hlen; simpa using hlen
  refine ⟨by rw [e]; simp, ?_⟩
  have hks := h.cons k v
  have hgk : gk room L k = z.1 := by
    unfold gk
    rw [if_neg (by omega), e]
    simp
  rw [hgk]
  unfold pt
  rw [e] at hks ⊢
  have h2 : (k, v) :: (A ++ [z]) = ((k, v) :: A) ++ [z] := rfl
  rw [h2] at hks ⊢
  rw [drp_last hks, List.take_append_of_le_length (by simp; omega), List.take_of_length_le (by simp; omega)]
theorem pt_fits {L : List KV} {room : Nat} {k : ByteArray} (v : El) (hg : (drp L k).length < room) : pt room L k v = (k, v) :: drp L k := by
  unfold pt
  exact List.take_of_length_le (by simp; omega)
theorem pt_len (L : List KV) (room : Nat) (k : ByteArray) (v : El) : (pt room L k v).length ≤ room ∧ (pt room L k v).length ≤ L.length + 1 := by
  unfold pt
  have := drp_le L k
  rw [List.length_take, List.length_cons]
  omega
theorem gt_len {L : List KV} (h : Ks L) (k : ByteArray) : (gt L k).length = L.length := by
  unfold gt
  cases hf : fd L k with
  | none => rfl
  | some v => exact drp_len h (List.mem_map.2 ⟨_, fd_mem hf, rfl⟩)
/-- what is there is used: nothing goes -/
theorem pt_gt {L : List KV} (h : Ks L) {room : Nat} {k : ByteArray} {v : El} (hf : fd L k = some v) (hl : L.length ≤ room) : pt room L k v = gt L k := by
  have h1 : (drp L k).length + 1 = L.length := drp_len h (List.mem_map.2 ⟨_, fd_mem hf, rfl⟩)
  rw [pt_fits v (by omega)]
  unfold gt
  rw [hf]
theorem fd_cons (x : KV) (L : List KV) (k : ByteArray) : fd (x :: L) k = if x.1 = k then some x.2 else fd L k := rfl
theorem fd_gt {L : List KV} (k : ByteArray) : fd (gt L k) k = fd L k := by
  unfold gt
  cases hf : fd L k with
  | none => exact hf
  | some v => rw [fd_cons, if_pos rfl]
theorem fd_pt {L : List KV} {room : Nat} (hr : 0 < room) (k : ByteArray) (v : El) : fd (pt room L k v) k = some v := by
  unfold pt
  cases room with
  | zero => omega
  | succ r => rw [List.take_succ_cons, fd_cons, if_pos rfl]

/-! ### links -/
/-- a thing's block, and what it is -/
abbrev Nd := Nat × KV
def kvs (ns : List Nd) : List KV := ns.map (·.2)
def fb : List Nd → ByteArray → Option Nat
  | [], _ => none
  | x :: l, k => if x.2.1 = k then some x.1 else fb l k
theorem kvs_app (A B : List Nd) : kvs (A ++ B) = kvs A ++ kvs B := List.map_append ..
theorem kvs_len (ns : List Nd) : (kvs ns).length = ns.length := List.length_map ..
theorem fb_fd (ns : List Nd) (k : ByteArray) : (fb ns k).isSome = (fd (kvs ns) k).isSome := by
  induction ns with
  | nil => rfl
  | cons x l ih =>
    simp only [fb, kvs, List.map_cons, fd]
    by_cases e : x.2.1 = k
    · rw [if_pos e, if_pos e]; rfl
    · rw [if_neg e, if_neg e]; exact ih
theorem fb_split {ns : List Nd} {k : ByteArray} {x : Nat} (h : fb ns k = some x) : ∃ A v B, ns = A ++ (x, (k, v)) :: B ∧ k ∉ (kvs A).map (·.1) := by
  induction ns with
  | nil => cases h
  | cons y l ih =>
    simp only [fb] at h
    by_cases e : y.2.1 = k
    · rw [if_pos e] at h
      injection h with h
      refine ⟨[], y.2.2, l, ?_, by simp [kvs]⟩
      rw [← e, ← h]
      rfl
    · rw [if_neg e] at h
      obtain ⟨A, v, B, h1, h2⟩ := ih h
      refine ⟨y :: A, v, B, by rw [h1]; rfl, ?_⟩
      simp only [kvs, List.map_cons, List.mem_cons, not_or]
      exact ⟨fun e2 => e e2.symm, h2⟩
theorem fb_none {ns : List Nd} {k : ByteArray} : fb ns k = none ↔ k ∉ (kvs ns).map (·.1) := by
  rw [← fd_none, ← Option.isSome_eq_false_iff.trans Option.isNone_iff_eq_none, fb_fd, Option.isSome_eq_false_iff.trans Option.isNone_iff_eq_none]
theorem fb_app_none {A B : List Nd} {k : ByteArray} (h : fb A k = none) : fb (A ++ B) k = fb B k := by
  induction A with
  | nil => rfl
  | cons y l ih =>
    simp only [fb] at h
    by_cases e : y.2.1 = k
    · rw [if_pos e] at h; cases h
    · rw [if_neg e] at h
      show (if y.2.1 = k then _ else _) = _
      rw [if_neg e]
      exact ih h
theorem fb_app_some {A B : List Nd} {k : ByteArray} {x : Nat} (h : fb A k = some x) : fb (A ++ B) k = some x := by
  induction A with
  | nil => cases h
  | cons y l ih =>
    simp only [fb] at h
    show (if y.2.1 = k then _ else _) = _
    by_cases e : y.2.1 = k
    · rw [if_pos e] at h ⊢; exact h
    · rw [if_neg e] at h ⊢; exact ih h
/-- without one -/
theorem fb_out {A B : List Nd} {x : Nat} {k : ByteArray} {v : El} (h : Ks (kvs (A ++ (x, (k, v)) :: B))) (s : ByteArray) : fb (A ++ B) s = if s = k then none else fb (A ++ (x, (k, v)) :: B) s := by
  unfold Ks at h
  rw [kvs_app, List.map_append, List.nodup_append] at h
  have hA : k ∉ (kvs A).map (·.1) := fun hm => h.2.2 _ hm k (by simp [kvs]) rfl
  have hB : k ∉ (kvs B).map (·.1) := by
    have h2 := h.2.1
    simp only [kvs, List.map_cons, List.nodup_cons] at h2
    exact h2.1
  by_cases e : s = k
  · subst e
    rw [if_pos rfl, fb_none, kvs_app, List.map_append, List.mem_append]
    exact fun hm => hm.elim hA hB
  · rw [if_neg e]
    cases hfa : fb A s with
    | some y => rw [fb_app_some hfa, fb_app_some hfa]
    | none =>
      rw [fb_app_none hfa, fb_app_none hfa]
      show _ = if k = s then _ else _
      rw [if_neg (fun h => e h.symm)]
theorem kvs_out {A B : List Nd} {x : Nat} {k : ByteArray} {v : El} (h : Ks (kvs (A ++ (x, (k, v)) :: B))) : drp (kvs (A ++ (x, (k, v)) :: B)) k = kvs (A ++ B) ∧ fd (kvs (A ++ (x, (k, v)) :: B)) k = some v := by
  unfold Ks at h
  rw [kvs_app, List.map_append, List.nodup_append] at h
  have hA : k ∉ (kvs A).map (·.1) := fun hm => h.2.2 _ hm k (by simp [kvs]) rfl
  have hB : k ∉ (kvs B).map (·.1) := by
    have h2 := h.2.1
    simp only [kvs, List.map_cons, List.nodup_cons] at h2
    exact h2.1
  have e : kvs ((x, (k, v)) :: B) = (k, v) :: kvs B := rfl
  constructor
  · rw [kvs_app, kvs_app, drp_app, drp_none hA, e, drp_cons, if_pos rfl, drp_none hB]
  · rw [kvs_app, e]
    generalize kvs A = M at hA
    induction M with
    | nil => show (if k = k then _ else _) = _; rw [if_pos rfl]
    | cons y l ih =>
      simp only [List.map_cons, List.mem_cons, not_or] at hA
      show (if y.1 = k then _ else _) = _
      rw [if_neg (fun e => hA.1 e.symm)]
      exact ih hA.2
/-- one stands behind the other -/
def Ln (R : Nat → Nat → Prop) : List Nat → Prop
  | x :: y :: t => R x y ∧ Ln R (y :: t)
  | _ => True
variable {R R' : Nat → Nat → Prop}
theorem Ln.cons2 {x y : Nat} {t : List Nat} : Ln R (x :: y :: t) ↔ R x y ∧ Ln R (y :: t) := Iff.rfl
theorem Ln.split (A : List Nat) (x : Nat) (B : List Nat) : Ln R (A ++ x :: B) ↔ Ln R (A ++ [x]) ∧ Ln R (x :: B) := by
  induction A with
  | nil => simp [Ln]
  | cons a A ih =>
    cases A with
    | nil => simp [Ln]
    | cons b A =>
      simp only [List.cons_append, Ln.cons2] at ih ⊢
      rw [ih]
      exact and_assoc.symm
theorem Ln.imp {l : List Nat} (h : Ln R l) (hi : ∀ x ∈ l.dropLast, ∀ y ∈ l.tail, R x y → R' x y) : Ln R' l := by
  induction l with
  | nil => trivial
  | cons a t ih =>
    cases t with
    | nil => trivial
    | cons b t =>
      refine ⟨hi a (by simp) b (by simp) h.1, ih h.2 (fun x hx y hy => hi x ?_ y ?_)⟩
      · simp only [List.dropLast_cons_cons, List.mem_cons]; exact Or.inr hx
      · simp only [List.tail_cons, List.mem_cons] at hy ⊢; exact Or.inr hy
/-- the ring as a row, from the ends to the ends -/
def cl (e : Nat) (ns : List Nd) : List Nat := e :: (ns.map (·.1) ++ [e])
end Lr
end Go.Proofs.Ytbkbopaoeehfkaa
