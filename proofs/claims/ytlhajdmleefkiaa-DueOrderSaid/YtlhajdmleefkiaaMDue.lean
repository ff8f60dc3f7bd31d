/-
  MATHEMATICS OF LAYER 9 (due): timers of kinds and numbers, and the wheel's numbers that stand for them.
-/
import Derived.Test.YtlhajdmleefkiaaMWheel
namespace Go.Proofs.Ytlhajdmleefkiaa.Dl
open Go Wl
set_option linter.unusedVariables false

/-- a timer: kind, number, tick -/
structure X where
  kind : Int
  id : Int
  tick : Nat
deriving DecidableEq
def x0 : X := ⟨0, 0, 0⟩
instance : Inhabited X := ⟨x0⟩
def May (k i : Int) : Prop := 1 ≤ k ∧ k ≤ 4 ∧ 0 ≤ i ∧ i ≤ 1099511627776
instance (k i : Int) : Decidable (May k i) := inferInstanceAs (Decidable (1 ≤ k ∧ k ≤ 4 ∧ 0 ≤ i ∧ i ≤ 1099511627776))
def numb (k i : Int) : Int := if May k i then k * 1099511627777 + i else -1
theorem numb_may {k i : Int} (h : May k i) : numb k i = k * 1099511627777 + i := if_pos h
theorem numb_not {k i : Int} (h : ¬ May k i) : numb k i = -1 := if_neg h
theorem numb_inj {k i k' i' : Int} (h : May k i) (h' : May k' i') (e : numb k i = numb k' i') : k = k' ∧ i = i' := by
  rw [numb_may h, numb_may h'] at e
  unfold May at h h'
  omega
theorem numb_bounds (k i : Int) : -1 ≤ numb k i ∧ numb k i ≤ 5497558138884 := by
  by_cases h : May k i
  · rw [numb_may h]; unfold May at h; omega
  · rw [numb_not h]; omega
theorem numb_nonneg {k i : Int} : May k i ↔ 0 ≤ numb k i := by
  by_cases h : May k i
  · rw [numb_may h]; unfold May at h; constructor
    · intro _; omega
    · intro _; unfold May; omega
  · rw [numb_not h]; constructor
    · intro h2; exact absurd h2 h
    · intro h2; omega
def nu (x : X) : T := (numb x.kind x.id, x.tick)
theorem quo {k i : Int} (h : May k i) : (numb k i).tdiv 1099511627777 = k ∧ (numb k i).tmod 1099511627777 = i := by
  rw [numb_may h]
  unfold May at h
  have h0 : 0 ≤ k * 1099511627777 + i := by omega
  rw [Int.tdiv_eq_ediv_of_nonneg h0, Int.tmod_eq_emod_of_nonneg h0]
  omega
/-- timers as they may be, each once -/
structure Ok (L : List X) : Prop where
  may : ∀ x ∈ L, May x.kind x.id
  tick : ∀ x ∈ L, x.tick < 2 ^ 64
  keys : Ks (L.map nu)
theorem Ok.nil : Ok [] := ⟨fun x hx => (by cases hx), fun x hx => (by cases hx), List.nodup_nil⟩
theorem Ok.sub {L l : List X} (h : Ok L) (hs : l.Sublist L) : Ok l :=
  ⟨fun x hx => h.may x (hs.subset hx), fun x hx => h.tick x (hs.subset hx), List.Nodup.sublist ((hs.map _).map _) h.keys⟩
/-- the place of a timer -/
def ps : List X → Int → Int → Option Nat
  | [], _, _ => none
  | x :: l, k, i => if x.kind = k ∧ x.id = i then some 0 else (ps l k i).map (· + 1)
theorem ps_some : ∀ {L : List X} {k i : Int} {j : Nat}, ps L k i = some j → j < L.length ∧ (L.getD j x0).kind = k ∧ (L.getD j x0).id = i
  | [], k, i, j, h => by cases h
  | x :: l, k, i, j, h => by
    unfold ps at h
    split at h
    · rename_i e
      injection h with h
      subst h
      exact ⟨by simp, e.1, e.2⟩
    · cases hl : ps l k i with
      | none => rw [hl] at h; cases h
      | some j2 =>
        rw [hl] at h
        injection h with h
        subst h
        obtain ⟨h1, h2, h3⟩ := ps_some hl
        exact ⟨by simpa using h1, h2, h3⟩
theorem ps_none : ∀ {L : List X} {k i : Int}, ps L k i = none ↔ ∀ x ∈ L, ¬ (x.kind = k ∧ x.id = i)
  | [], k, i => by simp [ps]
  | x :: l, k, i => by
    unfold ps
    have ih := ps_none (L := l) (k := k) (i := i)
    by_cases e : x.kind = k ∧ x.id = i
    · rw [if_pos e]
      constructor
      · intro h; cases h
      · intro h; exact absurd e (h x List.mem_cons_self)
    · rw [if_neg e, Option.map_eq_none_iff, ih]
      constructor
      · intro h y hy
        rcases List.mem_cons.1 hy with rfl | hy
        · exact e
        · exact h y hy
      · intro h y hy
        exact h y (List.mem_cons_of_mem _ hy)
theorem ps_may {L : List X} (h : Ok L) {k i : Int} {j : Nat} (hp : ps L k i = some j) : May k i := by
  obtain ⟨h1, h2, h3⟩ := ps_some hp
  have := h.may (L.getD j x0) (by rw [List.getD_eq_getElem?_getD, List.getElem?_eq_getElem h1]; exact List.getElem_mem h1)
  rw [h2, h3] at this
  exact this
/-- the wheel tells what the page's place tells -/
theorem fd_nu : ∀ {L : List X} (h : Ok L) (k i : Int), fd (L.map nu) (numb k i) = (ps L k i).map (fun j => (L.getD j x0).tick)
  | [], h, k, i => rfl
  | x :: l, h, k, i => by
    have hx := h.may x List.mem_cons_self
    have ih := fd_nu (h.sub (List.sublist_cons_self x l)) k i
    show (if numb x.kind x.id = numb k i then some x.tick else fd (l.map nu) (numb k i)) = _
    unfold ps
    by_cases e : x.kind = k ∧ x.id = i
    · rw [if_pos e, if_pos (by rw [e.1, e.2])]
      rfl
    · have hne : ¬ numb x.kind x.id = numb k i := by
        intro e2
        by_cases hm : May k i
        · exact e (numb_inj hx hm e2)
        · rw [numb_not hm] at e2
          have := numb_nonneg.1 hx
          omega
      rw [if_neg e, if_neg hne, ih, Option.map_map]
      rfl
theorem fd_nu_isSome {L : List X} (h : Ok L) (k i : Int) : (fd (L.map nu) (numb k i)).isSome = (ps L k i).isSome := by
  rw [fd_nu h]
  cases ps L k i <;> rfl
theorem erase_drp : ∀ {L : List X} (h : Ok L) {j : Nat}, j < L.length → (L.eraseIdx j).map nu = drp (L.map nu) (nu (L.getD j x0)).1
  | [], h, j, hj => by simp at hj
  | x :: l, h, 0, hj => by
    obtain ⟨h1, h2⟩ := List.nodup_cons.1 (show ((nu x).1 :: (l.map nu).map (·.1)).Nodup from h.keys)
    show l.map nu = drp (nu x :: l.map nu) (nu x).1
    have e2 : drp (nu x :: l.map nu) (nu x).1 = drp (l.map nu) (nu x).1 := by unfold drp; rw [List.filter_cons_of_neg (by simp)]
    rw [e2, drp_none (fd_none.2 h1)]
  | x :: l, h, j + 1, hj => by
    have ih := erase_drp (h.sub (List.sublist_cons_self x l)) (j := j) (by simpa using hj)
    obtain ⟨h1, h2⟩ := List.nodup_cons.1 (show ((nu x).1 :: (l.map nu).map (·.1)).Nodup from h.keys)
    have hj2 : j < l.length := by simpa using hj
    have hm : (nu (l.getD j x0)).1 ∈ (l.map nu).map (·.1) := by
      refine List.mem_map.2 ⟨_, List.mem_map.2 ⟨_, ?_, rfl⟩, rfl⟩
      rw [List.getD_eq_getElem?_getD, List.getElem?_eq_getElem hj2]
      exact List.getElem_mem hj2
    show nu x :: (l.eraseIdx j).map nu = drp (nu x :: l.map nu) (nu (l.getD j x0)).1
    have e2 : drp (nu x :: l.map nu) (nu (l.getD j x0)).1 = nu x :: drp (l.map nu) (nu (l.getD j x0)).1 := by
      unfold drp
      rw [List.filter_cons_of_pos (by simp only [bne_iff_ne, ne_eq]; intro e; exact h1 (by rw [e]; exact hm))]
    rw [e2, ih]
theorem ps_getD : ∀ {L : List X} (h : Ok L) {j : Nat}, j < L.length → ps L (L.getD j x0).kind (L.getD j x0).id = some j
  | [], h, j, hj => by simp at hj
  | x :: l, h, 0, hj => by
    show ps (x :: l) x.kind x.id = some 0
    unfold ps
    rw [if_pos ⟨rfl, rfl⟩]
  | x :: l, h, j + 1, hj => by
    have hj2 : j < l.length := by simpa using hj
    have ih := ps_getD (h.sub (List.sublist_cons_self x l)) hj2
    obtain ⟨h1, h2⟩ := List.nodup_cons.1 (show ((nu x).1 :: (l.map nu).map (·.1)).Nodup from h.keys)
    have hm : (nu (l.getD j x0)).1 ∈ (l.map nu).map (·.1) := by
      refine List.mem_map.2 ⟨_, List.mem_map.2 ⟨_, ?_, rfl⟩, rfl⟩
      rw [List.getD_eq_getElem?_getD, List.getElem?_eq_getElem hj2]
      exact List.getElem_mem hj2
    show ps (x :: l) (l.getD j x0).kind (l.getD j x0).id = some (j + 1)
    unfold ps
    rw [if_neg (fun e => h1 (by unfold nu; rw [e.1, e.2]; exact hm)), ih]
    rfl
theorem wo_getD {L : List X} (h : Ok L) {j : Nat} (hj : j < L.length) : L.eraseIdx j = (match ps L (L.getD j x0).kind (L.getD j x0).id with | none => L | some j => L.eraseIdx j) := by rw [ps_getD h hj]
def wo (L : List X) (k i : Int) : List X := match ps L k i with
  | none => L
  | some j => L.eraseIdx j
theorem wo_drp {L : List X} (h : Ok L) (k i : Int) : (wo L k i).map nu = drp (L.map nu) (numb k i) := by
  unfold wo
  have h1 := fd_nu h k i
  cases hp : ps L k i with
  | none =>
    rw [hp] at h1
    show L.map nu = _
    rw [drp_none h1]
  | some j =>
    obtain ⟨h2, h3, h4⟩ := ps_some hp
    show (L.eraseIdx j).map nu = _
    rw [erase_drp h h2]
    unfold nu
    rw [h3, h4]
theorem wo_sub (L : List X) (k i : Int) : (wo L k i).Sublist L := by
  unfold wo
  split
  · exact List.Sublist.refl _
  · exact List.eraseIdx_sublist _ _
theorem Ok.wo {L : List X} (h : Ok L) (k i : Int) : Ok (wo L k i) := h.sub (wo_sub L k i)
/-- Set: the answer, and what there is then -/
def st (L : List X) (k i : Int) (a : Nat) : Int × List X := if May k i then (0, wo L k i ++ [⟨k, i, a⟩]) else (1, L)
theorem Ok.set {L : List X} (h : Ok L) {k i : Int} {a : Nat} (ha : a < 2 ^ 64) : Ok (st L k i a).2 := by
  unfold st
  by_cases hm : May k i
  · rw [if_pos hm]
    have h1 := h.wo k i
    have h2 : fd ((Dl.wo L k i).map nu) (numb k i) = none := by rw [wo_drp h, fd_drp h.keys, if_pos rfl]
    refine ⟨fun x hx => ?_, fun x hx => ?_, ?_⟩
    · rcases List.mem_append.1 hx with hx | hx
      · exact h1.may x hx
      · rw [List.mem_singleton] at hx; rw [hx]; exact hm
    · rcases List.mem_append.1 hx with hx | hx
      · exact h1.tick x hx
      · rw [List.mem_singleton] at hx; rw [hx]; exact ha
    · rw [List.map_append]
      exact h1.keys.snoc h2 a
  · rw [if_neg hm]
    exact h
theorem st_len (L : List X) (k i : Int) (a : Nat) : (st L k i a).2.length ≤ L.length + 1 := by
  unfold st
  split
  · rw [List.length_append]
    have := (wo_sub L k i).length_le
    simp only [List.length_cons, List.length_nil]
    omega
  · exact Nat.le_succ _
/-- the order -/
def bef (x y : X) : Prop := x.tick < y.tick ∨ x.tick = y.tick ∧ (x.kind < y.kind ∨ x.kind = y.kind ∧ x.id < y.id)
instance (x y : X) : Decidable (bef x y) := inferInstanceAs (Decidable (x.tick < y.tick ∨ x.tick = y.tick ∧ (x.kind < y.kind ∨ x.kind = y.kind ∧ x.id < y.id)))
theorem bef_irrefl (x : X) : ¬ bef x x := by unfold bef; omega
theorem bef_trans {x y z : X} (h : bef x y) (k : bef y z) : bef x z := by unfold bef at *; omega
theorem bef_nu {x y : X} (hx : May x.kind x.id) (hy : May y.kind y.id) : lt (nu x) (nu y) ↔ bef x y := by
  unfold lt nu bef
  rw [numb_may hx, numb_may hy]
  unfold May at hx hy
  omega
/-- j is the place of the first of them -/
def Fx (L : List X) (j : Nat) : Prop := j < L.length ∧ ∀ x ∈ L, ¬ bef x (L.getD j x0)
theorem getD_mem {L : List X} {j : Nat} (h : j < L.length) : L.getD j x0 ∈ L := by
  rw [List.getD_eq_getElem?_getD, List.getElem?_eq_getElem h]
  exact List.getElem_mem h
theorem Fx.nxt {L : List X} {j : Nat} (h : Fx L j) : nxt (L.map nu) = some (L.getD j x0).tick := by
  refine nxt_of ⟨nu (L.getD j x0), List.mem_map.2 ⟨_, getD_mem h.1, rfl⟩, rfl⟩ (fun y hy => ?_)
  obtain ⟨x, hx, rfl⟩ := List.mem_map.1 hy
  have := h.2 x hx
  unfold bef at this
  show (L.getD j x0).tick ≤ x.tick
  omega
/-- what is the least number of the wheel is the first timer -/
theorem Fx.of_least {L : List X} (hL : Ok L) {j : Nat} (h : Fx L j) {y : T} (hy : y ∈ L.map nu) (hl : ∀ z ∈ L.map nu, z = y ∨ lt y z) : y = nu (L.getD j x0) := by
  rcases hl _ (List.mem_map.2 ⟨_, getD_mem h.1, rfl⟩) with e | e
  · exact e.symm
  · obtain ⟨x, hx, rfl⟩ := List.mem_map.1 hy
    rw [bef_nu (hL.may x hx) (hL.may _ (getD_mem h.1))] at e
    exact absurd e (h.2 x hx)
theorem bef_total {x y : X} (h : ¬ bef x y) (h2 : ¬ bef y x) : x = y := by
  obtain ⟨a, b, c⟩ := x
  obtain ⟨d, e, f⟩ := y
  unfold bef at h h2
  simp only at h h2
  have : a = d ∧ b = e ∧ c = f := by omega
  obtain ⟨rfl, rfl, rfl⟩ := this
  rfl
theorem Fx.least {L : List X} (hL : Ok L) {j : Nat} (h : Fx L j) : ∀ z ∈ L.map nu, z = nu (L.getD j x0) ∨ lt (nu (L.getD j x0)) z := by
  intro z hz
  obtain ⟨y, hy, rfl⟩ := List.mem_map.1 hz
  have h1 := h.2 y hy
  by_cases h2 : bef (L.getD j x0) y
  · exact Or.inr ((bef_nu (hL.may _ (getD_mem h.1)) (hL.may y hy)).2 h2)
  · exact Or.inl (by rw [bef_total h1 h2])
theorem srt_head {M d : List T} {m : Nat} {y : T} (hs : Srt (M.filter fun x => decide (x.2 ≤ m)) d) (hy : y ∈ M) (hm : y.2 ≤ m) (hl : ∀ z ∈ M, z = y ∨ lt y z) : ∃ d', d = y :: d' := by
  have h1 : y ∈ d := hs.1.mem_iff.2 (List.mem_filter.2 ⟨hy, by simpa using hm⟩)
  cases d with
  | nil => cases h1
  | cons a d' =>
    rcases List.mem_cons.1 h1 with rfl | h2
    · exact ⟨d', rfl⟩
    · have h3 := (List.pairwise_cons.1 hs.2).1 y h2
      have h4 := (List.mem_filter.1 (hs.1.mem_iff.1 (List.mem_cons_self (a := a) (l := d')))).1
      rcases hl a h4 with rfl | h5
      · exact ⟨d', rfl⟩
      · exact absurd (lt_trans h3 h5) (lt_irrefl _)
theorem Fx.one {L : List X} (hL : Ok L) {i j : Nat} (hi : Fx L i) (hj : Fx L j) : L.getD i x0 = L.getD j x0 := by
  have h1 := hi.2 _ (getD_mem hj.1)
  have h2 := hj.2 _ (getD_mem hi.1)
  have m1 := hL.may _ (getD_mem hi.1)
  have m2 := hL.may _ (getD_mem hj.1)
  obtain ⟨⟨a, b, c⟩, e1⟩ : ∃ x, L.getD i x0 = x := ⟨_, rfl⟩
  obtain ⟨⟨d, e, f⟩, e2⟩ : ∃ x, L.getD j x0 = x := ⟨_, rfl⟩
  rw [e1, e2] at h1 h2 ⊢
  unfold bef at h1 h2
  simp only at h1 h2
  have : a = d ∧ b = e ∧ c = f := by omega
  obtain ⟨rfl, rfl, rfl⟩ := this
  rfl
theorem fx_exists : ∀ (L : List X), L ≠ [] → ∃ j, Fx L j
  | [], h => absurd rfl h
  | [x], _ => ⟨0, by simp, fun y hy => by rw [List.mem_singleton] at hy; subst hy; exact bef_irrefl _⟩
  | x :: y :: l, _ => by
    obtain ⟨j, h1, h2⟩ := fx_exists (y :: l) (by simp)
    by_cases hb : bef x ((y :: l).getD j x0)
    · refine ⟨0, by simp, fun z hz => ?_⟩
      rcases List.mem_cons.1 hz with rfl | hz
      · exact bef_irrefl _
      · intro hzx
        exact h2 z hz (bef_trans hzx hb)
    · refine ⟨j + 1, by simpa using h1, fun z hz => ?_⟩
      rcases List.mem_cons.1 hz with rfl | hz
      · exact hb
      · exact h2 z hz
/-- whether nothing is due by that tick -/
def gob (L : List X) (tq : Nat) : Bool := match nxt (L.map nu) with
  | none => true
  | some m => decide (tq < m)
theorem gob_fx {L : List X} {j tq : Nat} (h : Fx L j) : gob L tq = decide (tq < (L.getD j x0).tick) := by unfold gob; rw [h.nxt]
theorem gob_nil (tq : Nat) : gob [] tq = true := rfl
/-- the row of what was found due, beside the wheel's list -/
structure Ri (L : List T) (now : Nat) (r : List T) : Prop where
  srt : r.Pairwise lt
  old : ∀ x ∈ r, x.2 ≤ now ∧ x.2 < 2 ^ 64 ∧ (fd L x.1 = none ∨ fd L x.1 = some x.2)
  all : ∀ y ∈ L, y ∈ r ∨ ∀ x ∈ r, x.2 < y.2
  bnd : ∀ x ∈ r, -1 ≤ x.1 ∧ x.1 ≤ 5497558138884
theorem Ri.nil (L : List T) (now : Nat) : Ri L now [] := ⟨List.Pairwise.nil, fun x hx => (by cases hx), fun y hy => Or.inr fun x hx => (by cases hx), fun x hx => (by cases hx)⟩
theorem Ri.drop {L : List T} {now : Nat} {r : List T} (h : Ri L now r) (hk : Ks L) (k : Int) : Ri (drp L k) now r where
  srt := h.srt
  old := fun x hx => by
    obtain ⟨h1, h2, h3⟩ := h.old x hx
    refine ⟨h1, h2, ?_⟩
    rw [fd_drp hk]
    by_cases e : x.1 = k
    · rw [if_pos e]; exact Or.inl rfl
    · rw [if_neg e]; exact h3
  all := fun y hy => h.all y (List.mem_filter.1 hy).1
  bnd := h.bnd
theorem Ri.later {L : List T} {now now' : Nat} {r : List T} (h : Ri L now r) (hn : now ≤ now') : Ri L now' r :=
  ⟨h.srt, fun x hx => ⟨Nat.le_trans (h.old x hx).1 hn, (h.old x hx).2⟩, h.all, h.bnd⟩
/-- the first of the row is gone -/
theorem Ri.tail {L : List T} {now : Nat} {x : T} {r : List T} (h : Ri L now (x :: r)) (hx : fd L x.1 = none) : Ri L now r where
  srt := (List.pairwise_cons.1 h.srt).2
  old := fun y hy => h.old y (List.mem_cons_of_mem _ hy)
  all := fun y hy => by
    rcases h.all y hy with h1 | h1
    · rcases List.mem_cons.1 h1 with rfl | h1
      · exact absurd (List.mem_map.2 ⟨_, hy, rfl⟩) (fd_none.1 hx)
      · exact Or.inl h1
    · exact Or.inr fun z hz => h1 z (List.mem_cons_of_mem _ hz)
  bnd := fun y hy => h.bnd y (List.mem_cons_of_mem _ hy)
/-- the first of the row, if it is there, is the first of all -/
theorem Ri.least {L : List T} {now : Nat} {x : T} {r : List T} (h : Ri L now (x :: r)) (hx : (fd L x.1).isSome = true) : x ∈ L ∧ ∀ z ∈ L, z = x ∨ lt x z := by
  have hm : x ∈ L := by
    rcases (h.old x List.mem_cons_self).2.2 with h1 | h1
    · rw [h1] at hx; cases hx
    · exact fd_some h1
  refine ⟨hm, fun z hz => ?_⟩
  rcases h.all z hz with h1 | h1
  · rcases List.mem_cons.1 h1 with h1 | h1
    · exact Or.inl h1
    · exact Or.inr ((List.pairwise_cons.1 h.srt).1 z h1)
  · exact Or.inr (Or.inl (h1 x List.mem_cons_self))
theorem Ri.nxt {L : List T} {now : Nat} {x : T} {r : List T} (h : Ri L now (x :: r)) (hx : (fd L x.1).isSome = true) : nxt L = some x.2 := by
  obtain ⟨h1, h2⟩ := h.least hx
  refine nxt_of ⟨x, h1, rfl⟩ (fun y hy => ?_)
  rcases h2 y hy with rfl | h3
  · exact Nat.le_refl _
  · unfold lt at h3; omega
/-- the row as find lays it -/
theorem Ri.found {L : List T} {m : Nat} {d : List T} (hk : Ks L) (hw : ∀ x ∈ L, x.2 < 2 ^ 64 ∧ -1 ≤ x.1 ∧ x.1 ≤ 5497558138884) (hs : Srt (L.filter fun x => decide (x.2 ≤ m)) d) : Ri L m d where
  srt := hs.2
  old := fun x hx => by
    have h1 := List.mem_filter.1 (hs.1.mem_iff.1 hx)
    exact ⟨by simpa using h1.2, (hw x h1.1).1, Or.inr (fd_of hk h1.1)⟩
  all := fun y hy => by
    rcases Nat.lt_or_ge m y.2 with h | h
    · refine Or.inr fun x hx => ?_
      have h1 := (List.mem_filter.1 (hs.1.mem_iff.1 hx)).2
      have h2 : x.2 ≤ m := by simpa using h1
      omega
    · exact Or.inl (hs.1.mem_iff.2 (List.mem_filter.2 ⟨hy, by simpa using h⟩))
  bnd := fun x hx => (hw x (List.mem_filter.1 (hs.1.mem_iff.1 hx)).1).2
/-! ### lists of the same numbers in another order -/
theorem Ks.perm {L L' : List T} (h : Ks L) (hp : L.Perm L') : Ks L' := (hp.map _).nodup_iff.1 h
theorem fd_perm {L L' : List T} (h : Ks L) (hp : L.Perm L') (k : Int) : fd L k = fd L' k := by
  cases hf : fd L k with
  | some a => exact (fd_of (Ks.perm h hp) (hp.mem_iff.1 (fd_some hf))).symm
  | none =>
    symm
    rw [fd_none] at hf ⊢
    intro hm
    exact hf ((hp.map _).mem_iff.2 hm)
theorem split_perm (L d : List T) (m : Nat) (hs : d.Perm (L.filter fun x => decide (x.2 ≤ m))) : ((L.filter fun x => decide (m < x.2)) ++ d).Perm L := by
  refine List.Perm.trans ?_ (List.filter_append_perm (fun x => decide (m < x.2)) L)
  refine List.Perm.append_left _ (hs.trans ?_)
  have e : (L.filter fun x => decide (x.2 ≤ m)) = L.filter fun x => !decide (m < x.2) := by
    refine List.filter_congr fun x _ => ?_
    by_cases h : x.2 ≤ m
    · have h2 : ¬ m < x.2 := by omega
      simp [h, h2]
    · have h2 : m < x.2 := by omega
      simp [h, h2]
  rw [e]
end Go.Proofs.Ytlhajdmleefkiaa.Dl
